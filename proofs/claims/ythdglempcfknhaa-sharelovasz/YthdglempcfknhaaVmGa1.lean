/- Plain functions, and that the small machine answers as they do. -/
import Derived.Test.YthdglempcfknhaaVmP
import Derived.Test.YthdglempcfknhaaVmAE
open Go.Vm
set_option linter.unusedVariables false
namespace Go.Proofs.Ythdglempcfknhaa.T
open Go
/- dibber/share.Dearest-1 -/

def g82 (M : Means) (ro : List ABlk) (x0 : Int) (x1 : Int) (v2 : AVal) (m0 : Mm) : Option (AVal × Heap × Nat × Nat) :=
  bindO (some (Mm.base m0)) fun m_1 =>
  bindO (ldM ro m_1 true 1 v2) fun v6 =>
  bindO (evP .e (.ixS 1 (.c v6) (.c (.i .i64 x1)))) fun v8 =>
  bindO (ldM ro m_1 true 1 v8) fun v9 =>
  asI .i64 v9 fun x9 =>
  bindO (ldM ro m_1 true 1 v2) fun v10 =>
  bindO (evP .e (.ixS 1 (.c v10) (.c (.i .i64 x0)))) fun v12 =>
  bindO (ldM ro m_1 true 1 v12) fun v13 =>
  asI .i64 v13 fun x13 =>
  bindP (callM M.call m_1 83 [(.i .i64 x9), (.i .i64 x13)]) fun v14 m_2 =>
  asI .i64 v14 fun x14 =>
  bindO (some (Mm.join m0 m_2)) fun m_3 =>
  finM m0.h.length (tupA [(.i .i64 x14)]) m_3

theorem g82_ok {ro : List ABlk} {O : Caller} {M : Means} (hM : M.Ok ⟨F, O⟩ ro) {x0 x1 v2 h r} (ho : O 82 [(.i .i64 x0), (.i .i64 x1), v2] h = none) (hr : g82 M ro x0 x1 v2 ⟨h, h.length, h.length⟩ = some r) : callX ⟨F, O⟩ ro 82 [(.i .i64 x0), (.i .i64 x1), v2] h = some r := by
  refine callX_of (F := ⟨F, O⟩) (fn := fn82) (g := g82 M ro x0 x1 v2) ho rfl rfl hr ?_
  clear ho
  clear hr
  intro m0 t0 ht hr
  have g0 : t0.get 0 = (.i .i64 x0) := ht 0
  have g1 : t0.get 1 = (.i .i64 x1) := ht 1
  have g2 : t0.get 2 = v2 := ht 2
  clear ht
  unfold g82 at hr
  refine w_seq ?_
  refine w_ops ?_
  refine wo_step (v := (.i .i64 0)) (s_pure (p_mv rfl)) ?_
  refine wo_nil ?_
  refine nx_norm ?_
  refine w_seq ?_
  have hq := bindO_inv hr
  clear hr
  obtain ⟨m_1, ef, hr⟩ := hq
  refine w_flt (af := false) rfl ef ?_
  have hq := bindO_inv hr
  clear hr
  obtain ⟨v6, e6, hr⟩ := hq
  refine wf_step (v := v6) (f_P rfl (s_ld g2 e6)) ?_
  refine wf_step (v := (.i .i64 x1)) (f_P rfl (s_pure (p_mv g1))) ?_
  have hq := bindO_inv hr
  clear hr
  obtain ⟨v8, e8, hr⟩ := hq
  refine wf_step (v := v8) (f_P rfl (s_pure (o_ixS rfl rfl e8))) ?_
  have hq := bindO_inv hr
  clear hr
  obtain ⟨v9, e9, hr⟩ := hq
  have hq := asI_inv hr
  clear hr
  obtain ⟨x9, rfl, hr⟩ := hq
  refine wf_step (v := (.i .i64 x9)) (f_P rfl (s_ld rfl e9)) ?_
  have hq := bindO_inv hr
  clear hr
  obtain ⟨v10, e10, hr⟩ := hq
  refine wf_step (v := v10) (f_P rfl (s_ld g2 e10)) ?_
  refine wf_step (v := (.i .i64 x0)) (f_P rfl (s_pure (p_mv g0))) ?_
  have hq := bindO_inv hr
  clear hr
  obtain ⟨v12, e12, hr⟩ := hq
  refine wf_step (v := v12) (f_P rfl (s_pure (o_ixS rfl rfl e12))) ?_
  have hq := bindO_inv hr
  clear hr
  obtain ⟨v13, e13, hr⟩ := hq
  have hq := asI_inv hr
  clear hr
  obtain ⟨x13, rfl, hr⟩ := hq
  refine wf_step (v := (.i .i64 x13)) (f_P rfl (s_ld rfl e13)) ?_
  have hq := bindP_inv hr
  clear hr
  obtain ⟨v14, m_2, e14, hr⟩ := hq
  have hq := asI_inv hr
  clear hr
  obtain ⟨x14, rfl, hr⟩ := hq
  refine wf_step (v := (.i .i64 x14)) (f_N (s_call (mc rfl (mc rfl mn)) (callM_le hM.call e14))) ?_
  refine wf_step (v := (.i .i64 x14)) (f_P rfl (s_pure (p_mv rfl))) ?_
  have hq := bindO_inv hr
  clear hr
  obtain ⟨m_3, ef_1, hr⟩ := hq
  refine wf_end ef_1 ?_
  refine nx_norm ?_
  refine w_ret ?_
  exact qf ret_ok (rt rfl rn) hr

/- cmp.Compare[int] -/

def g83 (M : Means) (ro : List ABlk) (x0 : Int) (x1 : Int) (m0 : Mm) : Option (AVal × Heap × Nat × Nat) :=
  bindP (callM M.call m0 101 [(.i .i64 x0)]) fun v8 m_1 =>
  asB v8 fun c8 =>
  bindP (callM M.call m_1 101 [(.i .i64 x1)]) fun v10 m_2 =>
  asB v10 fun c10 =>
  cond c8 (
    cond c10 (
      finM m0.h.length (tupA [(.i .i64 0)]) m_2) (
      finM m0.h.length (tupA [(.i .i64 (-1))]) m_2)) (
    cond c10 (
      finM m0.h.length (tupA [(.i .i64 1)]) m_2) (
      forceB (ltI x0 x1) fun c16 =>
      cond c16 (
        finM m0.h.length (tupA [(.i .i64 (-1))]) m_2) (
        forceB (ltI x1 x0) fun c19 =>
        cond c19 (
          finM m0.h.length (tupA [(.i .i64 1)]) m_2) (
          finM m0.h.length (tupA [(.i .i64 0)]) m_2))))

theorem g83_ok {ro : List ABlk} {O : Caller} {M : Means} (hM : M.Ok ⟨F, O⟩ ro) {x0 x1 h r} (ho : O 83 [(.i .i64 x0), (.i .i64 x1)] h = none) (hr : g83 M ro x0 x1 ⟨h, h.length, h.length⟩ = some r) : callX ⟨F, O⟩ ro 83 [(.i .i64 x0), (.i .i64 x1)] h = some r := by
  refine callX_of (F := ⟨F, O⟩) (fn := fn83) (g := g83 M ro x0 x1) ho rfl rfl hr ?_
  clear ho
  clear hr
  intro m0 t0 ht hr
  have g0 : t0.get 0 = (.i .i64 x0) := ht 0
  have g1 : t0.get 1 = (.i .i64 x1) := ht 1
  clear ht
  unfold g83 at hr
  refine w_seq ?_
  refine w_ops ?_
  refine wo_step (v := (.i .i64 0)) (s_pure (p_mv rfl)) ?_
  refine wo_nil ?_
  refine nx_norm ?_
  refine w_seq ?_
  refine w_ops ?_
  refine wo_step (v := (.i .i64 x0)) (s_pure (p_mv g0)) ?_
  have hq := bindP_inv hr
  clear hr
  obtain ⟨v8, m_1, e8, hr⟩ := hq
  have hq := asB_inv hr
  clear hr
  obtain ⟨c8, rfl, hr⟩ := hq
  refine wo_step (v := (.b c8)) (s_call (mc rfl mn) (callM_le hM.call e8)) ?_
  refine wo_step (v := (.b c8)) (s_pure (p_mv rfl)) ?_
  refine wo_nil ?_
  refine nx_norm ?_
  refine w_seq ?_
  refine w_ops ?_
  refine wo_step (v := (.i .i64 x1)) (s_pure (p_mv g1)) ?_
  have hq := bindP_inv hr
  clear hr
  obtain ⟨v10, m_2, e10, hr⟩ := hq
  have hq := asB_inv hr
  clear hr
  obtain ⟨c10, rfl, hr⟩ := hq
  refine wo_step (v := (.b c10)) (s_call (mc rfl mn) (callM_le hM.call e10)) ?_
  refine wo_step (v := (.b c10)) (s_pure (p_mv rfl)) ?_
  refine wo_nil ?_
  refine nx_norm ?_
  refine w_seq ?_
  refine w_seq ?_
  refine w_ops ?_
  refine wo_step (v := (.b c8)) (s_pure (p_mv rfl)) ?_
  refine wo_nil ?_
  refine nx_norm ?_
  have hq := cond_inv hr
  clear hr
  rcases hq with ⟨rfl, hr⟩ | ⟨rfl, hr⟩
  · refine w_condT rfl ?_
    refine w_seq ?_
    refine w_seq ?_
    refine w_ops ?_
    refine wo_step (v := (.b c10)) (s_pure (p_mv rfl)) ?_
    refine wo_nil ?_
    refine nx_norm ?_
    have hq := cond_inv hr
    clear hr
    rcases hq with ⟨rfl, hr⟩ | ⟨rfl, hr⟩
    · refine w_condT rfl ?_
      refine w_seq ?_
      refine w_ops ?_
      refine wo_step (v := (.i .i64 0)) (s_pure (p_mv rfl)) ?_
      refine wo_nil ?_
      refine nx_norm ?_
      refine w_ret ?_
      refine nx_ret ?_
      refine nx_ret ?_
      exact qf ret_ok (rt rfl rn) hr
    · refine w_condF rfl ?_
      refine w_skip ?_
      refine nx_norm ?_
      refine w_seq ?_
      refine w_ops ?_
      refine wo_step (v := (.i .i64 (-1))) (s_pure (p_mv rfl)) ?_
      refine wo_nil ?_
      refine nx_norm ?_
      refine w_ret ?_
      refine nx_ret ?_
      exact qf ret_ok (rt rfl rn) hr
  · refine w_condF rfl ?_
    refine w_skip ?_
    refine nx_norm ?_
    refine w_seq ?_
    refine w_seq ?_
    refine w_ops ?_
    refine wo_step (v := (.b c10)) (s_pure (p_mv rfl)) ?_
    refine wo_nil ?_
    refine nx_norm ?_
    have hq := cond_inv hr
    clear hr
    rcases hq with ⟨rfl, hr⟩ | ⟨rfl, hr⟩
    · refine w_condT rfl ?_
      refine w_seq ?_
      refine w_ops ?_
      refine wo_step (v := (.i .i64 1)) (s_pure (p_mv rfl)) ?_
      refine wo_nil ?_
      refine nx_norm ?_
      refine w_ret ?_
      refine nx_ret ?_
      exact qf ret_ok (rt rfl rn) hr
    · refine w_condF rfl ?_
      refine w_skip ?_
      refine nx_norm ?_
      refine w_seq ?_
      refine w_seq ?_
      refine w_ops ?_
      refine wo_step (v := (.i .i64 x0)) (s_pure (p_mv g0)) ?_
      refine wo_step (v := (.i .i64 x1)) (s_pure (p_mv g1)) ?_
      have hq := forceB_inv hr
      clear hr
      obtain ⟨c16, e16, hr⟩ := hq
      refine wo_step (v := (.b c16)) (s_pure (p_bin rfl rfl (b_lss.trans (cb e16)))) ?_
      refine wo_nil ?_
      refine nx_norm ?_
      have hq := cond_inv hr
      clear hr
      rcases hq with ⟨rfl, hr⟩ | ⟨rfl, hr⟩
      · refine w_condT rfl ?_
        refine w_seq ?_
        refine w_ops ?_
        refine wo_step (v := (.i .i64 (-1))) (s_pure (p_mv rfl)) ?_
        refine wo_nil ?_
        refine nx_norm ?_
        refine w_ret ?_
        refine nx_ret ?_
        exact qf ret_ok (rt rfl rn) hr
      · refine w_condF rfl ?_
        refine w_skip ?_
        refine nx_norm ?_
        refine w_seq ?_
        refine w_seq ?_
        refine w_ops ?_
        refine wo_step (v := (.i .i64 x0)) (s_pure (p_mv g0)) ?_
        refine wo_step (v := (.i .i64 x1)) (s_pure (p_mv g1)) ?_
        have hq := forceB_inv hr
        clear hr
        obtain ⟨c19, e19, hr⟩ := hq
        refine wo_step (v := (.b c19)) (s_pure (p_bin rfl rfl (b_gtr.trans (cb e19)))) ?_
        refine wo_nil ?_
        refine nx_norm ?_
        have hq := cond_inv hr
        clear hr
        rcases hq with ⟨rfl, hr⟩ | ⟨rfl, hr⟩
        · refine w_condT rfl ?_
          refine w_seq ?_
          refine w_ops ?_
          refine wo_step (v := (.i .i64 1)) (s_pure (p_mv rfl)) ?_
          refine wo_nil ?_
          refine nx_norm ?_
          refine w_ret ?_
          refine nx_ret ?_
          exact qf ret_ok (rt rfl rn) hr
        · refine w_condF rfl ?_
          refine w_skip ?_
          refine nx_norm ?_
          refine w_seq ?_
          refine w_ops ?_
          refine wo_step (v := (.i .i64 0)) (s_pure (p_mv rfl)) ?_
          refine wo_nil ?_
          refine nx_norm ?_
          refine w_ret ?_
          exact qf ret_ok (rt rfl rn) hr

/- dibber/share.isCount -/
abbrev g84_J0 (m0 : Mm) (o : Bool) (m1 : Mm) (t1 : Tr) : Prop :=
  match o with
  | c8 => m0 = m1 ∧ t1.get 8 = (.b c8)
def g84 (M : Means) (ro : List ABlk) (x0 : Int) (m0 : Mm) : Option (AVal × Heap × Nat × Nat) :=
  forceB (!ltI x0 1) fun c4 =>
  bindO (cond c4 (
    forceB (!ltI 6 x0) fun c7 =>
    some c7) (
    some false)) fun c8 =>
  finM m0.h.length (tupA [(.b c8)]) m0

theorem g84_ok {ro : List ABlk} {O : Caller} {M : Means} (hM : M.Ok ⟨F, O⟩ ro) {x0 h r} (ho : O 84 [(.i .i64 x0)] h = none) (hr : g84 M ro x0 ⟨h, h.length, h.length⟩ = some r) : callX ⟨F, O⟩ ro 84 [(.i .i64 x0)] h = some r := by
  refine callX_of (F := ⟨F, O⟩) (fn := fn84) (g := g84 M ro x0) ho rfl rfl hr ?_
  clear ho
  clear hr
  intro m0 t0 ht hr
  have g0 : t0.get 0 = (.i .i64 x0) := ht 0
  clear ht
  unfold g84 at hr
  refine w_seq ?_
  refine w_ops ?_
  refine wo_step (v := (.b false)) (s_pure (p_mv rfl)) ?_
  refine wo_nil ?_
  refine nx_norm ?_
  refine w_seq ?_
  refine w_ops ?_
  refine wo_step (v := (.i .i64 x0)) (s_pure (p_mv g0)) ?_
  have hq := forceB_inv hr
  clear hr
  obtain ⟨c4, e4, hr⟩ := hq
  refine wo_step (v := (.b c4)) (s_pure (p_bin rfl rfl (b_leq.trans (cb e4)))) ?_
  refine wo_step (v := (.b c4)) (s_pure (p_mv rfl)) ?_
  have hq := bindO_inv hr
  clear hr
  obtain ⟨o, hr, hk⟩ := hq
  refine wo_join 3 (g84_J0 m0 o) ?_ ?_
  · clear hk
    have hq := cond_inv hr
    clear hr
    rcases hq with ⟨rfl, hr⟩ | ⟨rfl, hr⟩
    · refine wo_take (v := (.i .i64 x0)) rfl (s_pure (p_mv g0)) ?_
      have hq := forceB_inv hr
      clear hr
      obtain ⟨c7, e7, hr⟩ := hq
      refine wo_take (v := (.b c7)) rfl (s_pure (p_bin rfl rfl (b_leq.trans (cb e7)))) ?_
      refine wo_step (v := (.b c7)) (s_pure (p_pickT rfl rfl)) ?_
      refine wo_nil ?_
      cases hr
      exact ⟨_, _, rfl, rfl, gl rfl⟩
    · refine wo_skip (v := (.b false)) rfl rfl ?_
      refine wo_skip (v := (.b false)) rfl rfl ?_
      refine wo_step (v := (.b false)) (s_pure (p_pickF rfl rfl)) ?_
      refine wo_nil ?_
      cases hr
      exact ⟨_, _, rfl, rfl, gl rfl⟩
  · clear hr
    have hr := hk
    clear hk
    obtain ⟨c8, ho⟩ : ∃ z, z = o := ⟨_, rfl⟩
    subst ho
    rintro mm t_1 ⟨rfl, g8⟩
    refine wo_step (v := (.b c8)) (s_pure (p_mv g8)) ?_
    refine wo_nil ?_
    refine nx_norm ?_
    refine w_ret ?_
    exact qf ret_ok (rt rfl rn) hr

/- dibber/share.allWithin -/
abbrev g87_I0 (x1 : Int) (v0 : AVal) (x8 : Int) (s : Int × Mm) (m1 : Mm) (t1 : Tr) : Prop :=
  match s with
  | (x9, m_1) => m_1 = m1 ∧ t1.get 9 = (.i .i64 x9) ∧ t1.get 1 = (.i .i64 x1) ∧ t1.get 7 = v0 ∧ t1.get 8 = (.i .i64 x8)
abbrev g87_J0 (x1 : Int) (v0 : AVal) (x8 : Int) (o : (Mm ⊕ (Bool × Mm))) (e : AExit) (m1 : Mm) (t1 : Tr) : Prop :=
  match o with
  | (.inl mo) => e = (.exit 0) ∧ mo = m1
  | (.inr (y4, mo)) => e = .ret ∧ mo = m1 ∧ t1.get 4 = (.b y4)
def g87_b0 (M : Means) (ro : List ABlk) (x1 : Int) (v0 : AVal) (x8 : Int) (x9 : Int) (m_1 : Mm) : Option ((Int × Mm) ⊕ ((Mm ⊕ (Bool × Mm)))) :=
  forceB (ltI x9 x8) fun c10 =>
  cond c10 (
    bindO (evP .e (.ixS 1 (.c v0) (.c (.i .i64 x9)))) fun v11 =>
    bindO (ldM ro m_1 true 1 v11) fun v12 =>
    asI .i64 v12 fun x12 =>
    bindP (callM M.call m_1 50 [(.i .i64 x12), (.i .i64 x1)]) fun v15 m_2 =>
    asB v15 fun c15 =>
    forceB (!c15) fun c16 =>
    cond c16 (
      some (.inr (.inr (false, m_2)))) (
      forceI (wr .i64 (x9 + 1)) fun x17 =>
      some (.inl (x17, m_2)))) (
    some (.inr (.inl m_1)))
def g87 (M : Means) (ro : List ABlk) (v0 : AVal) (x1 : Int) (m0 : Mm) : Option (AVal × Heap × Nat × Nat) :=
  bindO (evP .e (.len false (.c v0))) fun v8 =>
  asI .i64 v8 fun x8 =>
  bindO (M.loop (S := Int × Mm) (R := (Mm ⊕ (Bool × Mm))) (fun s => g87_b0 M ro x1 v0 x8 s.1 s.2) (0, m0)) fun o => match o with
  | (.inl m_3) =>
    finM m0.h.length (tupA [(.b true)]) m_3
  | (.inr (c4, m_4)) =>
    finM m0.h.length (tupA [(.b c4)]) m_4

theorem g87_ok {ro : List ABlk} {O : Caller} {M : Means} (hM : M.Ok ⟨F, O⟩ ro) {v0 x1 h r} (ho : O 87 [v0, (.i .i64 x1)] h = none) (hr : g87 M ro v0 x1 ⟨h, h.length, h.length⟩ = some r) : callX ⟨F, O⟩ ro 87 [v0, (.i .i64 x1)] h = some r := by
  refine callX_of (F := ⟨F, O⟩) (fn := fn87) (g := g87 M ro v0 x1) ho rfl rfl hr ?_
  clear ho
  clear hr
  intro m0 t0 ht hr
  have g0 : t0.get 0 = v0 := ht 0
  have g1 : t0.get 1 = (.i .i64 x1) := ht 1
  clear ht
  unfold g87 at hr
  refine w_seq ?_
  refine w_ops ?_
  refine wo_step (v := (.b false)) (s_pure (p_mv rfl)) ?_
  refine wo_nil ?_
  refine nx_norm ?_
  refine w_seq ?_
  refine w_seq ?_
  refine w_ops ?_
  refine wo_step (v := v0) (s_pure (p_mv g0)) ?_
  have hq := bindO_inv hr
  clear hr
  obtain ⟨v8, e8, hr⟩ := hq
  have hq := asI_inv hr
  clear hr
  obtain ⟨x8, rfl, hr⟩ := hq
  refine wo_step (v := (.i .i64 x8)) (s_pure (o_len rfl e8)) ?_
  refine wo_step (v := (.i .i64 0)) (s_pure (p_mv rfl)) ?_
  refine wo_nil ?_
  refine nx_norm ?_
  refine w_block ?_
  have hq := bindO_inv hr
  clear hr
  obtain ⟨o, hl, hr⟩ := hq
  obtain ⟨n, hl⟩ := hM.loop _ _ _ hl
  refine jp_mono (w_loop _ (g87_I0 x1 v0 x8) (g87_J0 x1 v0 x8) ?_ n _ _ _ _ hl ⟨rfl, gl rfl, gl g1, gl rfl, gl rfl⟩) ?_
  · clear hr hl
    intro s mm_2 t_1 o hi hr
    obtain ⟨x9, m_1⟩ := s
    obtain ⟨rfl, g9, g1, g7, g8⟩ := hi
    unfold g87_b0 at hr
    refine w_seq ?_
    refine w_ops ?_
    have hq := forceB_inv hr
    clear hr
    obtain ⟨c10, e10, hr⟩ := hq
    refine wo_step (v := (.b c10)) (s_pure (p_bin g9 g8 (b_lss.trans (cb e10)))) ?_
    refine wo_nil ?_
    refine nx_norm ?_
    refine w_seq ?_
    have hq := cond_inv hr
    clear hr
    rcases hq with ⟨rfl, hr⟩ | ⟨rfl, hr⟩
    · refine w_condT rfl ?_
      refine w_skip ?_
      refine nx_norm ?_
      refine w_seq ?_
      refine w_block ?_
      refine w_seq ?_
      refine w_ops ?_
      have hq := bindO_inv hr
      clear hr
      obtain ⟨v11, e11, hr⟩ := hq
      refine wo_step (v := v11) (s_pure (o_ixS g7 g9 e11)) ?_
      have hq := bindO_inv hr
      clear hr
      obtain ⟨v12, e12, hr⟩ := hq
      have hq := asI_inv hr
      clear hr
      obtain ⟨x12, rfl, hr⟩ := hq
      refine wo_step (v := (.i .i64 x12)) (s_ld rfl e12) ?_
      refine wo_step (v := (.i .i64 x12)) (s_pure (p_mv rfl)) ?_
      refine wo_nil ?_
      refine nx_norm ?_
      refine w_seq ?_
      refine w_ops ?_
      refine wo_step (v := (.i .i64 x12)) (s_pure (p_mv rfl)) ?_
      refine wo_step (v := (.i .i64 x1)) (s_pure (p_mv g1)) ?_
      have hq := bindP_inv hr
      clear hr
      obtain ⟨v15, m_2, e15, hr⟩ := hq
      have hq := asB_inv hr
      clear hr
      obtain ⟨c15, rfl, hr⟩ := hq
      refine wo_step (v := (.b c15)) (s_call (mc rfl (mc rfl mn)) (callM_le hM.call e15)) ?_
      have hq := forceB_inv hr
      clear hr
      obtain ⟨c16, e16, hr⟩ := hq
      refine wo_step (v := (.b c16)) (s_pure ((p_not rfl).trans (cb e16))) ?_
      refine wo_nil ?_
      refine nx_norm ?_
      have hq := cond_inv hr
      clear hr
      rcases hq with ⟨rfl, hr⟩ | ⟨rfl, hr⟩
      · refine w_condT rfl ?_
        refine w_seq ?_
        refine w_ops ?_
        refine wo_step (v := (.b false)) (s_pure (p_mv rfl)) ?_
        refine wo_nil ?_
        refine nx_norm ?_
        refine w_ret ?_
        refine bk_ret ?_
        refine nx_ret ?_
        cases hr
        exact ⟨_, _, rfl, ne_norm_ret, rfl, rfl, gl rfl⟩
      · refine w_condF rfl ?_
        refine w_skip ?_
        refine bk_norm ?_
        refine nx_norm ?_
        refine w_ops ?_
        have hq := forceI_inv hr
        clear hr
        obtain ⟨x17, e17, hr⟩ := hq
        refine wo_step (v := (.i .i64 x17)) (s_pure (p_bin g9 rfl (b_add.trans (ci e17)))) ?_
        refine wo_step (v := (.i .i64 x17)) (s_pure (p_mv rfl)) ?_
        refine wo_nil ?_
        cases hr
        exact ⟨_, _, rfl, rfl, rfl, gl rfl, gl g1, gl g7, gl g8⟩
    · refine w_condF rfl ?_
      refine w_exit ?_
      refine nx_exit ?_
      cases hr
      exact ⟨_, _, rfl, ne_norm_exit, rfl, rfl⟩
  · rcases o with o | o
    · obtain ⟨m_3, ho⟩ : ∃ z, z = o := ⟨_, rfl⟩
      subst ho
      rintro _ mm t_2 ⟨rfl, rfl⟩
      refine bk_hit ?_
      refine nx_norm ?_
      refine w_seq ?_
      refine w_ops ?_
      refine wo_step (v := (.b true)) (s_pure (p_mv rfl)) ?_
      refine wo_nil ?_
      refine nx_norm ?_
      refine w_ret ?_
      exact qf ret_ok (rt rfl rn) hr
    · obtain ⟨c4, m_4⟩ := o
      rintro _ mm_1 t_3 ⟨rfl, rfl, g4⟩
      refine bk_ret ?_
      refine nx_ret ?_
      exact qf ret_ok (rt g4 rn) hr

/- dibber/share.passes -/
abbrev g88_I0 (x0 : Int) (v1 : AVal) (x8 : Int) (s : Int × Mm) (m1 : Mm) (t1 : Tr) : Prop :=
  match s with
  | (x9, m_1) => m_1 = m1 ∧ t1.get 9 = (.i .i64 x9) ∧ t1.get 0 = (.i .i64 x0) ∧ t1.get 7 = v1 ∧ t1.get 8 = (.i .i64 x8)
abbrev g88_J0 (x0 : Int) (v1 : AVal) (x8 : Int) (o : (Mm ⊕ (Bool × Mm))) (e : AExit) (m1 : Mm) (t1 : Tr) : Prop :=
  match o with
  | (.inl mo) => e = (.exit 0) ∧ mo = m1
  | (.inr (y4, mo)) => e = .ret ∧ mo = m1 ∧ t1.get 4 = (.b y4)
def g88_b0 (M : Means) (ro : List ABlk) (x0 : Int) (v1 : AVal) (x8 : Int) (x9 : Int) (m_1 : Mm) : Option ((Int × Mm) ⊕ ((Mm ⊕ (Bool × Mm)))) :=
  forceB (ltI x9 x8) fun c10 =>
  cond c10 (
    bindO (evP .e (.ixS 1 (.c v1) (.c (.i .i64 x9)))) fun v11 =>
    bindO (ldM ro m_1 true 1 v11) fun v12 =>
    bindP (callyM M.call M.round m_1 v12 [(.i .i64 x0)]) fun v15 m_2 =>
    asB v15 fun c15 =>
    forceB (!c15) fun c16 =>
    cond c16 (
      some (.inr (.inr (false, m_2)))) (
      forceI (wr .i64 (x9 + 1)) fun x17 =>
      some (.inl (x17, m_2)))) (
    some (.inr (.inl m_1)))
def g88 (M : Means) (ro : List ABlk) (x0 : Int) (v1 : AVal) (m0 : Mm) : Option (AVal × Heap × Nat × Nat) :=
  bindO (evP .e (.len false (.c v1))) fun v8 =>
  asI .i64 v8 fun x8 =>
  bindO (M.loop (S := Int × Mm) (R := (Mm ⊕ (Bool × Mm))) (fun s => g88_b0 M ro x0 v1 x8 s.1 s.2) (0, m0)) fun o => match o with
  | (.inl m_3) =>
    finM m0.h.length (tupA [(.b true)]) m_3
  | (.inr (c4, m_4)) =>
    finM m0.h.length (tupA [(.b c4)]) m_4

theorem g88_ok {ro : List ABlk} {O : Caller} {M : Means} (hM : M.Ok ⟨F, O⟩ ro) {x0 v1 h r} (ho : O 88 [(.i .i64 x0), v1] h = none) (hr : g88 M ro x0 v1 ⟨h, h.length, h.length⟩ = some r) : callX ⟨F, O⟩ ro 88 [(.i .i64 x0), v1] h = some r := by
  refine callX_of (F := ⟨F, O⟩) (fn := fn88) (g := g88 M ro x0 v1) ho rfl rfl hr ?_
  clear ho
  clear hr
  intro m0 t0 ht hr
  have g0 : t0.get 0 = (.i .i64 x0) := ht 0
  have g1 : t0.get 1 = v1 := ht 1
  clear ht
  unfold g88 at hr
  refine w_seq ?_
  refine w_ops ?_
  refine wo_step (v := (.b false)) (s_pure (p_mv rfl)) ?_
  refine wo_nil ?_
  refine nx_norm ?_
  refine w_seq ?_
  refine w_seq ?_
  refine w_ops ?_
  refine wo_step (v := v1) (s_pure (p_mv g1)) ?_
  have hq := bindO_inv hr
  clear hr
  obtain ⟨v8, e8, hr⟩ := hq
  have hq := asI_inv hr
  clear hr
  obtain ⟨x8, rfl, hr⟩ := hq
  refine wo_step (v := (.i .i64 x8)) (s_pure (o_len rfl e8)) ?_
  refine wo_step (v := (.i .i64 0)) (s_pure (p_mv rfl)) ?_
  refine wo_nil ?_
  refine nx_norm ?_
  refine w_block ?_
  have hq := bindO_inv hr
  clear hr
  obtain ⟨o, hl, hr⟩ := hq
  obtain ⟨n, hl⟩ := hM.loop _ _ _ hl
  refine jp_mono (w_loop _ (g88_I0 x0 v1 x8) (g88_J0 x0 v1 x8) ?_ n _ _ _ _ hl ⟨rfl, gl rfl, gl g0, gl rfl, gl rfl⟩) ?_
  · clear hr hl
    intro s mm_2 t_1 o hi hr
    obtain ⟨x9, m_1⟩ := s
    obtain ⟨rfl, g9, g0, g7, g8⟩ := hi
    unfold g88_b0 at hr
    refine w_seq ?_
    refine w_ops ?_
    have hq := forceB_inv hr
    clear hr
    obtain ⟨c10, e10, hr⟩ := hq
    refine wo_step (v := (.b c10)) (s_pure (p_bin g9 g8 (b_lss.trans (cb e10)))) ?_
    refine wo_nil ?_
    refine nx_norm ?_
    refine w_seq ?_
    have hq := cond_inv hr
    clear hr
    rcases hq with ⟨rfl, hr⟩ | ⟨rfl, hr⟩
    · refine w_condT rfl ?_
      refine w_skip ?_
      refine nx_norm ?_
      refine w_seq ?_
      refine w_block ?_
      refine w_seq ?_
      refine w_ops ?_
      have hq := bindO_inv hr
      clear hr
      obtain ⟨v11, e11, hr⟩ := hq
      refine wo_step (v := v11) (s_pure (o_ixS g7 g9 e11)) ?_
      have hq := bindO_inv hr
      clear hr
      obtain ⟨v12, e12, hr⟩ := hq
      refine wo_step (v := v12) (s_ld rfl e12) ?_
      refine wo_step (v := v12) (s_pure (p_mv rfl)) ?_
      refine wo_nil ?_
      refine nx_norm ?_
      refine w_seq ?_
      refine w_opsY ?_
      refine wy_step (v := v12) (y_C (s_pure (p_mv rfl))) ?_
      refine wy_step (v := (.i .i64 x0)) (y_C (s_pure (p_mv g0))) ?_
      have hq := bindP_inv hr
      clear hr
      obtain ⟨v15, m_2, e15, hr⟩ := hq
      have hq := asB_inv hr
      clear hr
      obtain ⟨c15, rfl, hr⟩ := hq
      refine wy_step (v := (.b c15)) (y_callv rfl (mc rfl mn) (callyM_le hM.call hM.round e15)) ?_
      have hq := forceB_inv hr
      clear hr
      obtain ⟨c16, e16, hr⟩ := hq
      refine wy_step (v := (.b c16)) (y_C (s_pure ((p_not rfl).trans (cb e16)))) ?_
      refine wy_nil ?_
      refine nx_norm ?_
      have hq := cond_inv hr
      clear hr
      rcases hq with ⟨rfl, hr⟩ | ⟨rfl, hr⟩
      · refine w_condT rfl ?_
        refine w_seq ?_
        refine w_ops ?_
        refine wo_step (v := (.b false)) (s_pure (p_mv rfl)) ?_
        refine wo_nil ?_
        refine nx_norm ?_
        refine w_ret ?_
        refine bk_ret ?_
        refine nx_ret ?_
        cases hr
        exact ⟨_, _, rfl, ne_norm_ret, rfl, rfl, gl rfl⟩
      · refine w_condF rfl ?_
        refine w_skip ?_
        refine bk_norm ?_
        refine nx_norm ?_
        refine w_ops ?_
        have hq := forceI_inv hr
        clear hr
        obtain ⟨x17, e17, hr⟩ := hq
        refine wo_step (v := (.i .i64 x17)) (s_pure (p_bin g9 rfl (b_add.trans (ci e17)))) ?_
        refine wo_step (v := (.i .i64 x17)) (s_pure (p_mv rfl)) ?_
        refine wo_nil ?_
        cases hr
        exact ⟨_, _, rfl, rfl, rfl, gl rfl, gl g0, gl g7, gl g8⟩
    · refine w_condF rfl ?_
      refine w_exit ?_
      refine nx_exit ?_
      cases hr
      exact ⟨_, _, rfl, ne_norm_exit, rfl, rfl⟩
  · rcases o with o | o
    · obtain ⟨m_3, ho⟩ : ∃ z, z = o := ⟨_, rfl⟩
      subst ho
      rintro _ mm t_2 ⟨rfl, rfl⟩
      refine bk_hit ?_
      refine nx_norm ?_
      refine w_seq ?_
      refine w_ops ?_
      refine wo_step (v := (.b true)) (s_pure (p_mv rfl)) ?_
      refine wo_nil ?_
      refine nx_norm ?_
      refine w_ret ?_
      exact qf ret_ok (rt rfl rn) hr
    · obtain ⟨c4, m_4⟩ := o
      rintro _ mm_1 t_3 ⟨rfl, rfl, g4⟩
      refine bk_ret ?_
      refine nx_ret ?_
      exact qf ret_ok (rt g4 rn) hr

/- dibber/share.above-1 -/

def g89 (M : Means) (ro : List ABlk) (x0 : Int) (v1 : AVal) (m0 : Mm) : Option (AVal × Heap × Nat × Nat) :=
  bindO (ldM ro m0 true 1 v1) fun v5 =>
  asI .i64 v5 fun x5 =>
  forceB (ltI x5 x0) fun c6 =>
  finM m0.h.length (tupA [(.b c6)]) m0

theorem g89_ok {ro : List ABlk} {O : Caller} {M : Means} (hM : M.Ok ⟨F, O⟩ ro) {x0 v1 h r} (ho : O 89 [(.i .i64 x0), v1] h = none) (hr : g89 M ro x0 v1 ⟨h, h.length, h.length⟩ = some r) : callX ⟨F, O⟩ ro 89 [(.i .i64 x0), v1] h = some r := by
  refine callX_of (F := ⟨F, O⟩) (fn := fn89) (g := g89 M ro x0 v1) ho rfl rfl hr ?_
  clear ho
  clear hr
  intro m0 t0 ht hr
  have g0 : t0.get 0 = (.i .i64 x0) := ht 0
  have g1 : t0.get 1 = v1 := ht 1
  clear ht
  unfold g89 at hr
  refine w_seq ?_
  refine w_ops ?_
  refine wo_step (v := (.b false)) (s_pure (p_mv rfl)) ?_
  refine wo_nil ?_
  refine nx_norm ?_
  refine w_seq ?_
  refine w_ops ?_
  refine wo_step (v := (.i .i64 x0)) (s_pure (p_mv g0)) ?_
  have hq := bindO_inv hr
  clear hr
  obtain ⟨v5, e5, hr⟩ := hq
  have hq := asI_inv hr
  clear hr
  obtain ⟨x5, rfl, hr⟩ := hq
  refine wo_step (v := (.i .i64 x5)) (s_ld g1 e5) ?_
  have hq := forceB_inv hr
  clear hr
  obtain ⟨c6, e6, hr⟩ := hq
  refine wo_step (v := (.b c6)) (s_pure (p_bin rfl rfl (b_gtr.trans (cb e6)))) ?_
  refine wo_step (v := (.b c6)) (s_pure (p_mv rfl)) ?_
  refine wo_nil ?_
  refine nx_norm ?_
  refine w_ret ?_
  exact qf ret_ok (rt rfl rn) hr

/- dibber/share.breaks-1 -/

def g90 (M : Means) (ro : List ABlk) (x0 : Int) (v1 : AVal) (v2 : AVal) (m0 : Mm) : Option (AVal × Heap × Nat × Nat) :=
  bindO (ldA ro m0.h true 1 v1) fun v5 =>
  bindO (ldA ro m0.h true 1 v2) fun v6 =>
  asI .i64 v6 fun x6 =>
  bindO (evP .e (.ixS 1 (.c v5) (.c (.i .i64 x6)))) fun v7 =>
  bindO (ldA ro m0.h true 1 v7) fun v8 =>
  asI .i64 v8 fun x8 =>
  bindO (ldA ro m0.h true 1 v1) fun v9 =>
  bindO (evP .e (.ixS 1 (.c v9) (.c (.i .i64 x0)))) fun v11 =>
  bindO (ldA ro m0.h true 1 v11) fun v12 =>
  asI .i64 v12 fun x12 =>
  forceI (wr .i64 (x8 + x12)) fun x13 =>
  bindO (ldA ro m0.h true 1 v1) fun v14 =>
  bindO (ldA ro m0.h true 1 v2) fun v15 =>
  asI .i64 v15 fun x15 =>
  forceI (bitV .or .i64 x15 x0) fun x17 =>
  bindO (evP .e (.ixS 1 (.c v14) (.c (.i .i64 x17)))) fun v18 =>
  bindO (ldA ro m0.h true 1 v18) fun v19 =>
  asI .i64 v19 fun x19 =>
  bindO (ldA ro m0.h true 1 v1) fun v20 =>
  bindO (ldA ro m0.h true 1 v2) fun v21 =>
  asI .i64 v21 fun x21 =>
  forceI (bitV .and .i64 x21 x0) fun x23 =>
  bindO (evP .e (.ixS 1 (.c v20) (.c (.i .i64 x23)))) fun v24 =>
  bindO (ldA ro m0.h true 1 v24) fun v25 =>
  asI .i64 v25 fun x25 =>
  forceI (wr .i64 (x19 + x25)) fun x26 =>
  forceB (ltI x13 x26) fun c27 =>
  finM m0.h.length (tupA [(.b c27)]) m0

theorem g90_ok {ro : List ABlk} {O : Caller} {M : Means} (hM : M.Ok ⟨F, O⟩ ro) {x0 v1 v2 h r} (ho : O 90 [(.i .i64 x0), v1, v2] h = none) (hr : g90 M ro x0 v1 v2 ⟨h, h.length, h.length⟩ = some r) : callX ⟨F, O⟩ ro 90 [(.i .i64 x0), v1, v2] h = some r := by
  refine callX_of (F := ⟨F, O⟩) (fn := fn90) (g := g90 M ro x0 v1 v2) ho rfl rfl hr ?_
  clear ho
  clear hr
  intro m0 t0 ht hr
  have g0 : t0.get 0 = (.i .i64 x0) := ht 0
  have g1 : t0.get 1 = v1 := ht 1
  have g2 : t0.get 2 = v2 := ht 2
  clear ht
  unfold g90 at hr
  refine w_seq ?_
  refine w_ops ?_
  refine wo_step (v := (.b false)) (s_pure (p_mv rfl)) ?_
  refine wo_nil ?_
  refine nx_norm ?_
  refine w_seq ?_
  refine w_any ?_
  have hq := bindO_inv hr
  clear hr
  obtain ⟨v5, e5, hr⟩ := hq
  refine wa_step (v := v5) (a_ld g1 e5) ?_
  have hq := bindO_inv hr
  clear hr
  obtain ⟨v6, e6, hr⟩ := hq
  have hq := asI_inv hr
  clear hr
  obtain ⟨x6, rfl, hr⟩ := hq
  refine wa_step (v := (.i .i64 x6)) (a_ld g2 e6) ?_
  have hq := bindO_inv hr
  clear hr
  obtain ⟨v7, e7, hr⟩ := hq
  refine wa_step (v := v7) (a_pure (o_ixS rfl rfl e7)) ?_
  have hq := bindO_inv hr
  clear hr
  obtain ⟨v8, e8, hr⟩ := hq
  have hq := asI_inv hr
  clear hr
  obtain ⟨x8, rfl, hr⟩ := hq
  refine wa_step (v := (.i .i64 x8)) (a_ld rfl e8) ?_
  have hq := bindO_inv hr
  clear hr
  obtain ⟨v9, e9, hr⟩ := hq
  refine wa_step (v := v9) (a_ld g1 e9) ?_
  refine wa_step (v := (.i .i64 x0)) (a_pure (p_mv g0)) ?_
  have hq := bindO_inv hr
  clear hr
  obtain ⟨v11, e11, hr⟩ := hq
  refine wa_step (v := v11) (a_pure (o_ixS rfl rfl e11)) ?_
  have hq := bindO_inv hr
  clear hr
  obtain ⟨v12, e12, hr⟩ := hq
  have hq := asI_inv hr
  clear hr
  obtain ⟨x12, rfl, hr⟩ := hq
  refine wa_step (v := (.i .i64 x12)) (a_ld rfl e12) ?_
  have hq := forceI_inv hr
  clear hr
  obtain ⟨x13, e13, hr⟩ := hq
  refine wa_step (v := (.i .i64 x13)) (a_pure (p_bin rfl rfl (b_add.trans (ci e13)))) ?_
  have hq := bindO_inv hr
  clear hr
  obtain ⟨v14, e14, hr⟩ := hq
  refine wa_step (v := v14) (a_ld g1 e14) ?_
  have hq := bindO_inv hr
  clear hr
  obtain ⟨v15, e15, hr⟩ := hq
  have hq := asI_inv hr
  clear hr
  obtain ⟨x15, rfl, hr⟩ := hq
  refine wa_step (v := (.i .i64 x15)) (a_ld g2 e15) ?_
  refine wa_step (v := (.i .i64 x0)) (a_pure (p_mv g0)) ?_
  have hq := forceI_inv hr
  clear hr
  obtain ⟨x17, e17, hr⟩ := hq
  refine wa_step (v := (.i .i64 x17)) (a_pure (p_bin rfl rfl (b_or.trans (ci e17)))) ?_
  have hq := bindO_inv hr
  clear hr
  obtain ⟨v18, e18, hr⟩ := hq
  refine wa_step (v := v18) (a_pure (o_ixS rfl rfl e18)) ?_
  have hq := bindO_inv hr
  clear hr
  obtain ⟨v19, e19, hr⟩ := hq
  have hq := asI_inv hr
  clear hr
  obtain ⟨x19, rfl, hr⟩ := hq
  refine wa_step (v := (.i .i64 x19)) (a_ld rfl e19) ?_
  have hq := bindO_inv hr
  clear hr
  obtain ⟨v20, e20, hr⟩ := hq
  refine wa_step (v := v20) (a_ld g1 e20) ?_
  have hq := bindO_inv hr
  clear hr
  obtain ⟨v21, e21, hr⟩ := hq
  have hq := asI_inv hr
  clear hr
  obtain ⟨x21, rfl, hr⟩ := hq
  refine wa_step (v := (.i .i64 x21)) (a_ld g2 e21) ?_
  refine wa_step (v := (.i .i64 x0)) (a_pure (p_mv g0)) ?_
  have hq := forceI_inv hr
  clear hr
  obtain ⟨x23, e23, hr⟩ := hq
  refine wa_step (v := (.i .i64 x23)) (a_pure (p_bin rfl rfl (b_and.trans (ci e23)))) ?_
  have hq := bindO_inv hr
  clear hr
  obtain ⟨v24, e24, hr⟩ := hq
  refine wa_step (v := v24) (a_pure (o_ixS rfl rfl e24)) ?_
  have hq := bindO_inv hr
  clear hr
  obtain ⟨v25, e25, hr⟩ := hq
  have hq := asI_inv hr
  clear hr
  obtain ⟨x25, rfl, hr⟩ := hq
  refine wa_step (v := (.i .i64 x25)) (a_ld rfl e25) ?_
  have hq := forceI_inv hr
  clear hr
  obtain ⟨x26, e26, hr⟩ := hq
  refine wa_step (v := (.i .i64 x26)) (a_pure (p_bin rfl rfl (b_add.trans (ci e26)))) ?_
  have hq := forceB_inv hr
  clear hr
  obtain ⟨c27, e27, hr⟩ := hq
  refine wa_step (v := (.b c27)) (a_pure (p_bin rfl rfl (b_lss.trans (cb e27)))) ?_
  refine wa_step (v := (.b c27)) (a_pure (p_mv rfl)) ?_
  refine wa_nil ?_
  refine ⟨m0, rfl, ?_⟩
  refine nx_norm ?_
  refine w_ret ?_
  exact qf ret_ok (rt rfl rn) hr

/- dibber/share.paysMore-1 -/

def g95 (M : Means) (ro : List ABlk) (x0 : Int) (v1 : AVal) (v2 : AVal) (m0 : Mm) : Option (AVal × Heap × Nat × Nat) :=
  bindO (some (Mm.base m0)) fun m_1 =>
  bindO (ldM ro m_1 true 1 v1) fun v5 =>
  bindP (callM M.call m_1 67 [v5, (.i .i64 x0)]) fun v7 m_2 =>
  asI .i64 v7 fun x7 =>
  chk (!Nat.blt m_2.lw m0.h.length) <|
  bindO (ldA ro m0.h true 1 v2) fun v8 =>
  bindO (evP .e (.ixS 1 (.c v8) (.c (.i .i64 x0)))) fun v10 =>
  bindO (ldA ro m0.h true 1 v10) fun v11 =>
  asI .i64 v11 fun x11 =>
  forceB (ltI x11 x7) fun c12 =>
  bindO (some (Mm.join m0 m_2)) fun m_3 =>
  finM m0.h.length (tupA [(.b c12)]) m_3

theorem g95_ok {ro : List ABlk} {O : Caller} {M : Means} (hM : M.Ok ⟨F, O⟩ ro) {x0 v1 v2 h r} (ho : O 95 [(.i .i64 x0), v1, v2] h = none) (hr : g95 M ro x0 v1 v2 ⟨h, h.length, h.length⟩ = some r) : callX ⟨F, O⟩ ro 95 [(.i .i64 x0), v1, v2] h = some r := by
  refine callX_of (F := ⟨F, O⟩) (fn := fn95) (g := g95 M ro x0 v1 v2) ho rfl rfl hr ?_
  clear ho
  clear hr
  intro m0 t0 ht hr
  have g0 : t0.get 0 = (.i .i64 x0) := ht 0
  have g1 : t0.get 1 = v1 := ht 1
  have g2 : t0.get 2 = v2 := ht 2
  clear ht
  unfold g95 at hr
  refine w_seq ?_
  refine w_ops ?_
  refine wo_step (v := (.b false)) (s_pure (p_mv rfl)) ?_
  refine wo_nil ?_
  refine nx_norm ?_
  refine w_seq ?_
  have hq := bindO_inv hr
  clear hr
  obtain ⟨m_1, ef, hr⟩ := hq
  refine w_flt (af := true) rfl ef ?_
  have hq := bindO_inv hr
  clear hr
  obtain ⟨v5, e5, hr⟩ := hq
  refine wf_step (v := v5) (f_P rfl (s_ld g1 e5)) ?_
  refine wf_step (v := (.i .i64 x0)) (f_P rfl (s_pure (p_mv g0))) ?_
  have hq := bindP_inv hr
  clear hr
  obtain ⟨v7, m_2, e7, hr⟩ := hq
  have hq := asI_inv hr
  clear hr
  obtain ⟨x7, rfl, hr⟩ := hq
  have hq := chk_inv hr
  clear hr
  obtain ⟨hc7, hr⟩ := hq
  refine wf_step (v := (.i .i64 x7)) (f_M hc7 (s_call (mc rfl (mc rfl mn)) (callM_le hM.call e7))) ?_
  have hq := bindO_inv hr
  clear hr
  obtain ⟨v8, e8, hr⟩ := hq
  refine wf_step (v := v8) (f_ld g2 e8) ?_
  refine wf_step (v := (.i .i64 x0)) (f_P rfl (s_pure (p_mv g0))) ?_
  have hq := bindO_inv hr
  clear hr
  obtain ⟨v10, e10, hr⟩ := hq
  refine wf_step (v := v10) (f_P rfl (s_pure (o_ixS rfl rfl e10))) ?_
  have hq := bindO_inv hr
  clear hr
  obtain ⟨v11, e11, hr⟩ := hq
  have hq := asI_inv hr
  clear hr
  obtain ⟨x11, rfl, hr⟩ := hq
  refine wf_step (v := (.i .i64 x11)) (f_ld rfl e11) ?_
  have hq := forceB_inv hr
  clear hr
  obtain ⟨c12, e12, hr⟩ := hq
  refine wf_step (v := (.b c12)) (f_P rfl (s_pure (p_bin rfl rfl (b_gtr.trans (cb e12))))) ?_
  refine wf_step (v := (.b c12)) (f_P rfl (s_pure (p_mv rfl))) ?_
  have hq := bindO_inv hr
  clear hr
  obtain ⟨m_3, ef_1, hr⟩ := hq
  refine wf_end ef_1 ?_
  refine nx_norm ?_
  refine w_ret ?_
  exact qf ret_ok (rt rfl rn) hr

/- slices.stableCmpFunc[int] -/
abbrev g100_I0 (v0 : AVal) (x1 : Int) (v2 : AVal) (s : Int × Int × Mm) (m1 : Mm) (t1 : Tr) : Prop :=
  match s with
  | (x7, x8, m_1) => m_1 = m1 ∧ t1.get 7 = (.i .i64 x7) ∧ t1.get 8 = (.i .i64 x8) ∧ t1.get 0 = v0 ∧ t1.get 1 = (.i .i64 x1) ∧ t1.get 2 = v2 ∧ t1.get 6 = (.i .i64 20)
abbrev g100_J0 (v0 : AVal) (x1 : Int) (v2 : AVal) (o : (Int × Mm)) (e : AExit) (m1 : Mm) (t1 : Tr) : Prop :=
  match o with
  | (y7, mo) => e = (.exit 0) ∧ mo = m1 ∧ t1.get 7 = (.i .i64 y7) ∧ t1.get 0 = v0 ∧ t1.get 1 = (.i .i64 x1) ∧ t1.get 2 = v2 ∧ t1.get 6 = (.i .i64 20)
def g100_b0 (M : Means) (ro : List ABlk) (v0 : AVal) (x1 : Int) (v2 : AVal) (x7 : Int) (x8 : Int) (m_1 : Mm) : Option ((Int × Int × Mm) ⊕ ((Int × Mm))) :=
  forceB (!ltI x1 x8) fun c13 =>
  cond c13 (
    bindP (callM M.call m_1 113 [v0, (.i .i64 x7), (.i .i64 x8), v2]) fun v18 m_2 =>
    forceI (wr .i64 (x8 + 20)) fun x22 =>
    some (.inl (x8, x22, m_2))) (
    some (.inr (x7, m_1)))
abbrev g100_I1 (v0 : AVal) (x1 : Int) (v2 : AVal) (s : Int × Mm) (m1 : Mm) (t1 : Tr) : Prop :=
  match s with
  | (x6, m_5) => m_5 = m1 ∧ t1.get 6 = (.i .i64 x6) ∧ t1.get 0 = v0 ∧ t1.get 1 = (.i .i64 x1) ∧ t1.get 2 = v2
abbrev g100_J1 (v0 : AVal) (x1 : Int) (v2 : AVal) (o : Mm) (e : AExit) (m1 : Mm) (t1 : Tr) : Prop :=
  match o with
  | mo => e = (.exit 2) ∧ mo = m1
abbrev g100_I2 (v0 : AVal) (x1 : Int) (v2 : AVal) (x6 : Int) (s : Int × Int × Mm) (m1 : Mm) (t1 : Tr) : Prop :=
  match s with
  | (x7_2, x8_1, m_6) => m_6 = m1 ∧ t1.get 7 = (.i .i64 x7_2) ∧ t1.get 8 = (.i .i64 x8_1) ∧ t1.get 0 = v0 ∧ t1.get 1 = (.i .i64 x1) ∧ t1.get 2 = v2 ∧ t1.get 6 = (.i .i64 x6)
abbrev g100_J2 (v0 : AVal) (x1 : Int) (v2 : AVal) (x6 : Int) (o : (Int × Mm)) (e : AExit) (m1 : Mm) (t1 : Tr) : Prop :=
  match o with
  | (y7, mo) => e = (.exit 4) ∧ mo = m1 ∧ t1.get 7 = (.i .i64 y7) ∧ t1.get 0 = v0 ∧ t1.get 1 = (.i .i64 x1) ∧ t1.get 2 = v2 ∧ t1.get 6 = (.i .i64 x6)
def g100_b2 (M : Means) (ro : List ABlk) (v0 : AVal) (x1 : Int) (v2 : AVal) (x6 : Int) (x7_2 : Int) (x8_1 : Int) (m_6 : Mm) : Option ((Int × Int × Mm) ⊕ ((Int × Mm))) :=
  forceB (!ltI x1 x8_1) fun c35 =>
  cond c35 (
    forceI (wr .i64 (x7_2 + x6)) fun x40 =>
    bindP (callM M.call m_6 114 [v0, (.i .i64 x7_2), (.i .i64 x40), (.i .i64 x8_1), v2]) fun v43 m_7 =>
    forceI (wr .i64 (2 * x6)) fun x47 =>
    forceI (wr .i64 (x8_1 + x47)) fun x48 =>
    some (.inl (x8_1, x48, m_7))) (
    some (.inr (x7_2, m_6)))
abbrev g100_J3 (v0 : AVal) (x1 : Int) (v2 : AVal) (x6 : Int) (o : Mm) (e : AExit) (m1 : Mm) (t1 : Tr) : Prop :=
  match o with
  | mo => e = .norm ∧ mo = m1 ∧ t1.get 0 = v0 ∧ t1.get 1 = (.i .i64 x1) ∧ t1.get 2 = v2 ∧ t1.get 6 = (.i .i64 x6)
def g100_b1 (M : Means) (ro : List ABlk) (v0 : AVal) (x1 : Int) (v2 : AVal) (x6 : Int) (m_5 : Mm) : Option ((Int × Mm) ⊕ (Mm)) :=
  forceB (ltI x6 x1) fun c30 =>
  cond c30 (
    forceI (wr .i64 (2 * x6)) fun x32 =>
    bindO (M.loop (S := Int × Int × Mm) (R := (Int × Mm)) (fun s => g100_b2 M ro v0 x1 v2 x6 s.1 s.2.1 s.2.2) (0, x32, m_5)) fun ⟨x7_3, m_8⟩ =>
    forceI (wr .i64 (x7_3 + x6)) fun x51 =>
    forceB (ltI x51 x1) fun c54 =>
    bindO (α := Mm) (
      cond c54 (
        bindP (callM M.call m_8 114 [v0, (.i .i64 x7_3), (.i .i64 x51), (.i .i64 x1), v2]) fun v60 m_9 =>
        some m_9) (
        some m_8)) fun m_10 =>
    forceI (wr .i64 (x6 * 2)) fun x62 =>
    some (.inl (x62, m_10))) (
    some (.inr m_5))
def g100 (M : Means) (ro : List ABlk) (v0 : AVal) (x1 : Int) (v2 : AVal) (m0 : Mm) : Option (AVal × Heap × Nat × Nat) :=
  bindO (M.loop (S := Int × Int × Mm) (R := (Int × Mm)) (fun s => g100_b0 M ro v0 x1 v2 s.1 s.2.1 s.2.2) (0, 20, m0)) fun ⟨x7_1, m_3⟩ =>
  bindP (callM M.call m_3 113 [v0, (.i .i64 x7_1), (.i .i64 x1), v2]) fun v27 m_4 =>
  bindO (M.loop (S := Int × Mm) (R := Mm) (fun s => g100_b1 M ro v0 x1 v2 s.1 s.2) (20, m_4)) fun m_11 =>
  finM m0.h.length (tupA []) m_11

theorem g100_ok {ro : List ABlk} {O : Caller} {M : Means} (hM : M.Ok ⟨F, O⟩ ro) {v0 x1 v2 h r} (ho : O 100 [v0, (.i .i64 x1), v2] h = none) (hr : g100 M ro v0 x1 v2 ⟨h, h.length, h.length⟩ = some r) : callX ⟨F, O⟩ ro 100 [v0, (.i .i64 x1), v2] h = some r := by
  refine callX_of (F := ⟨F, O⟩) (fn := fn100) (g := g100 M ro v0 x1 v2) ho rfl rfl hr ?_
  clear ho
  clear hr
  intro m0 t0 ht hr
  have g0 : t0.get 0 = v0 := ht 0
  have g1 : t0.get 1 = (.i .i64 x1) := ht 1
  have g2 : t0.get 2 = v2 := ht 2
  clear ht
  unfold g100 at hr
  refine w_seq ?_
  refine w_ops ?_
  refine wo_step (v := (.i .i64 20)) (s_pure (p_mv rfl)) ?_
  refine wo_nil ?_
  refine nx_norm ?_
  refine w_seq ?_
  refine w_ops ?_
  refine wo_step (v := (.i .i64 20)) (s_pure (p_mv rfl)) ?_
  refine wo_step (v := (.i .i64 0)) (s_pure (p_mv rfl)) ?_
  refine wo_step (v := (.i .i64 20)) (s_pure (p_mv rfl)) ?_
  refine wo_nil ?_
  refine nx_norm ?_
  refine w_seq ?_
  refine w_block ?_
  have hq := bindO_inv hr
  clear hr
  obtain ⟨o, hl_2, hr⟩ := hq
  obtain ⟨n_2, hl_2⟩ := hM.loop _ _ _ hl_2
  refine jp_mono (w_loop _ (g100_I0 v0 x1 v2) (g100_J0 v0 x1 v2) ?_ n_2 _ _ _ _ hl_2 ⟨rfl, gl rfl, gl rfl, gl g0, gl g1, gl g2, gl rfl⟩) ?_
  · clear hr hl_2
    intro s mm_6 t_1 o hi hr
    obtain ⟨x7, x8, m_1⟩ := s
    obtain ⟨rfl, g7, g8, g0, g1, g2, g6⟩ := hi
    unfold g100_b0 at hr
    refine w_seq ?_
    refine w_seq ?_
    refine w_ops ?_
    refine wo_step (v := (.i .i64 x8)) (s_pure (p_mv g8)) ?_
    refine wo_step (v := (.i .i64 x1)) (s_pure (p_mv g1)) ?_
    have hq := forceB_inv hr
    clear hr
    obtain ⟨c13, e13, hr⟩ := hq
    refine wo_step (v := (.b c13)) (s_pure (p_bin rfl rfl (b_leq.trans (cb e13)))) ?_
    refine wo_nil ?_
    refine nx_norm ?_
    have hq := cond_inv hr
    clear hr
    rcases hq with ⟨rfl, hr⟩ | ⟨rfl, hr⟩
    · refine w_condT rfl ?_
      refine w_skip ?_
      refine nx_norm ?_
      refine w_block ?_
      refine w_seq ?_
      refine w_ops ?_
      refine wo_step (v := v0) (s_pure (p_mv g0)) ?_
      refine wo_step (v := (.i .i64 x7)) (s_pure (p_mv g7)) ?_
      refine wo_step (v := (.i .i64 x8)) (s_pure (p_mv g8)) ?_
      refine wo_step (v := v2) (s_pure (p_mv g2)) ?_
      have hq := bindP_inv hr
      clear hr
      obtain ⟨v18, m_2, e18, hr⟩ := hq
      refine wo_step (v := v18) (s_call (mc rfl (mc rfl (mc rfl (mc rfl mn)))) (callM_le hM.call e18)) ?_
      refine wo_nil ?_
      refine nx_norm ?_
      refine w_seq ?_
      refine w_ops ?_
      refine wo_step (v := (.i .i64 x8)) (s_pure (p_mv g8)) ?_
      refine wo_step (v := (.i .i64 x8)) (s_pure (p_mv rfl)) ?_
      refine wo_nil ?_
      refine nx_norm ?_
      refine w_ops ?_
      refine wo_step (v := (.i .i64 x8)) (s_pure (p_mv g8)) ?_
      refine wo_step (v := (.i .i64 20)) (s_pure (p_mv g6)) ?_
      have hq := forceI_inv hr
      clear hr
      obtain ⟨x22, e22, hr⟩ := hq
      refine wo_step (v := (.i .i64 x22)) (s_pure (p_bin rfl rfl (b_add.trans (ci e22)))) ?_
      refine wo_step (v := (.i .i64 x22)) (s_pure (p_mv rfl)) ?_
      refine wo_nil ?_
      refine bk_norm ?_
      cases hr
      exact ⟨_, _, rfl, rfl, rfl, gl rfl, gl rfl, gl g0, gl g1, gl g2, gl g6⟩
    · refine w_condF rfl ?_
      refine w_exit ?_
      refine nx_exit ?_
      cases hr
      exact ⟨_, _, rfl, ne_norm_exit, rfl, rfl, gl g7, gl g0, gl g1, gl g2, gl g6⟩
  · obtain ⟨x7_1, m_3⟩ := o
    rintro _ mm_5 t_2 ⟨rfl, rfl, g7, g0, g1, g2, g6⟩
    refine bk_hit ?_
    refine nx_norm ?_
    refine w_seq ?_
    refine w_ops ?_
    refine wo_step (v := v0) (s_pure (p_mv g0)) ?_
    refine wo_step (v := (.i .i64 x7_1)) (s_pure (p_mv g7)) ?_
    refine wo_step (v := (.i .i64 x1)) (s_pure (p_mv g1)) ?_
    refine wo_step (v := v2) (s_pure (p_mv g2)) ?_
    have hq := bindP_inv hr
    clear hr
    obtain ⟨v27, m_4, e27, hr⟩ := hq
    refine wo_step (v := v27) (s_call (mc rfl (mc rfl (mc rfl (mc rfl mn)))) (callM_le hM.call e27)) ?_
    refine wo_nil ?_
    refine nx_norm ?_
    refine w_block ?_
    have hq := bindO_inv hr
    clear hr
    obtain ⟨o_3, hl_1, hr⟩ := hq
    obtain ⟨n_1, hl_1⟩ := hM.loop _ _ _ hl_1
    refine jp_mono (w_loop _ (g100_I1 v0 x1 v2) (g100_J1 v0 x1 v2) ?_ n_1 _ _ _ _ hl_1 ⟨rfl, gl g6, gl g0, gl g1, gl g2⟩) ?_
    · clear hr hl_1
      intro s mm_4 t_3 o hi hr
      obtain ⟨x6, m_5⟩ := s
      obtain ⟨rfl, g6, g0, g1, g2⟩ := hi
      unfold g100_b1 at hr
      refine w_seq ?_
      refine w_seq ?_
      refine w_ops ?_
      refine wo_step (v := (.i .i64 x6)) (s_pure (p_mv g6)) ?_
      refine wo_step (v := (.i .i64 x1)) (s_pure (p_mv g1)) ?_
      have hq := forceB_inv hr
      clear hr
      obtain ⟨c30, e30, hr⟩ := hq
      refine wo_step (v := (.b c30)) (s_pure (p_bin rfl rfl (b_lss.trans (cb e30)))) ?_
      refine wo_nil ?_
      refine nx_norm ?_
      have hq := cond_inv hr
      clear hr
      rcases hq with ⟨rfl, hr⟩ | ⟨rfl, hr⟩
      · refine w_condT rfl ?_
        refine w_skip ?_
        refine nx_norm ?_
        refine w_block ?_
        refine w_seq ?_
        refine w_ops ?_
        refine wo_step (v := (.i .i64 x6)) (s_pure (p_mv g6)) ?_
        have hq := forceI_inv hr
        clear hr
        obtain ⟨x32, e32, hr⟩ := hq
        refine wo_step (v := (.i .i64 x32)) (s_pure (p_bin rfl rfl (b_mul.trans (ci e32)))) ?_
        refine wo_step (v := (.i .i64 0)) (s_pure (p_mv rfl)) ?_
        refine wo_step (v := (.i .i64 x32)) (s_pure (p_mv rfl)) ?_
        refine wo_nil ?_
        refine nx_norm ?_
        refine w_seq ?_
        refine w_block ?_
        have hq := bindO_inv hr
        clear hr
        obtain ⟨o_1, hl, hr⟩ := hq
        obtain ⟨n, hl⟩ := hM.loop _ _ _ hl
        refine jp_mono (w_loop _ (g100_I2 v0 x1 v2 x6) (g100_J2 v0 x1 v2 x6) ?_ n _ _ _ _ hl ⟨rfl, gl rfl, gl rfl, gl g0, gl g1, gl g2, gl g6⟩) ?_
        · clear hr hl
          intro s mm_2 t_4 o hi hr
          obtain ⟨x7_2, x8_1, m_6⟩ := s
          obtain ⟨rfl, g7, g8, g0, g1, g2, g6⟩ := hi
          unfold g100_b2 at hr
          refine w_seq ?_
          refine w_seq ?_
          refine w_ops ?_
          refine wo_step (v := (.i .i64 x8_1)) (s_pure (p_mv g8)) ?_
          refine wo_step (v := (.i .i64 x1)) (s_pure (p_mv g1)) ?_
          have hq := forceB_inv hr
          clear hr
          obtain ⟨c35, e35, hr⟩ := hq
          refine wo_step (v := (.b c35)) (s_pure (p_bin rfl rfl (b_leq.trans (cb e35)))) ?_
          refine wo_nil ?_
          refine nx_norm ?_
          have hq := cond_inv hr
          clear hr
          rcases hq with ⟨rfl, hr⟩ | ⟨rfl, hr⟩
          · refine w_condT rfl ?_
            refine w_skip ?_
            refine nx_norm ?_
            refine w_block ?_
            refine w_seq ?_
            refine w_ops ?_
            refine wo_step (v := v0) (s_pure (p_mv g0)) ?_
            refine wo_step (v := (.i .i64 x7_2)) (s_pure (p_mv g7)) ?_
            refine wo_step (v := (.i .i64 x7_2)) (s_pure (p_mv g7)) ?_
            refine wo_step (v := (.i .i64 x6)) (s_pure (p_mv g6)) ?_
            have hq := forceI_inv hr
            clear hr
            obtain ⟨x40, e40, hr⟩ := hq
            refine wo_step (v := (.i .i64 x40)) (s_pure (p_bin rfl rfl (b_add.trans (ci e40)))) ?_
            refine wo_step (v := (.i .i64 x8_1)) (s_pure (p_mv g8)) ?_
            refine wo_step (v := v2) (s_pure (p_mv g2)) ?_
            have hq := bindP_inv hr
            clear hr
            obtain ⟨v43, m_7, e43, hr⟩ := hq
            refine wo_step (v := v43) (s_call (mc rfl (mc rfl (mc rfl (mc rfl (mc rfl mn))))) (callM_le hM.call e43)) ?_
            refine wo_nil ?_
            refine nx_norm ?_
            refine w_seq ?_
            refine w_ops ?_
            refine wo_step (v := (.i .i64 x8_1)) (s_pure (p_mv g8)) ?_
            refine wo_step (v := (.i .i64 x8_1)) (s_pure (p_mv rfl)) ?_
            refine wo_nil ?_
            refine nx_norm ?_
            refine w_ops ?_
            refine wo_step (v := (.i .i64 x8_1)) (s_pure (p_mv g8)) ?_
            refine wo_step (v := (.i .i64 x6)) (s_pure (p_mv g6)) ?_
            have hq := forceI_inv hr
            clear hr
            obtain ⟨x47, e47, hr⟩ := hq
            refine wo_step (v := (.i .i64 x47)) (s_pure (p_bin rfl rfl (b_mul.trans (ci e47)))) ?_
            have hq := forceI_inv hr
            clear hr
            obtain ⟨x48, e48, hr⟩ := hq
            refine wo_step (v := (.i .i64 x48)) (s_pure (p_bin rfl rfl (b_add.trans (ci e48)))) ?_
            refine wo_step (v := (.i .i64 x48)) (s_pure (p_mv rfl)) ?_
            refine wo_nil ?_
            refine bk_norm ?_
            cases hr
            exact ⟨_, _, rfl, rfl, rfl, gl rfl, gl rfl, gl g0, gl g1, gl g2, gl g6⟩
          · refine w_condF rfl ?_
            refine w_exit ?_
            refine nx_exit ?_
            cases hr
            exact ⟨_, _, rfl, ne_norm_exit, rfl, rfl, gl g7, gl g0, gl g1, gl g2, gl g6⟩
        · obtain ⟨x7_3, m_8⟩ := o_1
          rintro _ mm_1 t_5 ⟨rfl, rfl, g7, g0, g1, g2, g6⟩
          refine bk_hit ?_
          refine nx_norm ?_
          refine w_seq ?_
          refine w_seq ?_
          refine w_ops ?_
          refine wo_step (v := (.i .i64 x7_3)) (s_pure (p_mv g7)) ?_
          refine wo_step (v := (.i .i64 x6)) (s_pure (p_mv g6)) ?_
          have hq := forceI_inv hr
          clear hr
          obtain ⟨x51, e51, hr⟩ := hq
          refine wo_step (v := (.i .i64 x51)) (s_pure (p_bin rfl rfl (b_add.trans (ci e51)))) ?_
          refine wo_step (v := (.i .i64 x51)) (s_pure (p_mv rfl)) ?_
          refine wo_nil ?_
          refine nx_norm ?_
          refine w_seq ?_
          refine w_ops ?_
          refine wo_step (v := (.i .i64 x51)) (s_pure (p_mv rfl)) ?_
          refine wo_step (v := (.i .i64 x1)) (s_pure (p_mv g1)) ?_
          have hq := forceB_inv hr
          clear hr
          obtain ⟨c54, e54, hr⟩ := hq
          refine wo_step (v := (.b c54)) (s_pure (p_bin rfl rfl (b_lss.trans (cb e54)))) ?_
          refine wo_nil ?_
          refine nx_norm ?_
          have hq := bindO_inv hr
          clear hr
          obtain ⟨o_2, hr, hk⟩ := hq
          refine jp_mono (J := g100_J3 v0 x1 v2 x6 o_2) ?_ ?_
          · clear hk
            have hq := cond_inv hr
            clear hr
            rcases hq with ⟨rfl, hr⟩ | ⟨rfl, hr⟩
            · refine w_condT rfl ?_
              refine w_ops ?_
              refine wo_step (v := v0) (s_pure (p_mv g0)) ?_
              refine wo_step (v := (.i .i64 x7_3)) (s_pure (p_mv g7)) ?_
              refine wo_step (v := (.i .i64 x51)) (s_pure (p_mv rfl)) ?_
              refine wo_step (v := (.i .i64 x1)) (s_pure (p_mv g1)) ?_
              refine wo_step (v := v2) (s_pure (p_mv g2)) ?_
              have hq := bindP_inv hr
              clear hr
              obtain ⟨v60, m_9, e60, hr⟩ := hq
              refine wo_step (v := v60) (s_call (mc rfl (mc rfl (mc rfl (mc rfl (mc rfl mn))))) (callM_le hM.call e60)) ?_
              refine wo_nil ?_
              cases hr
              exact ⟨_, _, rfl, rfl, rfl, gl g0, gl g1, gl g2, gl g6⟩
            · refine w_condF rfl ?_
              refine w_skip ?_
              cases hr
              exact ⟨_, _, rfl, rfl, rfl, gl g0, gl g1, gl g2, gl g6⟩
          · clear hr
            have hr := hk
            clear hk
            obtain ⟨m_10, ho⟩ : ∃ z, z = o_2 := ⟨_, rfl⟩
            subst ho
            rintro _ mm t_6 ⟨rfl, rfl, g0, g1, g2, g6⟩
            refine nx_norm ?_
            refine w_ops ?_
            refine wo_step (v := (.i .i64 x6)) (s_pure (p_mv g6)) ?_
            have hq := forceI_inv hr
            clear hr
            obtain ⟨x62, e62, hr⟩ := hq
            refine wo_step (v := (.i .i64 x62)) (s_pure (p_bin rfl rfl (b_mul.trans (ci e62)))) ?_
            refine wo_step (v := (.i .i64 x62)) (s_pure (p_mv rfl)) ?_
            refine wo_nil ?_
            refine bk_norm ?_
            cases hr
            exact ⟨_, _, rfl, rfl, rfl, gl rfl, gl g0, gl g1, gl g2⟩
      · refine w_condF rfl ?_
        refine w_exit ?_
        refine nx_exit ?_
        cases hr
        exact ⟨_, _, rfl, ne_norm_exit, rfl, rfl⟩
    · obtain ⟨m_11, ho⟩ : ∃ z, z = o_3 := ⟨_, rfl⟩
      subst ho
      rintro _ mm_3 t_7 ⟨rfl, rfl⟩
      refine bk_hit ?_
      exact qf norm_ok rn hr

/- cmp.isNaN[int] -/

def g101 (M : Means) (ro : List ABlk) (x0 : Int) (m0 : Mm) : Option (AVal × Heap × Nat × Nat) :=
  forceB (!eqI x0 x0) fun c5 =>
  finM m0.h.length (tupA [(.b c5)]) m0

theorem g101_ok {ro : List ABlk} {O : Caller} {M : Means} (hM : M.Ok ⟨F, O⟩ ro) {x0 h r} (ho : O 101 [(.i .i64 x0)] h = none) (hr : g101 M ro x0 ⟨h, h.length, h.length⟩ = some r) : callX ⟨F, O⟩ ro 101 [(.i .i64 x0)] h = some r := by
  refine callX_of (F := ⟨F, O⟩) (fn := fn101) (g := g101 M ro x0) ho rfl rfl hr ?_
  clear ho
  clear hr
  intro m0 t0 ht hr
  have g0 : t0.get 0 = (.i .i64 x0) := ht 0
  clear ht
  unfold g101 at hr
  refine w_seq ?_
  refine w_ops ?_
  refine wo_step (v := (.b false)) (s_pure (p_mv rfl)) ?_
  refine wo_nil ?_
  refine nx_norm ?_
  refine w_seq ?_
  refine w_ops ?_
  refine wo_step (v := (.i .i64 x0)) (s_pure (p_mv g0)) ?_
  refine wo_step (v := (.i .i64 x0)) (s_pure (p_mv g0)) ?_
  have hq := forceB_inv hr
  clear hr
  obtain ⟨c5, e5, hr⟩ := hq
  refine wo_step (v := (.b c5)) (s_pure (p_bin rfl rfl (b_neq.trans (cb e5)))) ?_
  refine wo_step (v := (.b c5)) (s_pure (p_mv rfl)) ?_
  refine wo_nil ?_
  refine nx_norm ?_
  refine w_ret ?_
  exact qf ret_ok (rt rfl rn) hr

/- slices.insertionSortCmpFunc[int] -/
abbrev g113_I0 (v0 : AVal) (x1 : Int) (x2 : Int) (v3 : AVal) (s : Int × Mm) (m1 : Mm) (t1 : Tr) : Prop :=
  match s with
  | (x8, m_1) => m_1 = m1 ∧ t1.get 8 = (.i .i64 x8) ∧ t1.get 0 = v0 ∧ t1.get 1 = (.i .i64 x1) ∧ t1.get 2 = (.i .i64 x2) ∧ t1.get 3 = v3
abbrev g113_J0 (v0 : AVal) (x1 : Int) (x2 : Int) (v3 : AVal) (o : Mm) (e : AExit) (m1 : Mm) (t1 : Tr) : Prop :=
  match o with
  | mo => e = (.exit 0) ∧ mo = m1
abbrev g113_I1 (v0 : AVal) (x1 : Int) (x2 : Int) (v3 : AVal) (x8 : Int) (s : Int × Mm) (m1 : Mm) (t1 : Tr) : Prop :=
  match s with
  | (x9, m_2) => m_2 = m1 ∧ t1.get 9 = (.i .i64 x9) ∧ t1.get 0 = v0 ∧ t1.get 1 = (.i .i64 x1) ∧ t1.get 2 = (.i .i64 x2) ∧ t1.get 3 = v3 ∧ t1.get 8 = (.i .i64 x8)
abbrev g113_J1 (v0 : AVal) (x1 : Int) (x2 : Int) (v3 : AVal) (x8 : Int) (o : Mm) (e : AExit) (m1 : Mm) (t1 : Tr) : Prop :=
  match o with
  | mo => e = (.exit 2) ∧ mo = m1 ∧ t1.get 0 = v0 ∧ t1.get 1 = (.i .i64 x1) ∧ t1.get 2 = (.i .i64 x2) ∧ t1.get 3 = v3 ∧ t1.get 8 = (.i .i64 x8)
abbrev g113_J2 (v0 : AVal) (x1 : Int) (x2 : Int) (v3 : AVal) (x8 : Int) (x9 : Int) (o : Bool × Mm) (m1 : Mm) (t1 : Tr) : Prop :=
  match o with
  | (c34, m_4) => m_4 = m1 ∧ t1.get 34 = (.b c34) ∧ t1.get 0 = v0 ∧ t1.get 1 = (.i .i64 x1) ∧ t1.get 2 = (.i .i64 x2) ∧ t1.get 3 = v3 ∧ t1.get 8 = (.i .i64 x8) ∧ t1.get 9 = (.i .i64 x9)
def g113_b1 (M : Means) (ro : List ABlk) (v0 : AVal) (x1 : Int) (x2 : Int) (v3 : AVal) (x8 : Int) (x9 : Int) (m_2 : Mm) : Option ((Int × Mm) ⊕ (Mm)) :=
  bindO (some (Mm.base m_2)) fun m_3 =>
  forceB (ltI x1 x9) fun c20 =>
  bindO (cond c20 (
    bindO (evP .e (.ixS 1 (.c v0) (.c (.i .i64 x9)))) fun v25 =>
    bindO (ldM ro m_3 true 1 v25) fun v26 =>
    asI .i64 v26 fun x26 =>
    forceI (wr .i64 (x9 - 1)) fun x29 =>
    bindO (evP .e (.ixS 1 (.c v0) (.c (.i .i64 x29)))) fun v30 =>
    bindO (ldM ro m_3 true 1 v30) fun v31 =>
    asI .i64 v31 fun x31 =>
    bindP (callvM M.call m_3 v3 [(.i .i64 x26), (.i .i64 x31)]) fun v32 m_5 =>
    asI .i64 v32 fun x32 =>
    forceB (ltI x32 0) fun c33 =>
    some (c33, m_5)) (
    some (false, m_3))) fun ⟨c34, m_4⟩ =>
  bindO (some (Mm.join m_2 m_4)) fun m_6 =>
  cond c34 (
    forceI (wr .i64 (x9 - 1)) fun x41 =>
    forceI (wr .i64 (x9 - 1)) fun x44 =>
    bindO (evP .e (.ixS 1 (.c v0) (.c (.i .i64 x44)))) fun v45 =>
    bindO (ldA ro m_6.h true 1 v45) fun v46 =>
    asI .i64 v46 fun x46 =>
    bindO (evP .e (.ixS 1 (.c v0) (.c (.i .i64 x9)))) fun v49 =>
    bindO (ldA ro m_6.h true 1 v49) fun v50 =>
    asI .i64 v50 fun x50 =>
    bindO (evP .e (.ixS 1 (.c v0) (.c (.i .i64 x9)))) fun v51 =>
    asP v51 fun qs =>
    bindO (evP .e (.ixS 1 (.c v0) (.c (.i .i64 x41)))) fun v52 =>
    asP v52 fun qs_1 =>
    bindO (writesM ro [] [(qs, AVal.cells (.i .i64 x46)), (qs_1, AVal.cells (.i .i64 x50))] ⟨m_6.h, m_6.lw, m_6.lp⟩) fun m_7 =>
    forceI (wr .i64 (x9 - 1)) fun x36 =>
    some (.inl (x36, m_7))) (
    some (.inr m_6))
def g113_b0 (M : Means) (ro : List ABlk) (v0 : AVal) (x1 : Int) (x2 : Int) (v3 : AVal) (x8 : Int) (m_1 : Mm) : Option ((Int × Mm) ⊕ (Mm)) :=
  forceB (ltI x8 x2) fun c14 =>
  cond c14 (
    bindO (M.loop (S := Int × Mm) (R := Mm) (fun s => g113_b1 M ro v0 x1 x2 v3 x8 s.1 s.2) (x8, m_1)) fun m_8 =>
    forceI (wr .i64 (x8 + 1)) fun x16 =>
    some (.inl (x16, m_8))) (
    some (.inr m_1))
def g113 (M : Means) (ro : List ABlk) (v0 : AVal) (x1 : Int) (x2 : Int) (v3 : AVal) (m0 : Mm) : Option (AVal × Heap × Nat × Nat) :=
  forceI (wr .i64 (x1 + 1)) fun x11 =>
  bindO (M.loop (S := Int × Mm) (R := Mm) (fun s => g113_b0 M ro v0 x1 x2 v3 s.1 s.2) (x11, m0)) fun m_9 =>
  finM m0.h.length (tupA []) m_9

theorem g113_ok {ro : List ABlk} {O : Caller} {M : Means} (hM : M.Ok ⟨F, O⟩ ro) {v0 x1 x2 v3 h r} (ho : O 113 [v0, (.i .i64 x1), (.i .i64 x2), v3] h = none) (hr : g113 M ro v0 x1 x2 v3 ⟨h, h.length, h.length⟩ = some r) : callX ⟨F, O⟩ ro 113 [v0, (.i .i64 x1), (.i .i64 x2), v3] h = some r := by
  refine callX_of (F := ⟨F, O⟩) (fn := fn113) (g := g113 M ro v0 x1 x2 v3) ho rfl rfl hr ?_
  clear ho
  clear hr
  intro m0 t0 ht hr
  have g0 : t0.get 0 = v0 := ht 0
  have g1 : t0.get 1 = (.i .i64 x1) := ht 1
  have g2 : t0.get 2 = (.i .i64 x2) := ht 2
  have g3 : t0.get 3 = v3 := ht 3
  clear ht
  unfold g113 at hr
  refine w_seq ?_
  refine w_ops ?_
  refine wo_step (v := (.i .i64 x1)) (s_pure (p_mv g1)) ?_
  have hq := forceI_inv hr
  clear hr
  obtain ⟨x11, e11, hr⟩ := hq
  refine wo_step (v := (.i .i64 x11)) (s_pure (p_bin rfl rfl (b_add.trans (ci e11)))) ?_
  refine wo_step (v := (.i .i64 x11)) (s_pure (p_mv rfl)) ?_
  refine wo_nil ?_
  refine nx_norm ?_
  refine w_block ?_
  have hq := bindO_inv hr
  clear hr
  obtain ⟨o_2, hl_1, hr⟩ := hq
  obtain ⟨n_1, hl_1⟩ := hM.loop _ _ _ hl_1
  refine jp_mono (w_loop _ (g113_I0 v0 x1 x2 v3) (g113_J0 v0 x1 x2 v3) ?_ n_1 _ _ _ _ hl_1 ⟨rfl, gl rfl, gl g0, gl g1, gl g2, gl g3⟩) ?_
  · clear hr hl_1
    intro s mm_4 t_1 o hi hr
    obtain ⟨x8, m_1⟩ := s
    obtain ⟨rfl, g8, g0, g1, g2, g3⟩ := hi
    unfold g113_b0 at hr
    refine w_seq ?_
    refine w_seq ?_
    refine w_ops ?_
    refine wo_step (v := (.i .i64 x8)) (s_pure (p_mv g8)) ?_
    refine wo_step (v := (.i .i64 x2)) (s_pure (p_mv g2)) ?_
    have hq := forceB_inv hr
    clear hr
    obtain ⟨c14, e14, hr⟩ := hq
    refine wo_step (v := (.b c14)) (s_pure (p_bin rfl rfl (b_lss.trans (cb e14)))) ?_
    refine wo_nil ?_
    refine nx_norm ?_
    have hq := cond_inv hr
    clear hr
    rcases hq with ⟨rfl, hr⟩ | ⟨rfl, hr⟩
    · refine w_condT rfl ?_
      refine w_skip ?_
      refine nx_norm ?_
      refine w_seq ?_
      refine w_block ?_
      refine w_seq ?_
      refine w_ops ?_
      refine wo_step (v := (.i .i64 x8)) (s_pure (p_mv g8)) ?_
      refine wo_step (v := (.i .i64 x8)) (s_pure (p_mv rfl)) ?_
      refine wo_nil ?_
      refine nx_norm ?_
      refine w_block ?_
      have hq := bindO_inv hr
      clear hr
      obtain ⟨o_1, hl, hr⟩ := hq
      obtain ⟨n, hl⟩ := hM.loop _ _ _ hl
      refine jp_mono (w_loop _ (g113_I1 v0 x1 x2 v3 x8) (g113_J1 v0 x1 x2 v3 x8) ?_ n _ _ _ _ hl ⟨rfl, gl rfl, gl g0, gl g1, gl g2, gl g3, gl g8⟩) ?_
      · clear hr hl
        intro s mm_2 t_2 o hi hr
        obtain ⟨x9, m_2⟩ := s
        obtain ⟨rfl, g9, g0, g1, g2, g3, g8⟩ := hi
        unfold g113_b1 at hr
        refine w_seq ?_
        refine w_seq ?_
        have hq := bindO_inv hr
        clear hr
        obtain ⟨m_3, ef, hr⟩ := hq
        refine w_flt (af := false) rfl ef ?_
        refine wf_step (v := (.i .i64 x9)) (f_P rfl (s_pure (p_mv g9))) ?_
        refine wf_step (v := (.i .i64 x1)) (f_P rfl (s_pure (p_mv g1))) ?_
        have hq := forceB_inv hr
        clear hr
        obtain ⟨c20, e20, hr⟩ := hq
        refine wf_step (v := (.b c20)) (f_P rfl (s_pure (p_bin rfl rfl (b_gtr.trans (cb e20))))) ?_
        refine wf_step (v := (.b c20)) (f_P rfl (s_pure (p_mv rfl))) ?_
        have hq := bindO_inv hr
        clear hr
        obtain ⟨o, hr, hk⟩ := hq
        refine wf_join 13 (g113_J2 v0 x1 x2 v3 x8 x9 o) ?_ ?_
        · clear hk
          have hq := cond_inv hr
          clear hr
          rcases hq with ⟨rfl, hr⟩ | ⟨rfl, hr⟩
          · refine wf_take (v := v3) rfl (f_P rfl (s_pure (p_mv g3))) ?_
            refine wf_take (v := v0) rfl (f_P rfl (s_pure (p_mv g0))) ?_
            refine wf_take (v := (.i .i64 x9)) rfl (f_P rfl (s_pure (p_mv g9))) ?_
            have hq := bindO_inv hr
            clear hr
            obtain ⟨v25, e25, hr⟩ := hq
            refine wf_take (v := v25) rfl (f_P rfl (s_pure (o_ixS rfl rfl e25))) ?_
            have hq := bindO_inv hr
            clear hr
            obtain ⟨v26, e26, hr⟩ := hq
            have hq := asI_inv hr
            clear hr
            obtain ⟨x26, rfl, hr⟩ := hq
            refine wf_take (v := (.i .i64 x26)) rfl (f_P rfl (s_ld rfl e26)) ?_
            refine wf_take (v := v0) rfl (f_P rfl (s_pure (p_mv g0))) ?_
            refine wf_take (v := (.i .i64 x9)) rfl (f_P rfl (s_pure (p_mv g9))) ?_
            have hq := forceI_inv hr
            clear hr
            obtain ⟨x29, e29, hr⟩ := hq
            refine wf_take (v := (.i .i64 x29)) rfl (f_P rfl (s_pure (p_bin rfl rfl (b_sub.trans (ci e29))))) ?_
            have hq := bindO_inv hr
            clear hr
            obtain ⟨v30, e30, hr⟩ := hq
            refine wf_take (v := v30) rfl (f_P rfl (s_pure (o_ixS rfl rfl e30))) ?_
            have hq := bindO_inv hr
            clear hr
            obtain ⟨v31, e31, hr⟩ := hq
            have hq := asI_inv hr
            clear hr
            obtain ⟨x31, rfl, hr⟩ := hq
            refine wf_take (v := (.i .i64 x31)) rfl (f_P rfl (s_ld rfl e31)) ?_
            have hq := bindP_inv hr
            clear hr
            obtain ⟨v32, m_5, e32, hr⟩ := hq
            have hq := asI_inv hr
            clear hr
            obtain ⟨x32, rfl, hr⟩ := hq
            refine wf_take (v := (.i .i64 x32)) rfl (f_N (s_callv rfl (mc rfl (mc rfl mn)) (callvM_le hM.call e32))) ?_
            have hq := forceB_inv hr
            clear hr
            obtain ⟨c33, e33, hr⟩ := hq
            refine wf_take (v := (.b c33)) rfl (f_P rfl (s_pure (p_bin rfl rfl (b_lss.trans (cb e33))))) ?_
            refine wf_step (v := (.b c33)) (f_P rfl (s_pure (p_pickT rfl rfl))) ?_
            refine wf_nil ?_
            cases hr
            exact ⟨_, _, rfl, rfl, gl rfl, gl g0, gl g1, gl g2, gl g3, gl g8, gl g9⟩
          · refine wf_skip (v := (.b false)) rfl rfl ?_
            refine wf_skip (v := (.b false)) rfl rfl ?_
            refine wf_skip (v := (.b false)) rfl rfl ?_
            refine wf_skip (v := (.b false)) rfl rfl ?_
            refine wf_skip (v := (.b false)) rfl rfl ?_
            refine wf_skip (v := (.b false)) rfl rfl ?_
            refine wf_skip (v := (.b false)) rfl rfl ?_
            refine wf_skip (v := (.b false)) rfl rfl ?_
            refine wf_skip (v := (.b false)) rfl rfl ?_
            refine wf_skip (v := (.b false)) rfl rfl ?_
            refine wf_skip (v := (.b false)) rfl rfl ?_
            refine wf_skip (v := (.b false)) rfl rfl ?_
            refine wf_step (v := (.b false)) (f_P rfl (s_pure (p_pickF rfl rfl))) ?_
            refine wf_nil ?_
            cases hr
            exact ⟨_, _, rfl, rfl, gl rfl, gl g0, gl g1, gl g2, gl g3, gl g8, gl g9⟩
        · clear hr
          have hr := hk
          clear hk
          obtain ⟨c34, m_4⟩ := o
          rintro mm t_3 ⟨rfl, g34, g0, g1, g2, g3, g8, g9⟩
          have hq := bindO_inv hr
          clear hr
          obtain ⟨m_6, ef_1, hr⟩ := hq
          refine wf_end ef_1 ?_
          refine nx_norm ?_
          have hq := cond_inv hr
          clear hr
          rcases hq with ⟨rfl, hr⟩ | ⟨rfl, hr⟩
          · refine w_condT g34 ?_
            refine w_skip ?_
            refine nx_norm ?_
            refine w_seq ?_
            refine w_block ?_
            refine w_any ?_
            refine wa_step (v := v0) (a_pure (p_mv g0)) ?_
            refine wa_step (v := (.i .i64 x9)) (a_pure (p_mv g9)) ?_
            refine wa_step (v := v0) (a_pure (p_mv g0)) ?_
            refine wa_step (v := (.i .i64 x9)) (a_pure (p_mv g9)) ?_
            have hq := forceI_inv hr
            clear hr
            obtain ⟨x41, e41, hr⟩ := hq
            refine wa_step (v := (.i .i64 x41)) (a_pure (p_bin rfl rfl (b_sub.trans (ci e41)))) ?_
            refine wa_step (v := v0) (a_pure (p_mv g0)) ?_
            refine wa_step (v := (.i .i64 x9)) (a_pure (p_mv g9)) ?_
            have hq := forceI_inv hr
            clear hr
            obtain ⟨x44, e44, hr⟩ := hq
            refine wa_step (v := (.i .i64 x44)) (a_pure (p_bin rfl rfl (b_sub.trans (ci e44)))) ?_
            have hq := bindO_inv hr
            clear hr
            obtain ⟨v45, e45, hr⟩ := hq
            refine wa_step (v := v45) (a_pure (o_ixS rfl rfl e45)) ?_
            have hq := bindO_inv hr
            clear hr
            obtain ⟨v46, e46, hr⟩ := hq
            have hq := asI_inv hr
            clear hr
            obtain ⟨x46, rfl, hr⟩ := hq
            refine wa_step (v := (.i .i64 x46)) (a_ld rfl e46) ?_
            refine wa_step (v := v0) (a_pure (p_mv g0)) ?_
            refine wa_step (v := (.i .i64 x9)) (a_pure (p_mv g9)) ?_
            have hq := bindO_inv hr
            clear hr
            obtain ⟨v49, e49, hr⟩ := hq
            refine wa_step (v := v49) (a_pure (o_ixS rfl rfl e49)) ?_
            have hq := bindO_inv hr
            clear hr
            obtain ⟨v50, e50, hr⟩ := hq
            have hq := asI_inv hr
            clear hr
            obtain ⟨x50, rfl, hr⟩ := hq
            refine wa_step (v := (.i .i64 x50)) (a_ld rfl e50) ?_
            have hq := bindO_inv hr
            clear hr
            obtain ⟨v51, e51, hr⟩ := hq
            refine wa_step (v := v51) (a_pure (o_ixS rfl rfl e51)) ?_
            have hq := asP_inv hr
            clear hr
            obtain ⟨qs, eqs, hr⟩ := hq
            refine wa_stepN (a_st (Eq.trans (b := v51) rfl eqs) rfl rfl) ?_
            have hq := bindO_inv hr
            clear hr
            obtain ⟨v52, e52, hr⟩ := hq
            refine wa_step (v := v52) (a_pure (o_ixS rfl rfl e52)) ?_
            have hq := asP_inv hr
            clear hr
            obtain ⟨qs_1, eqs_1, hr⟩ := hq
            refine wa_stepN (a_st (Eq.trans (b := v52) rfl eqs_1) rfl rfl) ?_
            have hq := bindO_inv hr
            clear hr
            obtain ⟨m_7, ew, hr⟩ := hq
            refine wa_nil ?_
            refine ⟨m_7, ew, ?_⟩
            refine bk_norm ?_
            refine nx_norm ?_
            refine w_ops ?_
            refine wo_step (v := (.i .i64 x9)) (s_pure (p_mv g9)) ?_
            have hq := forceI_inv hr
            clear hr
            obtain ⟨x36, e36, hr⟩ := hq
            refine wo_step (v := (.i .i64 x36)) (s_pure (p_bin rfl rfl (b_sub.trans (ci e36)))) ?_
            refine wo_step (v := (.i .i64 x36)) (s_pure (p_mv rfl)) ?_
            refine wo_nil ?_
            cases hr
            exact ⟨_, _, rfl, rfl, rfl, gl rfl, gl g0, gl g1, gl g2, gl g3, gl g8⟩
          · refine w_condF g34 ?_
            refine w_exit ?_
            refine nx_exit ?_
            cases hr
            exact ⟨_, _, rfl, ne_norm_exit, rfl, rfl, gl g0, gl g1, gl g2, gl g3, gl g8⟩
      · obtain ⟨m_8, ho⟩ : ∃ z, z = o_1 := ⟨_, rfl⟩
        subst ho
        rintro _ mm_1 t_4 ⟨rfl, rfl, g0, g1, g2, g3, g8⟩
        refine bk_hit ?_
        refine bk_norm ?_
        refine nx_norm ?_
        refine w_ops ?_
        refine wo_step (v := (.i .i64 x8)) (s_pure (p_mv g8)) ?_
        have hq := forceI_inv hr
        clear hr
        obtain ⟨x16, e16, hr⟩ := hq
        refine wo_step (v := (.i .i64 x16)) (s_pure (p_bin rfl rfl (b_add.trans (ci e16)))) ?_
        refine wo_step (v := (.i .i64 x16)) (s_pure (p_mv rfl)) ?_
        refine wo_nil ?_
        cases hr
        exact ⟨_, _, rfl, rfl, rfl, gl rfl, gl g0, gl g1, gl g2, gl g3⟩
    · refine w_condF rfl ?_
      refine w_exit ?_
      refine nx_exit ?_
      cases hr
      exact ⟨_, _, rfl, ne_norm_exit, rfl, rfl⟩
  · obtain ⟨m_9, ho⟩ : ∃ z, z = o_2 := ⟨_, rfl⟩
    subst ho
    rintro _ mm_3 t_5 ⟨rfl, rfl⟩
    refine bk_hit ?_
    exact qf norm_ok rn hr

end Go.Proofs.Ythdglempcfknhaa.T

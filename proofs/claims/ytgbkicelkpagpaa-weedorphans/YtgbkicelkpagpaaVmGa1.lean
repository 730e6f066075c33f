/- Plain functions, and that the small machine answers as they do. -/
import Derived.Test.YtgbkicelkpagpaaVmP
import Derived.Test.YtgbkicelkpagpaaVmAE
open Go.Vm
set_option linter.unusedVariables false
namespace Go.Proofs.Ytgbkicelkpagpaa.W
open Go
/- (dibber/weed.rule).behind -/
abbrev g74_I0 (x0 : Int) (x1 : Int) (x2 : Int) (s : Int × Int × Mm) (m1 : Mm) (t1 : Tr) : Prop :=
  match s with
  | (x7, x9, m_1) => m_1 = m1 ∧ t1.get 7 = (.i .u8 x7) ∧ t1.get 9 = (.i .i64 x9) ∧ t1.get 0 = (.i .u8 x0) ∧ t1.get 1 = (.i .u8 x1) ∧ t1.get 2 = (.i .i64 x2)
abbrev g74_J0 (x0 : Int) (x1 : Int) (x2 : Int) (o : (Int × Mm)) (e : AExit) (m1 : Mm) (t1 : Tr) : Prop :=
  match o with
  | (y7, mo) => e = (.exit 0) ∧ mo = m1 ∧ t1.get 7 = (.i .u8 y7)
abbrev g74_J1 (x0 : Int) (x1 : Int) (x2 : Int) (x7 : Int) (x9 : Int) (o : Bool × Mm) (m1 : Mm) (t1 : Tr) : Prop :=
  match o with
  | (c22, m_3) => m_3 = m1 ∧ t1.get 22 = (.b c22) ∧ t1.get 0 = (.i .u8 x0) ∧ t1.get 1 = (.i .u8 x1) ∧ t1.get 2 = (.i .i64 x2) ∧ t1.get 7 = (.i .u8 x7) ∧ t1.get 8 = (.i .i64 x9) ∧ t1.get 9 = (.i .i64 x9)
abbrev g74_J2 (x0 : Int) (x1 : Int) (x2 : Int) (x9 : Int) (m_3 : Mm) (o : Int) (e : AExit) (m1 : Mm) (t1 : Tr) : Prop :=
  match o with
  | y7 => e = .norm ∧ m_3 = m1 ∧ t1.get 7 = (.i .u8 y7) ∧ t1.get 0 = (.i .u8 x0) ∧ t1.get 1 = (.i .u8 x1) ∧ t1.get 2 = (.i .i64 x2) ∧ t1.get 9 = (.i .i64 x9)
def g74_b0 (M : Means) (ro : List ABlk) (x0 : Int) (x1 : Int) (x2 : Int) (x7 : Int) (x9 : Int) (m_1 : Mm) : Option ((Int × Int × Mm) ⊕ ((Int × Mm))) :=
  forceB (ltI x9 8) fun c10 =>
  cond c10 (
    forceI (bitV .and .i64 x9 3) fun x14 =>
    bindP (callM M.call m_1 76 [(.i .u8 x1), (.i .i64 x14)]) fun v15 m_2 =>
    asB v15 fun c15 =>
    bindO (cond c15 (
      bindP (callM M.call m_2 72 [(.i .u8 x0), (.i .i64 x9)]) fun v19 m_4 =>
      asI .i64 v19 fun x19 =>
      forceB (eqI x19 x2) fun c21 =>
      some (c21, m_4)) (
      some (false, m_2))) fun ⟨c22, m_3⟩ =>
    bindO (α := Int) (
      cond c22 (
        forceI (shrV .i64 x9 1) fun x25 =>
        chk (!ltI x25 (.ofNat 0)) <|
        forceI (shlV .u8 1 x25) fun x26 =>
        forceI (bitV .or .u8 x7 x26) fun x27 =>
        some x27) (
        some x7)) fun x7_1 =>
    forceI (wr .i64 (x9 + 1)) fun x28 =>
    some (.inl (x7_1, x28, m_3))) (
    some (.inr (x7, m_1)))
def g74 (M : Means) (ro : List ABlk) (x0 : Int) (x1 : Int) (x2 : Int) (m0 : Mm) : Option (AVal × Heap × Nat × Nat) :=
  bindO (M.loop (S := Int × Int × Mm) (R := (Int × Mm)) (fun s => g74_b0 M ro x0 x1 x2 s.1 s.2.1 s.2.2) (0, 0, m0)) fun ⟨x7_2, m_5⟩ =>
  finM m0.h.length (tupA [(.i .u8 x7_2)]) m_5

theorem g74_ok {ro : List ABlk} {O : Caller} {M : Means} (hM : M.Ok ⟨F, O⟩ ro) {x0 x1 x2 h r} (ho : O 74 [(.i .u8 x0), (.i .u8 x1), (.i .i64 x2)] h = none) (hr : g74 M ro x0 x1 x2 ⟨h, h.length, h.length⟩ = some r) : callX ⟨F, O⟩ ro 74 [(.i .u8 x0), (.i .u8 x1), (.i .i64 x2)] h = some r := by
  refine callX_of (F := ⟨F, O⟩) (fn := fn74) (g := g74 M ro x0 x1 x2) ho rfl rfl hr ?_
  clear ho
  clear hr
  intro m0 t0 ht hr
  have g0 : t0.get 0 = (.i .u8 x0) := ht 0
  have g1 : t0.get 1 = (.i .u8 x1) := ht 1
  have g2 : t0.get 2 = (.i .i64 x2) := ht 2
  clear ht
  unfold g74 at hr
  refine w_seq ?_
  refine w_ops ?_
  refine wo_step (v := (.i .u8 0)) (s_pure (p_mv rfl)) ?_
  refine wo_nil ?_
  refine nx_norm ?_
  refine w_seq ?_
  refine w_ops ?_
  refine wo_step (v := (.i .u8 0)) (s_pure (p_mv rfl)) ?_
  refine wo_nil ?_
  refine nx_norm ?_
  refine w_seq ?_
  refine w_seq ?_
  refine w_ops ?_
  refine wo_step (v := (.i .i64 0)) (s_pure (p_mv rfl)) ?_
  refine wo_nil ?_
  refine nx_norm ?_
  refine w_block ?_
  have hq := bindO_inv hr
  clear hr
  obtain ⟨o_2, hl, hr⟩ := hq
  obtain ⟨n, hl⟩ := hM.loop _ _ _ hl
  refine jp_mono (w_loop _ (g74_I0 x0 x1 x2) (g74_J0 x0 x1 x2) ?_ n _ _ _ _ hl ⟨rfl, gl rfl, gl rfl, gl g0, gl g1, gl g2⟩) ?_
  · clear hr hl
    intro s mm_3 t_1 o hi hr
    obtain ⟨x7, x9, m_1⟩ := s
    obtain ⟨rfl, g7, g9, g0, g1, g2⟩ := hi
    unfold g74_b0 at hr
    refine w_seq ?_
    refine w_ops ?_
    have hq := forceB_inv hr
    clear hr
    obtain ⟨c10, e10, hr⟩ := hq
    refine wo_step (v := (.b c10)) (s_pure (p_bin g9 rfl (b_lss.trans (cb e10)))) ?_
    refine wo_nil ?_
    refine nx_norm ?_
    refine w_seq ?_
    have hq := cond_inv hr
    clear hr
    rcases hq with ⟨rfl, hr⟩ | ⟨rfl, hr⟩
    · refine w_condT rfl ?_
      refine w_skip ?_
      refine nx_norm ?_
      refine w_seq ?_
      refine w_block ?_
      refine w_seq ?_
      refine w_ops ?_
      refine wo_step (v := (.i .i64 x9)) (s_pure (p_mv g9)) ?_
      refine wo_step (v := (.i .i64 x9)) (s_pure (p_mv rfl)) ?_
      refine wo_nil ?_
      refine nx_norm ?_
      refine w_seq ?_
      refine w_ops ?_
      refine wo_step (v := (.i .u8 x1)) (s_pure (p_mv g1)) ?_
      refine wo_step (v := (.i .i64 x9)) (s_pure (p_mv rfl)) ?_
      have hq := forceI_inv hr
      clear hr
      obtain ⟨x14, e14, hr⟩ := hq
      refine wo_step (v := (.i .i64 x14)) (s_pure (p_bin rfl rfl (b_and.trans (ci e14)))) ?_
      have hq := bindP_inv hr
      clear hr
      obtain ⟨v15, m_2, e15, hr⟩ := hq
      have hq := asB_inv hr
      clear hr
      obtain ⟨c15, rfl, hr⟩ := hq
      refine wo_step (v := (.b c15)) (s_call (mc rfl (mc rfl mn)) (callM_le hM.call e15)) ?_
      refine wo_step (v := (.b c15)) (s_pure (p_mv rfl)) ?_
      have hq := bindO_inv hr
      clear hr
      obtain ⟨o, hr, hk⟩ := hq
      refine wo_join 6 (g74_J1 x0 x1 x2 x7 x9 o) ?_ ?_
      · clear hk
        have hq := cond_inv hr
        clear hr
        rcases hq with ⟨rfl, hr⟩ | ⟨rfl, hr⟩
        · refine wo_take (v := (.i .u8 x0)) rfl (s_pure (p_mv g0)) ?_
          refine wo_take (v := (.i .i64 x9)) rfl (s_pure (p_mv rfl)) ?_
          have hq := bindP_inv hr
          clear hr
          obtain ⟨v19, m_4, e19, hr⟩ := hq
          have hq := asI_inv hr
          clear hr
          obtain ⟨x19, rfl, hr⟩ := hq
          refine wo_take (v := (.i .i64 x19)) rfl (s_call (mc rfl (mc rfl mn)) (callM_le hM.call e19)) ?_
          refine wo_take (v := (.i .i64 x2)) rfl (s_pure (p_mv g2)) ?_
          have hq := forceB_inv hr
          clear hr
          obtain ⟨c21, e21, hr⟩ := hq
          refine wo_take (v := (.b c21)) rfl (s_pure (p_bin rfl rfl (b_eql.trans (cb e21)))) ?_
          refine wo_step (v := (.b c21)) (s_pure (p_pickT rfl rfl)) ?_
          refine wo_nil ?_
          cases hr
          exact ⟨_, _, rfl, rfl, gl rfl, gl g0, gl g1, gl g2, gl g7, gl rfl, gl g9⟩
        · refine wo_skip (v := (.b false)) rfl rfl ?_
          refine wo_skip (v := (.b false)) rfl rfl ?_
          refine wo_skip (v := (.b false)) rfl rfl ?_
          refine wo_skip (v := (.b false)) rfl rfl ?_
          refine wo_skip (v := (.b false)) rfl rfl ?_
          refine wo_step (v := (.b false)) (s_pure (p_pickF rfl rfl)) ?_
          refine wo_nil ?_
          cases hr
          exact ⟨_, _, rfl, rfl, gl rfl, gl g0, gl g1, gl g2, gl g7, gl rfl, gl g9⟩
      · clear hr
        have hr := hk
        clear hk
        obtain ⟨c22, m_3⟩ := o
        rintro mm t_2 ⟨rfl, g22, g0, g1, g2, g7, g8, g9⟩
        refine wo_nil ?_
        refine nx_norm ?_
        have hq := bindO_inv hr
        clear hr
        obtain ⟨o_1, hr, hk⟩ := hq
        refine jp_mono (J := g74_J2 x0 x1 x2 x9 m_3 o_1) ?_ ?_
        · clear hk
          have hq := cond_inv hr
          clear hr
          rcases hq with ⟨rfl, hr⟩ | ⟨rfl, hr⟩
          · refine w_condT g22 ?_
            refine w_ops ?_
            refine wo_step (v := (.i .u8 x7)) (s_pure (p_mv g7)) ?_
            refine wo_step (v := (.i .i64 x9)) (s_pure (p_mv g8)) ?_
            have hq := forceI_inv hr
            clear hr
            obtain ⟨x25, e25, hr⟩ := hq
            refine wo_step (v := (.i .i64 x25)) (s_pure (p_bin rfl rfl ((b_shr rfl).trans (ci e25)))) ?_
            have hq := chk_inv hr
            clear hr
            obtain ⟨hc26, hr⟩ := hq
            have hq := forceI_inv hr
            clear hr
            obtain ⟨x26, e26, hr⟩ := hq
            refine wo_step (v := (.i .u8 x26)) (s_pure (p_bin rfl rfl ((b_shl hc26).trans (ci e26)))) ?_
            have hq := forceI_inv hr
            clear hr
            obtain ⟨x27, e27, hr⟩ := hq
            refine wo_step (v := (.i .u8 x27)) (s_pure (p_bin rfl rfl (b_or.trans (ci e27)))) ?_
            refine wo_step (v := (.i .u8 x27)) (s_pure (p_mv rfl)) ?_
            refine wo_nil ?_
            cases hr
            exact ⟨_, _, rfl, rfl, rfl, gl rfl, gl g0, gl g1, gl g2, gl g9⟩
          · refine w_condF g22 ?_
            refine w_skip ?_
            cases hr
            exact ⟨_, _, rfl, rfl, rfl, gl g7, gl g0, gl g1, gl g2, gl g9⟩
        · have hr := hk
          clear hk
          obtain ⟨x7_1, ho⟩ : ∃ z, z = o_1 := ⟨_, rfl⟩
          subst ho
          rintro _ mm_1 t_3 ⟨rfl, rfl, g7, g0, g1, g2, g9⟩
          refine bk_norm ?_
          refine nx_norm ?_
          refine w_ops ?_
          have hq := forceI_inv hr
          clear hr
          obtain ⟨x28, e28, hr⟩ := hq
          refine wo_step (v := (.i .i64 x28)) (s_pure (p_bin g9 rfl (b_add.trans (ci e28)))) ?_
          refine wo_step (v := (.i .i64 x28)) (s_pure (p_mv rfl)) ?_
          refine wo_nil ?_
          cases hr
          exact ⟨_, _, rfl, rfl, rfl, gl g7, gl rfl, gl g0, gl g1, gl g2⟩
    · refine w_condF rfl ?_
      refine w_exit ?_
      refine nx_exit ?_
      cases hr
      exact ⟨_, _, rfl, ne_norm_exit, rfl, rfl, gl g7⟩
  · obtain ⟨x7_2, m_5⟩ := o_2
    rintro _ mm_2 t_4 ⟨rfl, rfl, g7⟩
    refine bk_hit ?_
    refine nx_norm ?_
    refine w_seq ?_
    refine w_ops ?_
    refine wo_step (v := (.i .u8 x7_2)) (s_pure (p_mv g7)) ?_
    refine wo_step (v := (.i .u8 x7_2)) (s_pure (p_mv rfl)) ?_
    refine wo_nil ?_
    refine nx_norm ?_
    refine w_ret ?_
    exact qf ret_ok (rt rfl rn) hr

/- math/bits.TrailingZeros8 -/

def g75 (M : Means) (ro : List ABlk) (x0 : Int) (m0 : Mm) : Option (AVal × Heap × Nat × Nat) :=
  bindO (evP .e (.ixStr (.c (AVal.s [8, 0, 1, 0, 2, 0, 1, 0, 3, 0, 1, 0, 2, 0, 1, 0, 4, 0, 1, 0, 2, 0, 1, 0, 3, 0, 1, 0, 2, 0, 1, 0, 5, 0, 1, 0, 2, 0, 1, 0, 3, 0, 1, 0, 2, 0, 1, 0, 4, 0, 1, 0, 2, 0, 1, 0, 3, 0, 1, 0, 2, 0, 1, 0, 6, 0, 1, 0, 2, 0, 1, 0, 3, 0, 1, 0, 2, 0, 1, 0, 4, 0, 1, 0, 2, 0, 1, 0, 3, 0, 1, 0, 2, 0, 1, 0, 5, 0, 1, 0, 2, 0, 1, 0, 3, 0, 1, 0, 2, 0, 1, 0, 4, 0, 1, 0, 2, 0, 1, 0, 3, 0, 1, 0, 2, 0, 1, 0, 7, 0, 1, 0, 2, 0, 1, 0, 3, 0, 1, 0, 2, 0, 1, 0, 4, 0, 1, 0, 2, 0, 1, 0, 3, 0, 1, 0, 2, 0, 1, 0, 5, 0, 1, 0, 2, 0, 1, 0, 3, 0, 1, 0, 2, 0, 1, 0, 4, 0, 1, 0, 2, 0, 1, 0, 3, 0, 1, 0, 2, 0, 1, 0, 6, 0, 1, 0, 2, 0, 1, 0, 3, 0, 1, 0, 2, 0, 1, 0, 4, 0, 1, 0, 2, 0, 1, 0, 3, 0, 1, 0, 2, 0, 1, 0, 5, 0, 1, 0, 2, 0, 1, 0, 3, 0, 1, 0, 2, 0, 1, 0, 4, 0, 1, 0, 2, 0, 1, 0, 3, 0, 1, 0, 2, 0, 1, 0])) (.c (.i .u8 x0)))) fun v4 =>
  asI .u8 v4 fun x4 =>
  forceI (wr .i64 x4) fun x5 =>
  finM m0.h.length (tupA [(.i .i64 x5)]) m0

theorem g75_ok {ro : List ABlk} {O : Caller} {M : Means} (hM : M.Ok ⟨F, O⟩ ro) {x0 h r} (ho : O 75 [(.i .u8 x0)] h = none) (hr : g75 M ro x0 ⟨h, h.length, h.length⟩ = some r) : callX ⟨F, O⟩ ro 75 [(.i .u8 x0)] h = some r := by
  refine callX_of (F := ⟨F, O⟩) (fn := fn75) (g := g75 M ro x0) ho rfl rfl hr ?_
  clear ho
  clear hr
  intro m0 t0 ht hr
  have g0 : t0.get 0 = (.i .u8 x0) := ht 0
  clear ht
  unfold g75 at hr
  refine w_seq ?_
  refine w_ops ?_
  refine wo_step (v := (.i .i64 0)) (s_pure (p_mv rfl)) ?_
  refine wo_nil ?_
  refine nx_norm ?_
  refine w_seq ?_
  refine w_ops ?_
  refine wo_step (v := (.i .u8 x0)) (s_pure (p_mv g0)) ?_
  have hq := bindO_inv hr
  clear hr
  obtain ⟨v4, e4, hr⟩ := hq
  have hq := asI_inv hr
  clear hr
  obtain ⟨x4, rfl, hr⟩ := hq
  refine wo_step (v := (.i .u8 x4)) (s_pure (o_ixStr rfl rfl e4)) ?_
  have hq := forceI_inv hr
  clear hr
  obtain ⟨x5, e5, hr⟩ := hq
  refine wo_step (v := (.i .i64 x5)) (s_pure ((p_conv rfl).trans (ci e5))) ?_
  refine wo_step (v := (.i .i64 x5)) (s_pure (p_mv rfl)) ?_
  refine wo_nil ?_
  refine nx_norm ?_
  refine w_ret ?_
  exact qf ret_ok (rt rfl rn) hr

/- (dibber/weed.pairs).has -/

def g76 (M : Means) (ro : List ABlk) (x0 : Int) (x1 : Int) (m0 : Mm) : Option (AVal × Heap × Nat × Nat) :=
  chk (!ltI x1 (.ofNat 0)) <|
  forceI (shrV .u8 x0 x1) fun x7 =>
  forceI (bitV .and .u8 x7 1) fun x8 =>
  forceB (eqI x8 1) fun c9 =>
  finM m0.h.length (tupA [(.b c9)]) m0

theorem g76_ok {ro : List ABlk} {O : Caller} {M : Means} (hM : M.Ok ⟨F, O⟩ ro) {x0 x1 h r} (ho : O 76 [(.i .u8 x0), (.i .i64 x1)] h = none) (hr : g76 M ro x0 x1 ⟨h, h.length, h.length⟩ = some r) : callX ⟨F, O⟩ ro 76 [(.i .u8 x0), (.i .i64 x1)] h = some r := by
  refine callX_of (F := ⟨F, O⟩) (fn := fn76) (g := g76 M ro x0 x1) ho rfl rfl hr ?_
  clear ho
  clear hr
  intro m0 t0 ht hr
  have g0 : t0.get 0 = (.i .u8 x0) := ht 0
  have g1 : t0.get 1 = (.i .i64 x1) := ht 1
  clear ht
  unfold g76 at hr
  refine w_seq ?_
  refine w_ops ?_
  refine wo_step (v := (.b false)) (s_pure (p_mv rfl)) ?_
  refine wo_nil ?_
  refine nx_norm ?_
  refine w_seq ?_
  refine w_ops ?_
  refine wo_step (v := (.i .u8 x0)) (s_pure (p_mv g0)) ?_
  refine wo_step (v := (.i .i64 x1)) (s_pure (p_mv g1)) ?_
  have hq := chk_inv hr
  clear hr
  obtain ⟨hc7, hr⟩ := hq
  have hq := forceI_inv hr
  clear hr
  obtain ⟨x7, e7, hr⟩ := hq
  refine wo_step (v := (.i .u8 x7)) (s_pure (p_bin rfl rfl ((b_shr hc7).trans (ci e7)))) ?_
  have hq := forceI_inv hr
  clear hr
  obtain ⟨x8, e8, hr⟩ := hq
  refine wo_step (v := (.i .u8 x8)) (s_pure (p_bin rfl rfl (b_and.trans (ci e8)))) ?_
  have hq := forceB_inv hr
  clear hr
  obtain ⟨c9, e9, hr⟩ := hq
  refine wo_step (v := (.b c9)) (s_pure (p_bin rfl rfl (b_eql.trans (cb e9)))) ?_
  refine wo_step (v := (.b c9)) (s_pure (p_mv rfl)) ?_
  refine wo_nil ?_
  refine nx_norm ?_
  refine w_ret ?_
  exact qf ret_ok (rt rfl rn) hr

/- dibber/dibberref02.small -/
abbrev g77_I0 (v0 : AVal) (s : AVal × Int × Mm) (m1 : Mm) (t1 : Tr) : Prop :=
  match s with
  | (v3, x4, m_1) => m_1 = m1 ∧ t1.get 3 = v3 ∧ t1.get 4 = (.i .i64 x4) ∧ t1.get 0 = v0
abbrev g77_J0 (v0 : AVal) (o : (AVal × Mm)) (e : AExit) (m1 : Mm) (t1 : Tr) : Prop :=
  match o with
  | (y3, mo) => e = (.exit 0) ∧ mo = m1 ∧ t1.get 3 = y3
def g77_b0 (M : Means) (ro : List ABlk) (v0 : AVal) (v3 : AVal) (x4 : Int) (m_1 : Mm) : Option ((AVal × Int × Mm) ⊕ ((AVal × Mm))) :=
  bindO (evP .e (.len false (.c v0))) fun v7 =>
  asI .i64 v7 fun x7 =>
  forceB (ltI x4 x7) fun c8 =>
  cond c8 (
    bindO (evP .e (.ixS 1 (.c v0) (.c (.i .i64 x4)))) fun v14 =>
    bindO (ldM ro m_1 true 1 v14) fun v15 =>
    asI .i64 v15 fun x15 =>
    forceI (mxV false x15 1) fun x16 =>
    bindP (stepM ro m_1 (.bsl 3 1 [(AVal.i IntKind.i64 0)] 1 [((0, 1), .c (.i .i64 x16))])) fun v17 m_2 =>
    bindP (stepM ro m_2 (.app 3 1 8 [(AVal.i IntKind.i64 0)] (.c v3) (.c v17))) fun v18 m_3 =>
    forceI (wr .i64 (x4 + 1)) fun x10 =>
    some (.inl (v18, x10, m_3))) (
    some (.inr (v3, m_1)))
def g77 (M : Means) (ro : List ABlk) (v0 : AVal) (m0 : Mm) : Option (AVal × Heap × Nat × Nat) :=
  bindO (M.loop (S := AVal × Int × Mm) (R := (AVal × Mm)) (fun s => g77_b0 M ro v0 s.1 s.2.1 s.2.2) (AVal.nsl, 0, m0)) fun ⟨v3_1, m_4⟩ =>
  finM m0.h.length (tupA [v3_1]) m_4

theorem g77_ok {ro : List ABlk} {O : Caller} {M : Means} (hM : M.Ok ⟨F, O⟩ ro) {v0 h r} (ho : O 77 [v0] h = none) (hr : g77 M ro v0 ⟨h, h.length, h.length⟩ = some r) : callX ⟨F, O⟩ ro 77 [v0] h = some r := by
  refine callX_of (F := ⟨F, O⟩) (fn := fn77) (g := g77 M ro v0) ho rfl rfl hr ?_
  clear ho
  clear hr
  intro m0 t0 ht hr
  have g0 : t0.get 0 = v0 := ht 0
  clear ht
  unfold g77 at hr
  refine w_seq ?_
  refine w_ops ?_
  refine wo_step (v := AVal.nsl) (s_pure (p_mv rfl)) ?_
  refine wo_nil ?_
  refine nx_norm ?_
  refine w_seq ?_
  refine w_ops ?_
  refine wo_step (v := AVal.nsl) (s_pure (p_mv rfl)) ?_
  refine wo_nil ?_
  refine nx_norm ?_
  refine w_seq ?_
  refine w_seq ?_
  refine w_ops ?_
  refine wo_step (v := (.i .i64 0)) (s_pure (p_mv rfl)) ?_
  refine wo_nil ?_
  refine nx_norm ?_
  refine w_block ?_
  have hq := bindO_inv hr
  clear hr
  obtain ⟨o, hl, hr⟩ := hq
  obtain ⟨n, hl⟩ := hM.loop _ _ _ hl
  refine jp_mono (w_loop _ (g77_I0 v0) (g77_J0 v0) ?_ n _ _ _ _ hl ⟨rfl, gl rfl, gl rfl, gl g0⟩) ?_
  · clear hr hl
    intro s mm_1 t_1 o hi hr
    obtain ⟨v3, x4, m_1⟩ := s
    obtain ⟨rfl, g3, g4, g0⟩ := hi
    unfold g77_b0 at hr
    refine w_seq ?_
    refine w_seq ?_
    refine w_ops ?_
    refine wo_step (v := (.i .i64 x4)) (s_pure (p_mv g4)) ?_
    refine wo_step (v := v0) (s_pure (p_mv g0)) ?_
    have hq := bindO_inv hr
    clear hr
    obtain ⟨v7, e7, hr⟩ := hq
    have hq := asI_inv hr
    clear hr
    obtain ⟨x7, rfl, hr⟩ := hq
    refine wo_step (v := (.i .i64 x7)) (s_pure (o_len rfl e7)) ?_
    have hq := forceB_inv hr
    clear hr
    obtain ⟨c8, e8, hr⟩ := hq
    refine wo_step (v := (.b c8)) (s_pure (p_bin rfl rfl (b_lss.trans (cb e8)))) ?_
    refine wo_nil ?_
    refine nx_norm ?_
    have hq := cond_inv hr
    clear hr
    rcases hq with ⟨rfl, hr⟩ | ⟨rfl, hr⟩
    · refine w_condT rfl ?_
      refine w_skip ?_
      refine nx_norm ?_
      refine w_seq ?_
      refine w_block ?_
      refine w_ops ?_
      refine wo_step (v := v3) (s_pure (p_mv g3)) ?_
      refine wo_step (v := v0) (s_pure (p_mv g0)) ?_
      refine wo_step (v := (.i .i64 x4)) (s_pure (p_mv g4)) ?_
      have hq := bindO_inv hr
      clear hr
      obtain ⟨v14, e14, hr⟩ := hq
      refine wo_step (v := v14) (s_pure (o_ixS rfl rfl e14)) ?_
      have hq := bindO_inv hr
      clear hr
      obtain ⟨v15, e15, hr⟩ := hq
      have hq := asI_inv hr
      clear hr
      obtain ⟨x15, rfl, hr⟩ := hq
      refine wo_step (v := (.i .i64 x15)) (s_ld rfl e15) ?_
      have hq := forceI_inv hr
      clear hr
      obtain ⟨x16, e16, hr⟩ := hq
      refine wo_step (v := (.i .i64 x16)) (s_pure ((p_mx rfl rfl).trans (ci e16))) ?_
      have hq := bindP_inv hr
      clear hr
      obtain ⟨v17, m_2, e17, hr⟩ := hq
      refine wo_step (v := v17) (s_bsl (qc rfl qn) e17) ?_
      have hq := bindP_inv hr
      clear hr
      obtain ⟨v18, m_3, e18, hr⟩ := hq
      refine wo_step (v := v18) (s_app rfl rfl e18) ?_
      refine wo_step (v := v18) (s_pure (p_mv rfl)) ?_
      refine wo_nil ?_
      refine bk_norm ?_
      refine nx_norm ?_
      refine w_ops ?_
      refine wo_step (v := (.i .i64 x4)) (s_pure (p_mv g4)) ?_
      have hq := forceI_inv hr
      clear hr
      obtain ⟨x10, e10, hr⟩ := hq
      refine wo_step (v := (.i .i64 x10)) (s_pure (p_bin rfl rfl (b_add.trans (ci e10)))) ?_
      refine wo_step (v := (.i .i64 x10)) (s_pure (p_mv rfl)) ?_
      refine wo_nil ?_
      cases hr
      exact ⟨_, _, rfl, rfl, rfl, gl rfl, gl rfl, gl g0⟩
    · refine w_condF rfl ?_
      refine w_exit ?_
      refine nx_exit ?_
      cases hr
      exact ⟨_, _, rfl, ne_norm_exit, rfl, rfl, gl g3⟩
  · obtain ⟨v3_1, m_4⟩ := o
    rintro _ mm t_2 ⟨rfl, rfl, g3⟩
    refine bk_hit ?_
    refine nx_norm ?_
    refine w_seq ?_
    refine w_ops ?_
    refine wo_step (v := v3_1) (s_pure (p_mv g3)) ?_
    refine wo_step (v := v3_1) (s_pure (p_mv rfl)) ?_
    refine wo_nil ?_
    refine nx_norm ?_
    refine w_ret ?_
    exact qf ret_ok (rt rfl rn) hr

/- (dibber/weed.rule).ahead -/
abbrev g78_I0 (x0 : Int) (x1 : Int) (x2 : Int) (s : Int × Int × Mm) (m1 : Mm) (t1 : Tr) : Prop :=
  match s with
  | (x7, x9, m_1) => m_1 = m1 ∧ t1.get 7 = (.i .u8 x7) ∧ t1.get 9 = (.i .i64 x9) ∧ t1.get 0 = (.i .u8 x0) ∧ t1.get 1 = (.i .u8 x1) ∧ t1.get 2 = (.i .i64 x2)
abbrev g78_J0 (x0 : Int) (x1 : Int) (x2 : Int) (o : (Int × Mm)) (e : AExit) (m1 : Mm) (t1 : Tr) : Prop :=
  match o with
  | (y7, mo) => e = (.exit 0) ∧ mo = m1 ∧ t1.get 7 = (.i .u8 y7)
abbrev g78_J1 (x0 : Int) (x1 : Int) (x2 : Int) (x7 : Int) (x9 : Int) (o : Bool × Mm) (m1 : Mm) (t1 : Tr) : Prop :=
  match o with
  | (c22, m_3) => m_3 = m1 ∧ t1.get 22 = (.b c22) ∧ t1.get 0 = (.i .u8 x0) ∧ t1.get 1 = (.i .u8 x1) ∧ t1.get 2 = (.i .i64 x2) ∧ t1.get 7 = (.i .u8 x7) ∧ t1.get 8 = (.i .i64 x9) ∧ t1.get 9 = (.i .i64 x9)
abbrev g78_J2 (x0 : Int) (x1 : Int) (x2 : Int) (x9 : Int) (m_3 : Mm) (o : Int) (e : AExit) (m1 : Mm) (t1 : Tr) : Prop :=
  match o with
  | y7 => e = .norm ∧ m_3 = m1 ∧ t1.get 7 = (.i .u8 y7) ∧ t1.get 0 = (.i .u8 x0) ∧ t1.get 1 = (.i .u8 x1) ∧ t1.get 2 = (.i .i64 x2) ∧ t1.get 9 = (.i .i64 x9)
def g78_b0 (M : Means) (ro : List ABlk) (x0 : Int) (x1 : Int) (x2 : Int) (x7 : Int) (x9 : Int) (m_1 : Mm) : Option ((Int × Int × Mm) ⊕ ((Int × Mm))) :=
  forceB (ltI x9 8) fun c10 =>
  cond c10 (
    forceI (shrV .i64 x9 1) fun x14 =>
    bindP (callM M.call m_1 76 [(.i .u8 x1), (.i .i64 x14)]) fun v15 m_2 =>
    asB v15 fun c15 =>
    bindO (cond c15 (
      bindP (callM M.call m_2 72 [(.i .u8 x0), (.i .i64 x9)]) fun v19 m_4 =>
      asI .i64 v19 fun x19 =>
      forceB (eqI x19 x2) fun c21 =>
      some (c21, m_4)) (
      some (false, m_2))) fun ⟨c22, m_3⟩ =>
    bindO (α := Int) (
      cond c22 (
        forceI (bitV .and .i64 x9 3) fun x25 =>
        chk (!ltI x25 (.ofNat 0)) <|
        forceI (shlV .u8 1 x25) fun x26 =>
        forceI (bitV .or .u8 x7 x26) fun x27 =>
        some x27) (
        some x7)) fun x7_1 =>
    forceI (wr .i64 (x9 + 1)) fun x28 =>
    some (.inl (x7_1, x28, m_3))) (
    some (.inr (x7, m_1)))
def g78 (M : Means) (ro : List ABlk) (x0 : Int) (x1 : Int) (x2 : Int) (m0 : Mm) : Option (AVal × Heap × Nat × Nat) :=
  bindO (M.loop (S := Int × Int × Mm) (R := (Int × Mm)) (fun s => g78_b0 M ro x0 x1 x2 s.1 s.2.1 s.2.2) (0, 0, m0)) fun ⟨x7_2, m_5⟩ =>
  finM m0.h.length (tupA [(.i .u8 x7_2)]) m_5

theorem g78_ok {ro : List ABlk} {O : Caller} {M : Means} (hM : M.Ok ⟨F, O⟩ ro) {x0 x1 x2 h r} (ho : O 78 [(.i .u8 x0), (.i .u8 x1), (.i .i64 x2)] h = none) (hr : g78 M ro x0 x1 x2 ⟨h, h.length, h.length⟩ = some r) : callX ⟨F, O⟩ ro 78 [(.i .u8 x0), (.i .u8 x1), (.i .i64 x2)] h = some r := by
  refine callX_of (F := ⟨F, O⟩) (fn := fn78) (g := g78 M ro x0 x1 x2) ho rfl rfl hr ?_
  clear ho
  clear hr
  intro m0 t0 ht hr
  have g0 : t0.get 0 = (.i .u8 x0) := ht 0
  have g1 : t0.get 1 = (.i .u8 x1) := ht 1
  have g2 : t0.get 2 = (.i .i64 x2) := ht 2
  clear ht
  unfold g78 at hr
  refine w_seq ?_
  refine w_ops ?_
  refine wo_step (v := (.i .u8 0)) (s_pure (p_mv rfl)) ?_
  refine wo_nil ?_
  refine nx_norm ?_
  refine w_seq ?_
  refine w_ops ?_
  refine wo_step (v := (.i .u8 0)) (s_pure (p_mv rfl)) ?_
  refine wo_nil ?_
  refine nx_norm ?_
  refine w_seq ?_
  refine w_seq ?_
  refine w_ops ?_
  refine wo_step (v := (.i .i64 0)) (s_pure (p_mv rfl)) ?_
  refine wo_nil ?_
  refine nx_norm ?_
  refine w_block ?_
  have hq := bindO_inv hr
  clear hr
  obtain ⟨o_2, hl, hr⟩ := hq
  obtain ⟨n, hl⟩ := hM.loop _ _ _ hl
  refine jp_mono (w_loop _ (g78_I0 x0 x1 x2) (g78_J0 x0 x1 x2) ?_ n _ _ _ _ hl ⟨rfl, gl rfl, gl rfl, gl g0, gl g1, gl g2⟩) ?_
  · clear hr hl
    intro s mm_3 t_1 o hi hr
    obtain ⟨x7, x9, m_1⟩ := s
    obtain ⟨rfl, g7, g9, g0, g1, g2⟩ := hi
    unfold g78_b0 at hr
    refine w_seq ?_
    refine w_ops ?_
    have hq := forceB_inv hr
    clear hr
    obtain ⟨c10, e10, hr⟩ := hq
    refine wo_step (v := (.b c10)) (s_pure (p_bin g9 rfl (b_lss.trans (cb e10)))) ?_
    refine wo_nil ?_
    refine nx_norm ?_
    refine w_seq ?_
    have hq := cond_inv hr
    clear hr
    rcases hq with ⟨rfl, hr⟩ | ⟨rfl, hr⟩
    · refine w_condT rfl ?_
      refine w_skip ?_
      refine nx_norm ?_
      refine w_seq ?_
      refine w_block ?_
      refine w_seq ?_
      refine w_ops ?_
      refine wo_step (v := (.i .i64 x9)) (s_pure (p_mv g9)) ?_
      refine wo_step (v := (.i .i64 x9)) (s_pure (p_mv rfl)) ?_
      refine wo_nil ?_
      refine nx_norm ?_
      refine w_seq ?_
      refine w_ops ?_
      refine wo_step (v := (.i .u8 x1)) (s_pure (p_mv g1)) ?_
      refine wo_step (v := (.i .i64 x9)) (s_pure (p_mv rfl)) ?_
      have hq := forceI_inv hr
      clear hr
      obtain ⟨x14, e14, hr⟩ := hq
      refine wo_step (v := (.i .i64 x14)) (s_pure (p_bin rfl rfl ((b_shr rfl).trans (ci e14)))) ?_
      have hq := bindP_inv hr
      clear hr
      obtain ⟨v15, m_2, e15, hr⟩ := hq
      have hq := asB_inv hr
      clear hr
      obtain ⟨c15, rfl, hr⟩ := hq
      refine wo_step (v := (.b c15)) (s_call (mc rfl (mc rfl mn)) (callM_le hM.call e15)) ?_
      refine wo_step (v := (.b c15)) (s_pure (p_mv rfl)) ?_
      have hq := bindO_inv hr
      clear hr
      obtain ⟨o, hr, hk⟩ := hq
      refine wo_join 6 (g78_J1 x0 x1 x2 x7 x9 o) ?_ ?_
      · clear hk
        have hq := cond_inv hr
        clear hr
        rcases hq with ⟨rfl, hr⟩ | ⟨rfl, hr⟩
        · refine wo_take (v := (.i .u8 x0)) rfl (s_pure (p_mv g0)) ?_
          refine wo_take (v := (.i .i64 x9)) rfl (s_pure (p_mv rfl)) ?_
          have hq := bindP_inv hr
          clear hr
          obtain ⟨v19, m_4, e19, hr⟩ := hq
          have hq := asI_inv hr
          clear hr
          obtain ⟨x19, rfl, hr⟩ := hq
          refine wo_take (v := (.i .i64 x19)) rfl (s_call (mc rfl (mc rfl mn)) (callM_le hM.call e19)) ?_
          refine wo_take (v := (.i .i64 x2)) rfl (s_pure (p_mv g2)) ?_
          have hq := forceB_inv hr
          clear hr
          obtain ⟨c21, e21, hr⟩ := hq
          refine wo_take (v := (.b c21)) rfl (s_pure (p_bin rfl rfl (b_eql.trans (cb e21)))) ?_
          refine wo_step (v := (.b c21)) (s_pure (p_pickT rfl rfl)) ?_
          refine wo_nil ?_
          cases hr
          exact ⟨_, _, rfl, rfl, gl rfl, gl g0, gl g1, gl g2, gl g7, gl rfl, gl g9⟩
        · refine wo_skip (v := (.b false)) rfl rfl ?_
          refine wo_skip (v := (.b false)) rfl rfl ?_
          refine wo_skip (v := (.b false)) rfl rfl ?_
          refine wo_skip (v := (.b false)) rfl rfl ?_
          refine wo_skip (v := (.b false)) rfl rfl ?_
          refine wo_step (v := (.b false)) (s_pure (p_pickF rfl rfl)) ?_
          refine wo_nil ?_
          cases hr
          exact ⟨_, _, rfl, rfl, gl rfl, gl g0, gl g1, gl g2, gl g7, gl rfl, gl g9⟩
      · clear hr
        have hr := hk
        clear hk
        obtain ⟨c22, m_3⟩ := o
        rintro mm t_2 ⟨rfl, g22, g0, g1, g2, g7, g8, g9⟩
        refine wo_nil ?_
        refine nx_norm ?_
        have hq := bindO_inv hr
        clear hr
        obtain ⟨o_1, hr, hk⟩ := hq
        refine jp_mono (J := g78_J2 x0 x1 x2 x9 m_3 o_1) ?_ ?_
        · clear hk
          have hq := cond_inv hr
          clear hr
          rcases hq with ⟨rfl, hr⟩ | ⟨rfl, hr⟩
          · refine w_condT g22 ?_
            refine w_ops ?_
            refine wo_step (v := (.i .u8 x7)) (s_pure (p_mv g7)) ?_
            refine wo_step (v := (.i .i64 x9)) (s_pure (p_mv g8)) ?_
            have hq := forceI_inv hr
            clear hr
            obtain ⟨x25, e25, hr⟩ := hq
            refine wo_step (v := (.i .i64 x25)) (s_pure (p_bin rfl rfl (b_and.trans (ci e25)))) ?_
            have hq := chk_inv hr
            clear hr
            obtain ⟨hc26, hr⟩ := hq
            have hq := forceI_inv hr
            clear hr
            obtain ⟨x26, e26, hr⟩ := hq
            refine wo_step (v := (.i .u8 x26)) (s_pure (p_bin rfl rfl ((b_shl hc26).trans (ci e26)))) ?_
            have hq := forceI_inv hr
            clear hr
            obtain ⟨x27, e27, hr⟩ := hq
            refine wo_step (v := (.i .u8 x27)) (s_pure (p_bin rfl rfl (b_or.trans (ci e27)))) ?_
            refine wo_step (v := (.i .u8 x27)) (s_pure (p_mv rfl)) ?_
            refine wo_nil ?_
            cases hr
            exact ⟨_, _, rfl, rfl, rfl, gl rfl, gl g0, gl g1, gl g2, gl g9⟩
          · refine w_condF g22 ?_
            refine w_skip ?_
            cases hr
            exact ⟨_, _, rfl, rfl, rfl, gl g7, gl g0, gl g1, gl g2, gl g9⟩
        · have hr := hk
          clear hk
          obtain ⟨x7_1, ho⟩ : ∃ z, z = o_1 := ⟨_, rfl⟩
          subst ho
          rintro _ mm_1 t_3 ⟨rfl, rfl, g7, g0, g1, g2, g9⟩
          refine bk_norm ?_
          refine nx_norm ?_
          refine w_ops ?_
          have hq := forceI_inv hr
          clear hr
          obtain ⟨x28, e28, hr⟩ := hq
          refine wo_step (v := (.i .i64 x28)) (s_pure (p_bin g9 rfl (b_add.trans (ci e28)))) ?_
          refine wo_step (v := (.i .i64 x28)) (s_pure (p_mv rfl)) ?_
          refine wo_nil ?_
          cases hr
          exact ⟨_, _, rfl, rfl, rfl, gl g7, gl rfl, gl g0, gl g1, gl g2⟩
    · refine w_condF rfl ?_
      refine w_exit ?_
      refine nx_exit ?_
      cases hr
      exact ⟨_, _, rfl, ne_norm_exit, rfl, rfl, gl g7⟩
  · obtain ⟨x7_2, m_5⟩ := o_2
    rintro _ mm_2 t_4 ⟨rfl, rfl, g7⟩
    refine bk_hit ?_
    refine nx_norm ?_
    refine w_seq ?_
    refine w_ops ?_
    refine wo_step (v := (.i .u8 x7_2)) (s_pure (p_mv g7)) ?_
    refine wo_step (v := (.i .u8 x7_2)) (s_pure (p_mv rfl)) ?_
    refine wo_nil ?_
    refine nx_norm ?_
    refine w_ret ?_
    exact qf ret_ok (rt rfl rn) hr

/- (dibber/weed.rule).lasting -/
abbrev g79_I0 (x0 : Int) (x1 : Int) (s : Int × Int × Int × Mm) (m1 : Mm) (t1 : Tr) : Prop :=
  match s with
  | (x5, x6, x11, m_1) => m_1 = m1 ∧ t1.get 5 = (.i .u16 x5) ∧ t1.get 6 = (.i .u16 x6) ∧ t1.get 11 = (.i .i64 x11) ∧ t1.get 0 = (.i .u8 x0) ∧ t1.get 1 = (.i .u16 x1)
abbrev g79_J0 (x0 : Int) (x1 : Int) (o : (Int × Int × Mm)) (e : AExit) (m1 : Mm) (t1 : Tr) : Prop :=
  match o with
  | (y5, y6, mo) => e = (.exit 0) ∧ mo = m1 ∧ t1.get 5 = (.i .u16 y5) ∧ t1.get 6 = (.i .u16 y6) ∧ t1.get 1 = (.i .u16 x1)
abbrev g79_I1 (x0 : Int) (x1 : Int) (x11 : Int) (s : Int × Int × Int × Mm) (m1 : Mm) (t1 : Tr) : Prop :=
  match s with
  | (x5_1, x6_1, x14, m_2) => m_2 = m1 ∧ t1.get 5 = (.i .u16 x5_1) ∧ t1.get 6 = (.i .u16 x6_1) ∧ t1.get 14 = (.i .i64 x14) ∧ t1.get 0 = (.i .u8 x0) ∧ t1.get 1 = (.i .u16 x1) ∧ t1.get 7 = (.i .i64 x11) ∧ t1.get 11 = (.i .i64 x11)
abbrev g79_J1 (x0 : Int) (x1 : Int) (x11 : Int) (o : (Int × Int × Mm)) (e : AExit) (m1 : Mm) (t1 : Tr) : Prop :=
  match o with
  | (y5, y6, mo) => e = (.exit 2) ∧ mo = m1 ∧ t1.get 5 = (.i .u16 y5) ∧ t1.get 6 = (.i .u16 y6) ∧ t1.get 0 = (.i .u8 x0) ∧ t1.get 1 = (.i .u16 x1) ∧ t1.get 11 = (.i .i64 x11)
abbrev g79_J2 (x0 : Int) (x1 : Int) (x5_1 : Int) (x6_1 : Int) (x11 : Int) (x23 : Int) (x30 : Int) (x14 : Int) (m_4 : Mm) (o : Bool) (m1 : Mm) (t1 : Tr) : Prop :=
  match o with
  | c43 => m_4 = m1 ∧ t1.get 43 = (.b c43) ∧ t1.get 0 = (.i .u8 x0) ∧ t1.get 1 = (.i .u16 x1) ∧ t1.get 5 = (.i .u16 x5_1) ∧ t1.get 6 = (.i .u16 x6_1) ∧ t1.get 7 = (.i .i64 x11) ∧ t1.get 9 = (.i .u16 x23) ∧ t1.get 10 = (.i .u16 x30) ∧ t1.get 11 = (.i .i64 x11) ∧ t1.get 14 = (.i .i64 x14)
abbrev g79_J3 (x0 : Int) (x1 : Int) (x5_1 : Int) (x6_1 : Int) (x11 : Int) (x23 : Int) (x30 : Int) (x14 : Int) (m_4 : Mm) (o : Bool) (m1 : Mm) (t1 : Tr) : Prop :=
  match o with
  | c49 => m_4 = m1 ∧ t1.get 49 = (.b c49) ∧ t1.get 0 = (.i .u8 x0) ∧ t1.get 1 = (.i .u16 x1) ∧ t1.get 5 = (.i .u16 x5_1) ∧ t1.get 6 = (.i .u16 x6_1) ∧ t1.get 7 = (.i .i64 x11) ∧ t1.get 9 = (.i .u16 x23) ∧ t1.get 10 = (.i .u16 x30) ∧ t1.get 11 = (.i .i64 x11) ∧ t1.get 14 = (.i .i64 x14)
abbrev g79_J4 (x0 : Int) (x1 : Int) (x11 : Int) (x14 : Int) (m_4 : Mm) (o : (Int × Int)) (e : AExit) (m1 : Mm) (t1 : Tr) : Prop :=
  match o with
  | (y5, y6) => e = .norm ∧ m_4 = m1 ∧ t1.get 5 = (.i .u16 y5) ∧ t1.get 6 = (.i .u16 y6) ∧ t1.get 0 = (.i .u8 x0) ∧ t1.get 1 = (.i .u16 x1) ∧ t1.get 7 = (.i .i64 x11) ∧ t1.get 11 = (.i .i64 x11) ∧ t1.get 14 = (.i .i64 x14)
def g79_b1 (M : Means) (ro : List ABlk) (x0 : Int) (x1 : Int) (x11 : Int) (x5_1 : Int) (x6_1 : Int) (x14 : Int) (m_2 : Mm) : Option ((Int × Int × Int × Mm) ⊕ ((Int × Int × Mm))) :=
  forceB (ltI x14 8) fun c15 =>
  cond c15 (
    forceI (shrV .i64 x11 1) fun x18 =>
    forceI (shlV .i64 x18 2) fun x19 =>
    forceI (shrV .i64 x14 1) fun x21 =>
    forceI (bitV .or .i64 x19 x21) fun x22 =>
    chk (!ltI x22 (.ofNat 0)) <|
    forceI (shlV .u16 1 x22) fun x23 =>
    forceI (bitV .and .i64 x11 3) fun x25 =>
    forceI (shlV .i64 x25 2) fun x26 =>
    forceI (bitV .and .i64 x14 3) fun x28 =>
    forceI (bitV .or .i64 x26 x28) fun x29 =>
    chk (!ltI x29 (.ofNat 0)) <|
    forceI (shlV .u16 1 x29) fun x30 =>
    bindP (callM M.call m_2 72 [(.i .u8 x0), (.i .i64 x11)]) fun v33 m_3 =>
    asI .i64 v33 fun x33 =>
    bindP (callM M.call m_3 72 [(.i .u8 x0), (.i .i64 x14)]) fun v36 m_4 =>
    asI .i64 v36 fun x36 =>
    forceB (eqI x33 x36) fun c37 =>
    bindO (cond c37 (
      forceI (bitV .and .u16 x1 x23) fun x41 =>
      forceB (!eqI x41 0) fun c42 =>
      some c42) (
      some false)) fun c43 =>
    bindO (cond c43 (
      forceI (bitV .and .u16 x1 x30) fun x47 =>
      forceB (!eqI x47 0) fun c48 =>
      some c48) (
      some false)) fun c49 =>
    bindO (α := (Int × Int)) (
      cond c49 (
        forceI (bitV .or .u16 x5_1 x23) fun x52 =>
        forceI (bitV .or .u16 x6_1 x30) fun x55 =>
        some (x52, x55)) (
        some (x5_1, x6_1))) fun ⟨x5_2, x6_2⟩ =>
    forceI (wr .i64 (x14 + 1)) fun x56 =>
    some (.inl (x5_2, x6_2, x56, m_4))) (
    some (.inr (x5_1, x6_1, m_2)))
def g79_b0 (M : Means) (ro : List ABlk) (x0 : Int) (x1 : Int) (x5 : Int) (x6 : Int) (x11 : Int) (m_1 : Mm) : Option ((Int × Int × Int × Mm) ⊕ ((Int × Int × Mm))) :=
  forceB (ltI x11 8) fun c12 =>
  cond c12 (
    bindO (M.loop (S := Int × Int × Int × Mm) (R := (Int × Int × Mm)) (fun s => g79_b1 M ro x0 x1 x11 s.1 s.2.1 s.2.2.1 s.2.2.2) (x5, x6, 0, m_1)) fun ⟨x5_3, x6_3, m_5⟩ =>
    forceI (wr .i64 (x11 + 1)) fun x57 =>
    some (.inl (x5_3, x6_3, x57, m_5))) (
    some (.inr (x5, x6, m_1)))
def g79 (M : Means) (ro : List ABlk) (x0 : Int) (x1 : Int) (m0 : Mm) : Option (AVal × Heap × Nat × Nat) :=
  bindO (M.loop (S := Int × Int × Int × Mm) (R := (Int × Int × Mm)) (fun s => g79_b0 M ro x0 x1 s.1 s.2.1 s.2.2.1 s.2.2.2) (0, 0, 0, m0)) fun ⟨x5_4, x6_4, m_6⟩ =>
  forceI (bitV .and .u16 x1 x5_4) fun x60 =>
  forceI (bitV .and .u16 x60 x6_4) fun x62 =>
  finM m0.h.length (tupA [(.i .u16 x62)]) m_6

theorem g79_ok {ro : List ABlk} {O : Caller} {M : Means} (hM : M.Ok ⟨F, O⟩ ro) {x0 x1 h r} (ho : O 79 [(.i .u8 x0), (.i .u16 x1)] h = none) (hr : g79 M ro x0 x1 ⟨h, h.length, h.length⟩ = some r) : callX ⟨F, O⟩ ro 79 [(.i .u8 x0), (.i .u16 x1)] h = some r := by
  refine callX_of (F := ⟨F, O⟩) (fn := fn79) (g := g79 M ro x0 x1) ho rfl rfl hr ?_
  clear ho
  clear hr
  intro m0 t0 ht hr
  have g0 : t0.get 0 = (.i .u8 x0) := ht 0
  have g1 : t0.get 1 = (.i .u16 x1) := ht 1
  clear ht
  unfold g79 at hr
  refine w_seq ?_
  refine w_ops ?_
  refine wo_step (v := (.i .u16 0)) (s_pure (p_mv rfl)) ?_
  refine wo_nil ?_
  refine nx_norm ?_
  refine w_seq ?_
  refine w_ops ?_
  refine wo_step (v := (.i .u16 0)) (s_pure (p_mv rfl)) ?_
  refine wo_step (v := (.i .u16 0)) (s_pure (p_mv rfl)) ?_
  refine wo_nil ?_
  refine nx_norm ?_
  refine w_seq ?_
  refine w_seq ?_
  refine w_ops ?_
  refine wo_step (v := (.i .i64 0)) (s_pure (p_mv rfl)) ?_
  refine wo_nil ?_
  refine nx_norm ?_
  refine w_block ?_
  have hq := bindO_inv hr
  clear hr
  obtain ⟨o_4, hl_1, hr⟩ := hq
  obtain ⟨n_1, hl_1⟩ := hM.loop _ _ _ hl_1
  refine jp_mono (w_loop _ (g79_I0 x0 x1) (g79_J0 x0 x1) ?_ n_1 _ _ _ _ hl_1 ⟨rfl, gl rfl, gl rfl, gl rfl, gl g0, gl g1⟩) ?_
  · clear hr hl_1
    intro s mm_6 t_1 o hi hr
    obtain ⟨x5, x6, x11, m_1⟩ := s
    obtain ⟨rfl, g5, g6, g11, g0, g1⟩ := hi
    unfold g79_b0 at hr
    refine w_seq ?_
    refine w_ops ?_
    have hq := forceB_inv hr
    clear hr
    obtain ⟨c12, e12, hr⟩ := hq
    refine wo_step (v := (.b c12)) (s_pure (p_bin g11 rfl (b_lss.trans (cb e12)))) ?_
    refine wo_nil ?_
    refine nx_norm ?_
    refine w_seq ?_
    have hq := cond_inv hr
    clear hr
    rcases hq with ⟨rfl, hr⟩ | ⟨rfl, hr⟩
    · refine w_condT rfl ?_
      refine w_skip ?_
      refine nx_norm ?_
      refine w_seq ?_
      refine w_block ?_
      refine w_seq ?_
      refine w_ops ?_
      refine wo_step (v := (.i .i64 x11)) (s_pure (p_mv g11)) ?_
      refine wo_step (v := (.i .i64 x11)) (s_pure (p_mv rfl)) ?_
      refine wo_nil ?_
      refine nx_norm ?_
      refine w_seq ?_
      refine w_ops ?_
      refine wo_step (v := (.i .i64 0)) (s_pure (p_mv rfl)) ?_
      refine wo_nil ?_
      refine nx_norm ?_
      refine w_block ?_
      have hq := bindO_inv hr
      clear hr
      obtain ⟨o_3, hl, hr⟩ := hq
      obtain ⟨n, hl⟩ := hM.loop _ _ _ hl
      refine jp_mono (w_loop _ (g79_I1 x0 x1 x11) (g79_J1 x0 x1 x11) ?_ n _ _ _ _ hl ⟨rfl, gl g5, gl g6, gl rfl, gl g0, gl g1, gl rfl, gl g11⟩) ?_
      · clear hr hl
        intro s mm_4 t_2 o hi hr
        obtain ⟨x5_1, x6_1, x14, m_2⟩ := s
        obtain ⟨rfl, g5, g6, g14, g0, g1, g7, g11⟩ := hi
        unfold g79_b1 at hr
        refine w_seq ?_
        refine w_ops ?_
        have hq := forceB_inv hr
        clear hr
        obtain ⟨c15, e15, hr⟩ := hq
        refine wo_step (v := (.b c15)) (s_pure (p_bin g14 rfl (b_lss.trans (cb e15)))) ?_
        refine wo_nil ?_
        refine nx_norm ?_
        refine w_seq ?_
        have hq := cond_inv hr
        clear hr
        rcases hq with ⟨rfl, hr⟩ | ⟨rfl, hr⟩
        · refine w_condT rfl ?_
          refine w_skip ?_
          refine nx_norm ?_
          refine w_seq ?_
          refine w_block ?_
          refine w_seq ?_
          refine w_ops ?_
          refine wo_step (v := (.i .i64 x14)) (s_pure (p_mv g14)) ?_
          refine wo_step (v := (.i .i64 x14)) (s_pure (p_mv rfl)) ?_
          refine wo_nil ?_
          refine nx_norm ?_
          refine w_seq ?_
          refine w_ops ?_
          refine wo_step (v := (.i .i64 x11)) (s_pure (p_mv g7)) ?_
          have hq := forceI_inv hr
          clear hr
          obtain ⟨x18, e18, hr⟩ := hq
          refine wo_step (v := (.i .i64 x18)) (s_pure (p_bin rfl rfl ((b_shr rfl).trans (ci e18)))) ?_
          have hq := forceI_inv hr
          clear hr
          obtain ⟨x19, e19, hr⟩ := hq
          refine wo_step (v := (.i .i64 x19)) (s_pure (p_bin rfl rfl ((b_shl rfl).trans (ci e19)))) ?_
          refine wo_step (v := (.i .i64 x14)) (s_pure (p_mv rfl)) ?_
          have hq := forceI_inv hr
          clear hr
          obtain ⟨x21, e21, hr⟩ := hq
          refine wo_step (v := (.i .i64 x21)) (s_pure (p_bin rfl rfl ((b_shr rfl).trans (ci e21)))) ?_
          have hq := forceI_inv hr
          clear hr
          obtain ⟨x22, e22, hr⟩ := hq
          refine wo_step (v := (.i .i64 x22)) (s_pure (p_bin rfl rfl (b_or.trans (ci e22)))) ?_
          have hq := chk_inv hr
          clear hr
          obtain ⟨hc23, hr⟩ := hq
          have hq := forceI_inv hr
          clear hr
          obtain ⟨x23, e23, hr⟩ := hq
          refine wo_step (v := (.i .u16 x23)) (s_pure (p_bin rfl rfl ((b_shl hc23).trans (ci e23)))) ?_
          refine wo_step (v := (.i .i64 x11)) (s_pure (p_mv g7)) ?_
          have hq := forceI_inv hr
          clear hr
          obtain ⟨x25, e25, hr⟩ := hq
          refine wo_step (v := (.i .i64 x25)) (s_pure (p_bin rfl rfl (b_and.trans (ci e25)))) ?_
          have hq := forceI_inv hr
          clear hr
          obtain ⟨x26, e26, hr⟩ := hq
          refine wo_step (v := (.i .i64 x26)) (s_pure (p_bin rfl rfl ((b_shl rfl).trans (ci e26)))) ?_
          refine wo_step (v := (.i .i64 x14)) (s_pure (p_mv rfl)) ?_
          have hq := forceI_inv hr
          clear hr
          obtain ⟨x28, e28, hr⟩ := hq
          refine wo_step (v := (.i .i64 x28)) (s_pure (p_bin rfl rfl (b_and.trans (ci e28)))) ?_
          have hq := forceI_inv hr
          clear hr
          obtain ⟨x29, e29, hr⟩ := hq
          refine wo_step (v := (.i .i64 x29)) (s_pure (p_bin rfl rfl (b_or.trans (ci e29)))) ?_
          have hq := chk_inv hr
          clear hr
          obtain ⟨hc30, hr⟩ := hq
          have hq := forceI_inv hr
          clear hr
          obtain ⟨x30, e30, hr⟩ := hq
          refine wo_step (v := (.i .u16 x30)) (s_pure (p_bin rfl rfl ((b_shl hc30).trans (ci e30)))) ?_
          refine wo_step (v := (.i .u16 x23)) (s_pure (p_mv rfl)) ?_
          refine wo_step (v := (.i .u16 x30)) (s_pure (p_mv rfl)) ?_
          refine wo_nil ?_
          refine nx_norm ?_
          refine w_seq ?_
          refine w_ops ?_
          refine wo_step (v := (.i .u8 x0)) (s_pure (p_mv g0)) ?_
          refine wo_step (v := (.i .i64 x11)) (s_pure (p_mv g7)) ?_
          have hq := bindP_inv hr
          clear hr
          obtain ⟨v33, m_3, e33, hr⟩ := hq
          have hq := asI_inv hr
          clear hr
          obtain ⟨x33, rfl, hr⟩ := hq
          refine wo_step (v := (.i .i64 x33)) (s_call (mc rfl (mc rfl mn)) (callM_le hM.call e33)) ?_
          refine wo_step (v := (.i .u8 x0)) (s_pure (p_mv g0)) ?_
          refine wo_step (v := (.i .i64 x14)) (s_pure (p_mv rfl)) ?_
          have hq := bindP_inv hr
          clear hr
          obtain ⟨v36, m_4, e36, hr⟩ := hq
          have hq := asI_inv hr
          clear hr
          obtain ⟨x36, rfl, hr⟩ := hq
          refine wo_step (v := (.i .i64 x36)) (s_call (mc rfl (mc rfl mn)) (callM_le hM.call e36)) ?_
          have hq := forceB_inv hr
          clear hr
          obtain ⟨c37, e37, hr⟩ := hq
          refine wo_step (v := (.b c37)) (s_pure (p_bin rfl rfl (b_eql.trans (cb e37)))) ?_
          refine wo_step (v := (.b c37)) (s_pure (p_mv rfl)) ?_
          have hq := bindO_inv hr
          clear hr
          obtain ⟨o, hr, hk⟩ := hq
          refine wo_join 5 (g79_J2 x0 x1 x5_1 x6_1 x11 x23 x30 x14 m_4 o) ?_ ?_
          · clear hk
            have hq := cond_inv hr
            clear hr
            rcases hq with ⟨rfl, hr⟩ | ⟨rfl, hr⟩
            · refine wo_take (v := (.i .u16 x1)) rfl (s_pure (p_mv g1)) ?_
              refine wo_take (v := (.i .u16 x23)) rfl (s_pure (p_mv rfl)) ?_
              have hq := forceI_inv hr
              clear hr
              obtain ⟨x41, e41, hr⟩ := hq
              refine wo_take (v := (.i .u16 x41)) rfl (s_pure (p_bin rfl rfl (b_and.trans (ci e41)))) ?_
              have hq := forceB_inv hr
              clear hr
              obtain ⟨c42, e42, hr⟩ := hq
              refine wo_take (v := (.b c42)) rfl (s_pure (p_bin rfl rfl (b_neq.trans (cb e42)))) ?_
              refine wo_step (v := (.b c42)) (s_pure (p_pickT rfl rfl)) ?_
              refine wo_nil ?_
              cases hr
              exact ⟨_, _, rfl, rfl, gl rfl, gl g0, gl g1, gl g5, gl g6, gl g7, gl rfl, gl rfl, gl g11, gl g14⟩
            · refine wo_skip (v := (.b false)) rfl rfl ?_
              refine wo_skip (v := (.b false)) rfl rfl ?_
              refine wo_skip (v := (.b false)) rfl rfl ?_
              refine wo_skip (v := (.b false)) rfl rfl ?_
              refine wo_step (v := (.b false)) (s_pure (p_pickF rfl rfl)) ?_
              refine wo_nil ?_
              cases hr
              exact ⟨_, _, rfl, rfl, gl rfl, gl g0, gl g1, gl g5, gl g6, gl g7, gl rfl, gl rfl, gl g11, gl g14⟩
          · clear hr
            have hr := hk
            clear hk
            obtain ⟨c43, ho⟩ : ∃ z, z = o := ⟨_, rfl⟩
            subst ho
            rintro mm t_3 ⟨rfl, g43, g0, g1, g5, g6, g7, g9, g10, g11, g14⟩
            refine wo_step (v := (.b c43)) (s_pure (p_mv g43)) ?_
            have hq := bindO_inv hr
            clear hr
            obtain ⟨o_1, hr, hk⟩ := hq
            refine wo_join 5 (g79_J3 x0 x1 x5_1 x6_1 x11 x23 x30 x14 m_4 o_1) ?_ ?_
            · clear hk
              have hq := cond_inv hr
              clear hr
              rcases hq with ⟨rfl, hr⟩ | ⟨rfl, hr⟩
              · refine wo_take (v := (.i .u16 x1)) rfl (s_pure (p_mv g1)) ?_
                refine wo_take (v := (.i .u16 x30)) rfl (s_pure (p_mv g10)) ?_
                have hq := forceI_inv hr
                clear hr
                obtain ⟨x47, e47, hr⟩ := hq
                refine wo_take (v := (.i .u16 x47)) rfl (s_pure (p_bin rfl rfl (b_and.trans (ci e47)))) ?_
                have hq := forceB_inv hr
                clear hr
                obtain ⟨c48, e48, hr⟩ := hq
                refine wo_take (v := (.b c48)) rfl (s_pure (p_bin rfl rfl (b_neq.trans (cb e48)))) ?_
                refine wo_step (v := (.b c48)) (s_pure (p_pickT rfl rfl)) ?_
                refine wo_nil ?_
                cases hr
                exact ⟨_, _, rfl, rfl, gl rfl, gl g0, gl g1, gl g5, gl g6, gl g7, gl g9, gl g10, gl g11, gl g14⟩
              · refine wo_skip (v := (.b false)) rfl rfl ?_
                refine wo_skip (v := (.b false)) rfl rfl ?_
                refine wo_skip (v := (.b false)) rfl rfl ?_
                refine wo_skip (v := (.b false)) rfl rfl ?_
                refine wo_step (v := (.b false)) (s_pure (p_pickF rfl rfl)) ?_
                refine wo_nil ?_
                cases hr
                exact ⟨_, _, rfl, rfl, gl rfl, gl g0, gl g1, gl g5, gl g6, gl g7, gl g9, gl g10, gl g11, gl g14⟩
            · clear hr
              have hr := hk
              clear hk
              obtain ⟨c49, ho⟩ : ∃ z, z = o_1 := ⟨_, rfl⟩
              subst ho
              rintro mm_1 t_4 ⟨rfl, g49, g0, g1, g5, g6, g7, g9, g10, g11, g14⟩
              refine wo_nil ?_
              refine nx_norm ?_
              have hq := bindO_inv hr
              clear hr
              obtain ⟨o_2, hr, hk⟩ := hq
              refine jp_mono (J := g79_J4 x0 x1 x11 x14 m_4 o_2) ?_ ?_
              · clear hk
                have hq := cond_inv hr
                clear hr
                rcases hq with ⟨rfl, hr⟩ | ⟨rfl, hr⟩
                · refine w_condT g49 ?_
                  refine w_seq ?_
                  refine w_ops ?_
                  refine wo_step (v := (.i .u16 x5_1)) (s_pure (p_mv g5)) ?_
                  refine wo_step (v := (.i .u16 x23)) (s_pure (p_mv g9)) ?_
                  have hq := forceI_inv hr
                  clear hr
                  obtain ⟨x52, e52, hr⟩ := hq
                  refine wo_step (v := (.i .u16 x52)) (s_pure (p_bin rfl rfl (b_or.trans (ci e52)))) ?_
                  refine wo_step (v := (.i .u16 x52)) (s_pure (p_mv rfl)) ?_
                  refine wo_nil ?_
                  refine nx_norm ?_
                  refine w_ops ?_
                  refine wo_step (v := (.i .u16 x6_1)) (s_pure (p_mv g6)) ?_
                  refine wo_step (v := (.i .u16 x30)) (s_pure (p_mv g10)) ?_
                  have hq := forceI_inv hr
                  clear hr
                  obtain ⟨x55, e55, hr⟩ := hq
                  refine wo_step (v := (.i .u16 x55)) (s_pure (p_bin rfl rfl (b_or.trans (ci e55)))) ?_
                  refine wo_step (v := (.i .u16 x55)) (s_pure (p_mv rfl)) ?_
                  refine wo_nil ?_
                  cases hr
                  exact ⟨_, _, rfl, rfl, rfl, gl rfl, gl rfl, gl g0, gl g1, gl g7, gl g11, gl g14⟩
                · refine w_condF g49 ?_
                  refine w_skip ?_
                  cases hr
                  exact ⟨_, _, rfl, rfl, rfl, gl g5, gl g6, gl g0, gl g1, gl g7, gl g11, gl g14⟩
              · have hr := hk
                clear hk
                obtain ⟨x5_2, x6_2⟩ := o_2
                rintro _ mm_2 t_5 ⟨rfl, rfl, g5, g6, g0, g1, g7, g11, g14⟩
                refine bk_norm ?_
                refine nx_norm ?_
                refine w_ops ?_
                have hq := forceI_inv hr
                clear hr
                obtain ⟨x56, e56, hr⟩ := hq
                refine wo_step (v := (.i .i64 x56)) (s_pure (p_bin g14 rfl (b_add.trans (ci e56)))) ?_
                refine wo_step (v := (.i .i64 x56)) (s_pure (p_mv rfl)) ?_
                refine wo_nil ?_
                cases hr
                exact ⟨_, _, rfl, rfl, rfl, gl g5, gl g6, gl rfl, gl g0, gl g1, gl g7, gl g11⟩
        · refine w_condF rfl ?_
          refine w_exit ?_
          refine nx_exit ?_
          cases hr
          exact ⟨_, _, rfl, ne_norm_exit, rfl, rfl, gl g5, gl g6, gl g0, gl g1, gl g11⟩
      · obtain ⟨x5_3, x6_3, m_5⟩ := o_3
        rintro _ mm_3 t_6 ⟨rfl, rfl, g5, g6, g0, g1, g11⟩
        refine bk_hit ?_
        refine bk_norm ?_
        refine nx_norm ?_
        refine w_ops ?_
        have hq := forceI_inv hr
        clear hr
        obtain ⟨x57, e57, hr⟩ := hq
        refine wo_step (v := (.i .i64 x57)) (s_pure (p_bin g11 rfl (b_add.trans (ci e57)))) ?_
        refine wo_step (v := (.i .i64 x57)) (s_pure (p_mv rfl)) ?_
        refine wo_nil ?_
        cases hr
        exact ⟨_, _, rfl, rfl, rfl, gl g5, gl g6, gl rfl, gl g0, gl g1⟩
    · refine w_condF rfl ?_
      refine w_exit ?_
      refine nx_exit ?_
      cases hr
      exact ⟨_, _, rfl, ne_norm_exit, rfl, rfl, gl g5, gl g6, gl g1⟩
  · obtain ⟨x5_4, x6_4, m_6⟩ := o_4
    rintro _ mm_5 t_7 ⟨rfl, rfl, g5, g6, g1⟩
    refine bk_hit ?_
    refine nx_norm ?_
    refine w_seq ?_
    refine w_ops ?_
    refine wo_step (v := (.i .u16 x1)) (s_pure (p_mv g1)) ?_
    refine wo_step (v := (.i .u16 x5_4)) (s_pure (p_mv g5)) ?_
    have hq := forceI_inv hr
    clear hr
    obtain ⟨x60, e60, hr⟩ := hq
    refine wo_step (v := (.i .u16 x60)) (s_pure (p_bin rfl rfl (b_and.trans (ci e60)))) ?_
    refine wo_step (v := (.i .u16 x6_4)) (s_pure (p_mv g6)) ?_
    have hq := forceI_inv hr
    clear hr
    obtain ⟨x62, e62, hr⟩ := hq
    refine wo_step (v := (.i .u16 x62)) (s_pure (p_bin rfl rfl (b_and.trans (ci e62)))) ?_
    refine wo_step (v := (.i .u16 x62)) (s_pure (p_mv rfl)) ?_
    refine wo_nil ?_
    refine nx_norm ?_
    refine w_ret ?_
    exact qf ret_ok (rt rfl rn) hr

/- (dibber/weed.rule).as -/
abbrev g82_I0 (x0 : Int) (v1 : AVal) (s : Int × Int × Mm) (m1 : Mm) (t1 : Tr) : Prop :=
  match s with
  | (x5, x7, m_1) => m_1 = m1 ∧ t1.get 5 = (.i .u8 x5) ∧ t1.get 7 = (.i .i64 x7) ∧ t1.get 0 = (.i .u8 x0) ∧ t1.get 1 = v1
abbrev g82_J0 (x0 : Int) (v1 : AVal) (o : (Int × Mm)) (e : AExit) (m1 : Mm) (t1 : Tr) : Prop :=
  match o with
  | (y5, mo) => e = (.exit 0) ∧ mo = m1 ∧ t1.get 5 = (.i .u8 y5)
def g82_b0 (M : Means) (ro : List ABlk) (x0 : Int) (v1 : AVal) (x5 : Int) (x7 : Int) (m_1 : Mm) : Option ((Int × Int × Mm) ⊕ ((Int × Mm))) :=
  forceB (ltI x7 8) fun c8 =>
  cond c8 (
    bindP (callvM M.call m_1 v1 [(.i .u8 x0), (.i .i64 x7)]) fun v14 m_2 =>
    asI .i64 v14 fun x14 =>
    forceI (wr .u8 x14) fun x15 =>
    chk (!ltI x7 (.ofNat 0)) <|
    forceI (shlV .u8 x15 x7) fun x17 =>
    forceI (bitV .or .u8 x5 x17) fun x18 =>
    forceI (wr .i64 (x7 + 1)) fun x19 =>
    some (.inl (x18, x19, m_2))) (
    some (.inr (x5, m_1)))
def g82 (M : Means) (ro : List ABlk) (x0 : Int) (v1 : AVal) (m0 : Mm) : Option (AVal × Heap × Nat × Nat) :=
  bindO (M.loop (S := Int × Int × Mm) (R := (Int × Mm)) (fun s => g82_b0 M ro x0 v1 s.1 s.2.1 s.2.2) (0, 0, m0)) fun ⟨x5_1, m_3⟩ =>
  finM m0.h.length (tupA [(.i .u8 x5_1)]) m_3

theorem g82_ok {ro : List ABlk} {O : Caller} {M : Means} (hM : M.Ok ⟨F, O⟩ ro) {x0 v1 h r} (ho : O 82 [(.i .u8 x0), v1] h = none) (hr : g82 M ro x0 v1 ⟨h, h.length, h.length⟩ = some r) : callX ⟨F, O⟩ ro 82 [(.i .u8 x0), v1] h = some r := by
  refine callX_of (F := ⟨F, O⟩) (fn := fn82) (g := g82 M ro x0 v1) ho rfl rfl hr ?_
  clear ho
  clear hr
  intro m0 t0 ht hr
  have g0 : t0.get 0 = (.i .u8 x0) := ht 0
  have g1 : t0.get 1 = v1 := ht 1
  clear ht
  unfold g82 at hr
  refine w_seq ?_
  refine w_ops ?_
  refine wo_step (v := (.i .u8 0)) (s_pure (p_mv rfl)) ?_
  refine wo_nil ?_
  refine nx_norm ?_
  refine w_seq ?_
  refine w_ops ?_
  refine wo_step (v := (.i .u8 0)) (s_pure (p_mv rfl)) ?_
  refine wo_nil ?_
  refine nx_norm ?_
  refine w_seq ?_
  refine w_seq ?_
  refine w_ops ?_
  refine wo_step (v := (.i .i64 0)) (s_pure (p_mv rfl)) ?_
  refine wo_nil ?_
  refine nx_norm ?_
  refine w_block ?_
  have hq := bindO_inv hr
  clear hr
  obtain ⟨o, hl, hr⟩ := hq
  obtain ⟨n, hl⟩ := hM.loop _ _ _ hl
  refine jp_mono (w_loop _ (g82_I0 x0 v1) (g82_J0 x0 v1) ?_ n _ _ _ _ hl ⟨rfl, gl rfl, gl rfl, gl g0, gl g1⟩) ?_
  · clear hr hl
    intro s mm_1 t_1 o hi hr
    obtain ⟨x5, x7, m_1⟩ := s
    obtain ⟨rfl, g5, g7, g0, g1⟩ := hi
    unfold g82_b0 at hr
    refine w_seq ?_
    refine w_ops ?_
    have hq := forceB_inv hr
    clear hr
    obtain ⟨c8, e8, hr⟩ := hq
    refine wo_step (v := (.b c8)) (s_pure (p_bin g7 rfl (b_lss.trans (cb e8)))) ?_
    refine wo_nil ?_
    refine nx_norm ?_
    refine w_seq ?_
    have hq := cond_inv hr
    clear hr
    rcases hq with ⟨rfl, hr⟩ | ⟨rfl, hr⟩
    · refine w_condT rfl ?_
      refine w_skip ?_
      refine nx_norm ?_
      refine w_seq ?_
      refine w_block ?_
      refine w_seq ?_
      refine w_ops ?_
      refine wo_step (v := (.i .i64 x7)) (s_pure (p_mv g7)) ?_
      refine wo_step (v := (.i .i64 x7)) (s_pure (p_mv rfl)) ?_
      refine wo_nil ?_
      refine nx_norm ?_
      refine w_ops ?_
      refine wo_step (v := (.i .u8 x5)) (s_pure (p_mv g5)) ?_
      refine wo_step (v := v1) (s_pure (p_mv g1)) ?_
      refine wo_step (v := (.i .u8 x0)) (s_pure (p_mv g0)) ?_
      refine wo_step (v := (.i .i64 x7)) (s_pure (p_mv rfl)) ?_
      have hq := bindP_inv hr
      clear hr
      obtain ⟨v14, m_2, e14, hr⟩ := hq
      have hq := asI_inv hr
      clear hr
      obtain ⟨x14, rfl, hr⟩ := hq
      refine wo_step (v := (.i .i64 x14)) (s_callv rfl (mc rfl (mc rfl mn)) (callvM_le hM.call e14)) ?_
      have hq := forceI_inv hr
      clear hr
      obtain ⟨x15, e15, hr⟩ := hq
      refine wo_step (v := (.i .u8 x15)) (s_pure ((p_conv rfl).trans (ci e15))) ?_
      refine wo_step (v := (.i .i64 x7)) (s_pure (p_mv rfl)) ?_
      have hq := chk_inv hr
      clear hr
      obtain ⟨hc17, hr⟩ := hq
      have hq := forceI_inv hr
      clear hr
      obtain ⟨x17, e17, hr⟩ := hq
      refine wo_step (v := (.i .u8 x17)) (s_pure (p_bin rfl rfl ((b_shl hc17).trans (ci e17)))) ?_
      have hq := forceI_inv hr
      clear hr
      obtain ⟨x18, e18, hr⟩ := hq
      refine wo_step (v := (.i .u8 x18)) (s_pure (p_bin rfl rfl (b_or.trans (ci e18)))) ?_
      refine wo_step (v := (.i .u8 x18)) (s_pure (p_mv rfl)) ?_
      refine wo_nil ?_
      refine bk_norm ?_
      refine nx_norm ?_
      refine w_ops ?_
      have hq := forceI_inv hr
      clear hr
      obtain ⟨x19, e19, hr⟩ := hq
      refine wo_step (v := (.i .i64 x19)) (s_pure (p_bin g7 rfl (b_add.trans (ci e19)))) ?_
      refine wo_step (v := (.i .i64 x19)) (s_pure (p_mv rfl)) ?_
      refine wo_nil ?_
      cases hr
      exact ⟨_, _, rfl, rfl, rfl, gl rfl, gl rfl, gl g0, gl g1⟩
    · refine w_condF rfl ?_
      refine w_exit ?_
      refine nx_exit ?_
      cases hr
      exact ⟨_, _, rfl, ne_norm_exit, rfl, rfl, gl g5⟩
  · obtain ⟨x5_1, m_3⟩ := o
    rintro _ mm t_2 ⟨rfl, rfl, g5⟩
    refine bk_hit ?_
    refine nx_norm ?_
    refine w_seq ?_
    refine w_ops ?_
    refine wo_step (v := (.i .u8 x5_1)) (s_pure (p_mv g5)) ?_
    refine wo_step (v := (.i .u8 x5_1)) (s_pure (p_mv rfl)) ?_
    refine wo_nil ?_
    refine nx_norm ?_
    refine w_ret ?_
    exact qf ret_ok (rt rfl rn) hr

/- (dibber/weed.rule).nextMirrored -/

def g83 (M : Means) (ro : List ABlk) (x0 : Int) (x1 : Int) (m0 : Mm) : Option (AVal × Heap × Nat × Nat) :=
  forceI (bitV .and .i64 x1 1) fun x7 =>
  forceI (shlV .i64 x7 2) fun x8 =>
  forceI (bitV .and .i64 x1 2) fun x10 =>
  forceI (bitV .or .i64 x8 x10) fun x11 =>
  forceI (shrV .i64 x1 2) fun x13 =>
  forceI (bitV .or .i64 x11 x13) fun x14 =>
  bindP (callM M.call m0 72 [(.i .u8 x0), (.i .i64 x14)]) fun v15 m_1 =>
  asI .i64 v15 fun x15 =>
  finM m0.h.length (tupA [(.i .i64 x15)]) m_1

theorem g83_ok {ro : List ABlk} {O : Caller} {M : Means} (hM : M.Ok ⟨F, O⟩ ro) {x0 x1 h r} (ho : O 83 [(.i .u8 x0), (.i .i64 x1)] h = none) (hr : g83 M ro x0 x1 ⟨h, h.length, h.length⟩ = some r) : callX ⟨F, O⟩ ro 83 [(.i .u8 x0), (.i .i64 x1)] h = some r := by
  refine callX_of (F := ⟨F, O⟩) (fn := fn83) (g := g83 M ro x0 x1) ho rfl rfl hr ?_
  clear ho
  clear hr
  intro m0 t0 ht hr
  have g0 : t0.get 0 = (.i .u8 x0) := ht 0
  have g1 : t0.get 1 = (.i .i64 x1) := ht 1
  clear ht
  unfold g83 at hr
  refine w_seq ?_
  refine w_ops ?_
  refine wo_step (v := (.i .i64 0)) (s_pure (p_mv rfl)) ?_
  refine wo_nil ?_
  refine nx_norm ?_
  refine w_seq ?_
  refine w_ops ?_
  refine wo_step (v := (.i .u8 x0)) (s_pure (p_mv g0)) ?_
  refine wo_step (v := (.i .i64 x1)) (s_pure (p_mv g1)) ?_
  have hq := forceI_inv hr
  clear hr
  obtain ⟨x7, e7, hr⟩ := hq
  refine wo_step (v := (.i .i64 x7)) (s_pure (p_bin rfl rfl (b_and.trans (ci e7)))) ?_
  have hq := forceI_inv hr
  clear hr
  obtain ⟨x8, e8, hr⟩ := hq
  refine wo_step (v := (.i .i64 x8)) (s_pure (p_bin rfl rfl ((b_shl rfl).trans (ci e8)))) ?_
  refine wo_step (v := (.i .i64 x1)) (s_pure (p_mv g1)) ?_
  have hq := forceI_inv hr
  clear hr
  obtain ⟨x10, e10, hr⟩ := hq
  refine wo_step (v := (.i .i64 x10)) (s_pure (p_bin rfl rfl (b_and.trans (ci e10)))) ?_
  have hq := forceI_inv hr
  clear hr
  obtain ⟨x11, e11, hr⟩ := hq
  refine wo_step (v := (.i .i64 x11)) (s_pure (p_bin rfl rfl (b_or.trans (ci e11)))) ?_
  refine wo_step (v := (.i .i64 x1)) (s_pure (p_mv g1)) ?_
  have hq := forceI_inv hr
  clear hr
  obtain ⟨x13, e13, hr⟩ := hq
  refine wo_step (v := (.i .i64 x13)) (s_pure (p_bin rfl rfl ((b_shr rfl).trans (ci e13)))) ?_
  have hq := forceI_inv hr
  clear hr
  obtain ⟨x14, e14, hr⟩ := hq
  refine wo_step (v := (.i .i64 x14)) (s_pure (p_bin rfl rfl (b_or.trans (ci e14)))) ?_
  have hq := bindP_inv hr
  clear hr
  obtain ⟨v15, m_1, e15, hr⟩ := hq
  have hq := asI_inv hr
  clear hr
  obtain ⟨x15, rfl, hr⟩ := hq
  refine wo_step (v := (.i .i64 x15)) (s_call (mc rfl (mc rfl mn)) (callM_le hM.call e15)) ?_
  refine wo_step (v := (.i .i64 x15)) (s_pure (p_mv rfl)) ?_
  refine wo_nil ?_
  refine nx_norm ?_
  refine w_ret ?_
  exact qf ret_ok (rt rfl rn) hr

/- (dibber/weed.rule).nextExchanged -/

def g84 (M : Means) (ro : List ABlk) (x0 : Int) (x1 : Int) (m0 : Mm) : Option (AVal × Heap × Nat × Nat) :=
  forceI (wr .i64 (7 - x1)) fun x7 =>
  bindP (callM M.call m0 72 [(.i .u8 x0), (.i .i64 x7)]) fun v8 m_1 =>
  asI .i64 v8 fun x8 =>
  forceI (wr .i64 (1 - x8)) fun x9 =>
  finM m0.h.length (tupA [(.i .i64 x9)]) m_1

theorem g84_ok {ro : List ABlk} {O : Caller} {M : Means} (hM : M.Ok ⟨F, O⟩ ro) {x0 x1 h r} (ho : O 84 [(.i .u8 x0), (.i .i64 x1)] h = none) (hr : g84 M ro x0 x1 ⟨h, h.length, h.length⟩ = some r) : callX ⟨F, O⟩ ro 84 [(.i .u8 x0), (.i .i64 x1)] h = some r := by
  refine callX_of (F := ⟨F, O⟩) (fn := fn84) (g := g84 M ro x0 x1) ho rfl rfl hr ?_
  clear ho
  clear hr
  intro m0 t0 ht hr
  have g0 : t0.get 0 = (.i .u8 x0) := ht 0
  have g1 : t0.get 1 = (.i .i64 x1) := ht 1
  clear ht
  unfold g84 at hr
  refine w_seq ?_
  refine w_ops ?_
  refine wo_step (v := (.i .i64 0)) (s_pure (p_mv rfl)) ?_
  refine wo_nil ?_
  refine nx_norm ?_
  refine w_seq ?_
  refine w_ops ?_
  refine wo_step (v := (.i .u8 x0)) (s_pure (p_mv g0)) ?_
  refine wo_step (v := (.i .i64 x1)) (s_pure (p_mv g1)) ?_
  have hq := forceI_inv hr
  clear hr
  obtain ⟨x7, e7, hr⟩ := hq
  refine wo_step (v := (.i .i64 x7)) (s_pure (p_bin rfl rfl (b_sub.trans (ci e7)))) ?_
  have hq := bindP_inv hr
  clear hr
  obtain ⟨v8, m_1, e8, hr⟩ := hq
  have hq := asI_inv hr
  clear hr
  obtain ⟨x8, rfl, hr⟩ := hq
  refine wo_step (v := (.i .i64 x8)) (s_call (mc rfl (mc rfl mn)) (callM_le hM.call e8)) ?_
  have hq := forceI_inv hr
  clear hr
  obtain ⟨x9, e9, hr⟩ := hq
  refine wo_step (v := (.i .i64 x9)) (s_pure (p_bin rfl rfl (b_sub.trans (ci e9)))) ?_
  refine wo_step (v := (.i .i64 x9)) (s_pure (p_mv rfl)) ?_
  refine wo_nil ?_
  refine nx_norm ?_
  refine w_ret ?_
  exact qf ret_ok (rt rfl rn) hr

end Go.Proofs.Ytgbkicelkpagpaa.W

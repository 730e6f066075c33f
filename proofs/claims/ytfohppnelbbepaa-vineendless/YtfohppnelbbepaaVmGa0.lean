/- Plain functions, and that the small machine answers as they do. -/
import Derived.Test.YtfohppnelbbepaaVmP
import Derived.Test.YtfohppnelbbepaaVmAE
open Go.Vm
set_option linter.unusedVariables false
namespace Go.Proofs.Ytfohppnelbbepaa.T
open Go
/- dibber/dibberlaw03.VineEndless -/
abbrev g7_J0 (v0 : AVal) (s1 : List UInt8) (x2 : Int) (m_5 : Mm) (o : Bool) (m1 : Mm) (t1 : Tr) : Prop :=
  match o with
  | c36 => m_5 = m1 ∧ t1.get 36 = (.b c36) ∧ t1.get 0 = v0 ∧ t1.get 1 = (.s s1) ∧ t1.get 2 = (.i .i64 x2)
abbrev g7_J1 (m_7 : Mm) (o : Bool) (m1 : Mm) (t1 : Tr) : Prop :=
  match o with
  | c58 => m_7 = m1 ∧ t1.get 58 = (.b c58)
abbrev g7_J2  (o : Bool × Mm) (m1 : Mm) (t1 : Tr) : Prop :=
  match o with
  | (c61, m_8) => m_8 = m1 ∧ t1.get 61 = (.b c61)
def g7 (M : Means) (ro : List ABlk) (v0 : AVal) (s1 : List UInt8) (x2 : Int) (m0 : Mm) : Option (AVal × Heap × Nat × Nat) :=
  bindP (callM M.call m0 15 [v0, (.s s1)]) fun v15 m_1 =>
  asB v15 fun c15 =>
  forceB (!c15) fun c16 =>
  cond c16 (
    bindP (callM M.call m_1 16 []) fun v17 m_2 =>
    asB v17 fun c17 =>
    finM m0.h.length (tupA [(.b c17)]) m_2) (
    bindP (callM M.call m_1 34 [v0]) fun v20 m_3 =>
    bindO (evP .e (.ext 0 (.c v20))) fun v21 =>
    bindO (evP .e (.ext 1 (.c v20))) fun v22 =>
    asI .i64 v22 fun x22 =>
    bindP (callM M.call m_3 35 [v0]) fun v25 m_4 =>
    bindO (evP .e (.ext 0 (.c v25))) fun v26 =>
    bindO (evP .e (.ext 1 (.c v25))) fun v27 =>
    asI .i64 v27 fun x27 =>
    bindP (callM M.call m_4 23 [v21, v26]) fun v30 m_5 =>
    asB v30 fun c30 =>
    forceB (!c30) fun c31 =>
    bindO (cond c31 (
      some true) (
      forceB (!eqI x22 x27) fun c35 =>
      some c35)) fun c36 =>
    cond c36 (
      finM m0.h.length (tupA [(.b false)]) m_5) (
      bindP (callM M.call m_5 36 [v0, (.s s1), (.i .i64 x2)]) fun v41 m_6 =>
      bindO (evP .e (.ext 0 (.c v41))) fun v42 =>
      asS v42 fun s42 =>
      bindO (evP .e (.ext 1 (.c v41))) fun v43 =>
      asI .i64 v43 fun x43 =>
      bindP (callM M.call m_6 37 [v0, (.s s1), (.i .i64 x2)]) fun v48 m_7 =>
      bindO (evP .e (.ext 0 (.c v48))) fun v49 =>
      asS v49 fun s49 =>
      bindO (evP .e (.ext 1 (.c v48))) fun v50 =>
      asI .i64 v50 fun x50 =>
      bindO (evP .e (.sbin BinOp.eql (.c (.s s42)) (.c (.s s49)))) fun v53 =>
      asB v53 fun c53 =>
      bindO (cond c53 (
        forceB (eqI x43 x50) fun c57 =>
        some c57) (
        some false)) fun c58 =>
      bindO (cond c58 (
        bindP (callM M.call m_7 16 []) fun v60 m_9 =>
        asB v60 fun c60 =>
        some (c60, m_9)) (
        some (false, m_7))) fun ⟨c61, m_8⟩ =>
      finM m0.h.length (tupA [(.b c61)]) m_8))

theorem g7_ok {ro : List ABlk} {O : Caller} {M : Means} (hM : M.Ok ⟨F, O⟩ ro) {v0 s1 x2 h r} (ho : O 7 [v0, (.s s1), (.i .i64 x2)] h = none) (hr : g7 M ro v0 s1 x2 ⟨h, h.length, h.length⟩ = some r) : callX ⟨F, O⟩ ro 7 [v0, (.s s1), (.i .i64 x2)] h = some r := by
  refine callX_of (F := ⟨F, O⟩) (fn := fn7) (g := g7 M ro v0 s1 x2) ho rfl rfl hr ?_
  clear ho
  clear hr
  intro m0 t0 ht hr
  have g0 : t0.get 0 = v0 := ht 0
  have g1 : t0.get 1 = (.s s1) := ht 1
  have g2 : t0.get 2 = (.i .i64 x2) := ht 2
  clear ht
  unfold g7 at hr
  refine w_seq ?_
  refine w_ops ?_
  refine wo_step (v := (.b false)) (s_pure (p_mv rfl)) ?_
  refine wo_nil ?_
  refine nx_norm ?_
  refine w_seq ?_
  refine w_seq ?_
  refine w_ops ?_
  refine wo_step (v := v0) (s_pure (p_mv g0)) ?_
  refine wo_step (v := (.s s1)) (s_pure (p_mv g1)) ?_
  have hq := bindP_inv hr
  clear hr
  obtain ⟨v15, m_1, e15, hr⟩ := hq
  have hq := asB_inv hr
  clear hr
  obtain ⟨c15, rfl, hr⟩ := hq
  refine wo_step (v := (.b c15)) (s_call (mc rfl (mc rfl mn)) (callM_le hM.call e15)) ?_
  have hq := forceB_inv hr
  clear hr
  obtain ⟨c16, e16, hr⟩ := hq
  refine wo_step (v := (.b c16)) (s_pure ((p_not rfl).trans (cb e16))) ?_
  refine wo_nil ?_
  refine nx_norm ?_
  have hq := cond_inv hr
  clear hr
  rcases hq with ⟨rfl, hr⟩ | ⟨rfl, hr⟩
  · refine w_condT rfl ?_
    refine w_seq ?_
    refine w_ops ?_
    have hq := bindP_inv hr
    clear hr
    obtain ⟨v17, m_2, e17, hr⟩ := hq
    have hq := asB_inv hr
    clear hr
    obtain ⟨c17, rfl, hr⟩ := hq
    refine wo_step (v := (.b c17)) (s_call mn (callM_le hM.call e17)) ?_
    refine wo_step (v := (.b c17)) (s_pure (p_mv rfl)) ?_
    refine wo_nil ?_
    refine nx_norm ?_
    refine w_ret ?_
    refine nx_ret ?_
    exact qf ret_ok (rt rfl rn) hr
  · refine w_condF rfl ?_
    refine w_skip ?_
    refine nx_norm ?_
    refine w_seq ?_
    refine w_ops ?_
    refine wo_step (v := v0) (s_pure (p_mv g0)) ?_
    have hq := bindP_inv hr
    clear hr
    obtain ⟨v20, m_3, e20, hr⟩ := hq
    refine wo_step (v := v20) (s_call (mc rfl mn) (callM_le hM.call e20)) ?_
    refine wo_step (v := v20) (s_pure (p_mv rfl)) ?_
    have hq := bindO_inv hr
    clear hr
    obtain ⟨v21, e21, hr⟩ := hq
    refine wo_step (v := v21) (s_pure (o_ext rfl e21)) ?_
    have hq := bindO_inv hr
    clear hr
    obtain ⟨v22, e22, hr⟩ := hq
    have hq := asI_inv hr
    clear hr
    obtain ⟨x22, rfl, hr⟩ := hq
    refine wo_step (v := (.i .i64 x22)) (s_pure (o_ext rfl e22)) ?_
    refine wo_step (v := v21) (s_pure (p_mv rfl)) ?_
    refine wo_step (v := (.i .i64 x22)) (s_pure (p_mv rfl)) ?_
    refine wo_nil ?_
    refine nx_norm ?_
    refine w_seq ?_
    refine w_ops ?_
    refine wo_step (v := v0) (s_pure (p_mv g0)) ?_
    have hq := bindP_inv hr
    clear hr
    obtain ⟨v25, m_4, e25, hr⟩ := hq
    refine wo_step (v := v25) (s_call (mc rfl mn) (callM_le hM.call e25)) ?_
    refine wo_step (v := v25) (s_pure (p_mv rfl)) ?_
    have hq := bindO_inv hr
    clear hr
    obtain ⟨v26, e26, hr⟩ := hq
    refine wo_step (v := v26) (s_pure (o_ext rfl e26)) ?_
    have hq := bindO_inv hr
    clear hr
    obtain ⟨v27, e27, hr⟩ := hq
    have hq := asI_inv hr
    clear hr
    obtain ⟨x27, rfl, hr⟩ := hq
    refine wo_step (v := (.i .i64 x27)) (s_pure (o_ext rfl e27)) ?_
    refine wo_step (v := v26) (s_pure (p_mv rfl)) ?_
    refine wo_step (v := (.i .i64 x27)) (s_pure (p_mv rfl)) ?_
    refine wo_nil ?_
    refine nx_norm ?_
    refine w_seq ?_
    refine w_seq ?_
    refine w_ops ?_
    refine wo_step (v := v21) (s_pure (p_mv rfl)) ?_
    refine wo_step (v := v26) (s_pure (p_mv rfl)) ?_
    have hq := bindP_inv hr
    clear hr
    obtain ⟨v30, m_5, e30, hr⟩ := hq
    have hq := asB_inv hr
    clear hr
    obtain ⟨c30, rfl, hr⟩ := hq
    refine wo_step (v := (.b c30)) (s_call (mc rfl (mc rfl mn)) (callM_le hM.call e30)) ?_
    have hq := forceB_inv hr
    clear hr
    obtain ⟨c31, e31, hr⟩ := hq
    refine wo_step (v := (.b c31)) (s_pure ((p_not rfl).trans (cb e31))) ?_
    refine wo_step (v := (.b c31)) (s_pure (p_mv rfl)) ?_
    have hq := bindO_inv hr
    clear hr
    obtain ⟨o, hr, hk⟩ := hq
    refine wo_join 4 (g7_J0 v0 s1 x2 m_5 o) ?_ ?_
    · clear hk
      have hq := cond_inv hr
      clear hr
      rcases hq with ⟨rfl, hr⟩ | ⟨rfl, hr⟩
      · refine wo_skip (v := (.b true)) rfl rfl ?_
        refine wo_skip (v := (.b true)) rfl rfl ?_
        refine wo_skip (v := (.b true)) rfl rfl ?_
        refine wo_step (v := (.b true)) (s_pure (p_pickT rfl rfl)) ?_
        refine wo_nil ?_
        cases hr
        exact ⟨_, _, rfl, rfl, gl rfl, gl g0, gl g1, gl g2⟩
      · refine wo_take (v := (.i .i64 x22)) rfl (s_pure (p_mv rfl)) ?_
        refine wo_take (v := (.i .i64 x27)) rfl (s_pure (p_mv rfl)) ?_
        have hq := forceB_inv hr
        clear hr
        obtain ⟨c35, e35, hr⟩ := hq
        refine wo_take (v := (.b c35)) rfl (s_pure (p_bin rfl rfl (b_neq.trans (cb e35)))) ?_
        refine wo_step (v := (.b c35)) (s_pure (p_pickF rfl rfl)) ?_
        refine wo_nil ?_
        cases hr
        exact ⟨_, _, rfl, rfl, gl rfl, gl g0, gl g1, gl g2⟩
    · clear hr
      have hr := hk
      clear hk
      obtain ⟨c36, ho⟩ : ∃ z, z = o := ⟨_, rfl⟩
      subst ho
      rintro mm t_1 ⟨rfl, g36, g0, g1, g2⟩
      refine wo_nil ?_
      refine nx_norm ?_
      have hq := cond_inv hr
      clear hr
      rcases hq with ⟨rfl, hr⟩ | ⟨rfl, hr⟩
      · refine w_condT g36 ?_
        refine w_seq ?_
        refine w_ops ?_
        refine wo_step (v := (.b false)) (s_pure (p_mv rfl)) ?_
        refine wo_nil ?_
        refine nx_norm ?_
        refine w_ret ?_
        refine nx_ret ?_
        exact qf ret_ok (rt rfl rn) hr
      · refine w_condF g36 ?_
        refine w_skip ?_
        refine nx_norm ?_
        refine w_seq ?_
        refine w_ops ?_
        refine wo_step (v := v0) (s_pure (p_mv g0)) ?_
        refine wo_step (v := (.s s1)) (s_pure (p_mv g1)) ?_
        refine wo_step (v := (.i .i64 x2)) (s_pure (p_mv g2)) ?_
        have hq := bindP_inv hr
        clear hr
        obtain ⟨v41, m_6, e41, hr⟩ := hq
        refine wo_step (v := v41) (s_call (mc rfl (mc rfl (mc rfl mn))) (callM_le hM.call e41)) ?_
        refine wo_step (v := v41) (s_pure (p_mv rfl)) ?_
        have hq := bindO_inv hr
        clear hr
        obtain ⟨v42, e42, hr⟩ := hq
        have hq := asS_inv hr
        clear hr
        obtain ⟨s42, rfl, hr⟩ := hq
        refine wo_step (v := (.s s42)) (s_pure (o_ext rfl e42)) ?_
        have hq := bindO_inv hr
        clear hr
        obtain ⟨v43, e43, hr⟩ := hq
        have hq := asI_inv hr
        clear hr
        obtain ⟨x43, rfl, hr⟩ := hq
        refine wo_step (v := (.i .i64 x43)) (s_pure (o_ext rfl e43)) ?_
        refine wo_step (v := (.s s42)) (s_pure (p_mv rfl)) ?_
        refine wo_step (v := (.i .i64 x43)) (s_pure (p_mv rfl)) ?_
        refine wo_nil ?_
        refine nx_norm ?_
        refine w_seq ?_
        refine w_ops ?_
        refine wo_step (v := v0) (s_pure (p_mv g0)) ?_
        refine wo_step (v := (.s s1)) (s_pure (p_mv g1)) ?_
        refine wo_step (v := (.i .i64 x2)) (s_pure (p_mv g2)) ?_
        have hq := bindP_inv hr
        clear hr
        obtain ⟨v48, m_7, e48, hr⟩ := hq
        refine wo_step (v := v48) (s_call (mc rfl (mc rfl (mc rfl mn))) (callM_le hM.call e48)) ?_
        refine wo_step (v := v48) (s_pure (p_mv rfl)) ?_
        have hq := bindO_inv hr
        clear hr
        obtain ⟨v49, e49, hr⟩ := hq
        have hq := asS_inv hr
        clear hr
        obtain ⟨s49, rfl, hr⟩ := hq
        refine wo_step (v := (.s s49)) (s_pure (o_ext rfl e49)) ?_
        have hq := bindO_inv hr
        clear hr
        obtain ⟨v50, e50, hr⟩ := hq
        have hq := asI_inv hr
        clear hr
        obtain ⟨x50, rfl, hr⟩ := hq
        refine wo_step (v := (.i .i64 x50)) (s_pure (o_ext rfl e50)) ?_
        refine wo_step (v := (.s s49)) (s_pure (p_mv rfl)) ?_
        refine wo_step (v := (.i .i64 x50)) (s_pure (p_mv rfl)) ?_
        refine wo_nil ?_
        refine nx_norm ?_
        refine w_seq ?_
        refine w_ops ?_
        refine wo_step (v := (.s s42)) (s_pure (p_mv rfl)) ?_
        refine wo_step (v := (.s s49)) (s_pure (p_mv rfl)) ?_
        have hq := bindO_inv hr
        clear hr
        obtain ⟨v53, e53, hr⟩ := hq
        have hq := asB_inv hr
        clear hr
        obtain ⟨c53, rfl, hr⟩ := hq
        refine wo_step (v := (.b c53)) (s_pure (o_sbin rfl rfl e53)) ?_
        refine wo_step (v := (.b c53)) (s_pure (p_mv rfl)) ?_
        have hq := bindO_inv hr
        clear hr
        obtain ⟨o_1, hr, hk⟩ := hq
        refine wo_join 4 (g7_J1 m_7 o_1) ?_ ?_
        · clear hk
          have hq := cond_inv hr
          clear hr
          rcases hq with ⟨rfl, hr⟩ | ⟨rfl, hr⟩
          · refine wo_take (v := (.i .i64 x43)) rfl (s_pure (p_mv rfl)) ?_
            refine wo_take (v := (.i .i64 x50)) rfl (s_pure (p_mv rfl)) ?_
            have hq := forceB_inv hr
            clear hr
            obtain ⟨c57, e57, hr⟩ := hq
            refine wo_take (v := (.b c57)) rfl (s_pure (p_bin rfl rfl (b_eql.trans (cb e57)))) ?_
            refine wo_step (v := (.b c57)) (s_pure (p_pickT rfl rfl)) ?_
            refine wo_nil ?_
            cases hr
            exact ⟨_, _, rfl, rfl, gl rfl⟩
          · refine wo_skip (v := (.b false)) rfl rfl ?_
            refine wo_skip (v := (.b false)) rfl rfl ?_
            refine wo_skip (v := (.b false)) rfl rfl ?_
            refine wo_step (v := (.b false)) (s_pure (p_pickF rfl rfl)) ?_
            refine wo_nil ?_
            cases hr
            exact ⟨_, _, rfl, rfl, gl rfl⟩
        · clear hr
          have hr := hk
          clear hk
          obtain ⟨c58, ho⟩ : ∃ z, z = o_1 := ⟨_, rfl⟩
          subst ho
          rintro mm_1 t_2 ⟨rfl, g58⟩
          refine wo_step (v := (.b c58)) (s_pure (p_mv g58)) ?_
          have hq := bindO_inv hr
          clear hr
          obtain ⟨o_2, hr, hk⟩ := hq
          refine wo_join 2 (g7_J2  o_2) ?_ ?_
          · clear hk
            have hq := cond_inv hr
            clear hr
            rcases hq with ⟨rfl, hr⟩ | ⟨rfl, hr⟩
            · have hq := bindP_inv hr
              clear hr
              obtain ⟨v60, m_9, e60, hr⟩ := hq
              have hq := asB_inv hr
              clear hr
              obtain ⟨c60, rfl, hr⟩ := hq
              refine wo_take (v := (.b c60)) rfl (s_call mn (callM_le hM.call e60)) ?_
              refine wo_step (v := (.b c60)) (s_pure (p_pickT rfl rfl)) ?_
              refine wo_nil ?_
              cases hr
              exact ⟨_, _, rfl, rfl, gl rfl⟩
            · refine wo_skip (v := (.b false)) rfl rfl ?_
              refine wo_step (v := (.b false)) (s_pure (p_pickF rfl rfl)) ?_
              refine wo_nil ?_
              cases hr
              exact ⟨_, _, rfl, rfl, gl rfl⟩
          · clear hr
            have hr := hk
            clear hk
            obtain ⟨c61, m_8⟩ := o_2
            rintro mm_2 t_3 ⟨rfl, g61⟩
            refine wo_step (v := (.b c61)) (s_pure (p_mv g61)) ?_
            refine wo_nil ?_
            refine nx_norm ?_
            refine w_ret ?_
            exact qf ret_ok (rt rfl rn) hr

/- dibber/dibberlaw03.few -/
abbrev g15_I0 (v0 : AVal) (s1 : List UInt8) (m0 : Mm) (s : Int) (m1 : Mm) (t1 : Tr) : Prop :=
  match s with
  | x5 => m0 = m1 ∧ t1.get 5 = (.i .i64 x5) ∧ t1.get 0 = v0 ∧ t1.get 1 = (.s s1)
abbrev g15_J0 (v0 : AVal) (s1 : List UInt8) (m0 : Mm) (o : (Unit ⊕ Bool)) (e : AExit) (m1 : Mm) (t1 : Tr) : Prop :=
  match o with
  | (.inl _) => e = (.exit 0) ∧ m0 = m1 ∧ t1.get 1 = (.s s1)
  | (.inr y4) => e = .ret ∧ m0 = m1 ∧ t1.get 4 = (.b y4)
abbrev g15_J1 (v0 : AVal) (s1 : List UInt8) (x5 : Int) (m0 : Mm) (o : Bool) (m1 : Mm) (t1 : Tr) : Prop :=
  match o with
  | c21 => m0 = m1 ∧ t1.get 21 = (.b c21) ∧ t1.get 0 = v0 ∧ t1.get 1 = (.s s1) ∧ t1.get 5 = (.i .i64 x5)
def g15_b0 (M : Means) (ro : List ABlk) (v0 : AVal) (s1 : List UInt8) (m0 : Mm) (x5 : Int) : Option ((Int) ⊕ ((Unit ⊕ Bool))) :=
  bindO (evP .e (.len false (.c v0))) fun v8 =>
  asI .i64 v8 fun x8 =>
  forceB (ltI x5 x8) fun c9 =>
  cond c9 (
    forceB (!ltI x5 20) fun c13 =>
    bindO (cond c13 (
      some true) (
      bindO (evP .e (.ixS 1 (.c v0) (.c (.i .i64 x5)))) fun v17 =>
      bindO (ldM ro m0 true 1 v17) fun v18 =>
      asS v18 fun s18 =>
      bindO (evP .e (.len true (.c (.s s18)))) fun v19 =>
      asI .i64 v19 fun x19 =>
      forceB (ltI 50 x19) fun c20 =>
      some c20)) fun c21 =>
    cond c21 (
      some (.inr (.inr false))) (
      forceI (wr .i64 (x5 + 1)) fun x11 =>
      some (.inl x11))) (
    some (.inr (.inl ())))
def g15 (M : Means) (ro : List ABlk) (v0 : AVal) (s1 : List UInt8) (m0 : Mm) : Option (AVal × Heap × Nat × Nat) :=
  bindO (M.loop (S := Int) (R := (Unit ⊕ Bool)) (fun s => g15_b0 M ro v0 s1 m0 s) 0) fun o_1 => match o_1 with
  | (.inl _) =>
    bindO (evP .e (.len true (.c (.s s1)))) fun v23 =>
    asI .i64 v23 fun x23 =>
    forceB (!ltI 100 x23) fun c24 =>
    finM m0.h.length (tupA [(.b c24)]) m0
  | (.inr c4) =>
    finM m0.h.length (tupA [(.b c4)]) m0

theorem g15_ok {ro : List ABlk} {O : Caller} {M : Means} (hM : M.Ok ⟨F, O⟩ ro) {v0 s1 h r} (ho : O 15 [v0, (.s s1)] h = none) (hr : g15 M ro v0 s1 ⟨h, h.length, h.length⟩ = some r) : callX ⟨F, O⟩ ro 15 [v0, (.s s1)] h = some r := by
  refine callX_of (F := ⟨F, O⟩) (fn := fn15) (g := g15 M ro v0 s1) ho rfl rfl hr ?_
  clear ho
  clear hr
  intro m0 t0 ht hr
  have g0 : t0.get 0 = v0 := ht 0
  have g1 : t0.get 1 = (.s s1) := ht 1
  clear ht
  unfold g15 at hr
  refine w_seq ?_
  refine w_ops ?_
  refine wo_step (v := (.b false)) (s_pure (p_mv rfl)) ?_
  refine wo_nil ?_
  refine nx_norm ?_
  refine w_seq ?_
  refine w_seq ?_
  refine w_ops ?_
  refine wo_step (v := (.i .i64 0)) (s_pure (p_mv rfl)) ?_
  refine wo_nil ?_
  refine nx_norm ?_
  refine w_block ?_
  have hq := bindO_inv hr
  clear hr
  obtain ⟨o_1, hl, hr⟩ := hq
  obtain ⟨n, hl⟩ := hM.loop _ _ _ hl
  refine jp_mono (w_loop _ (g15_I0 v0 s1 m0) (g15_J0 v0 s1 m0) ?_ n _ _ _ _ hl ⟨rfl, gl rfl, gl g0, gl g1⟩) ?_
  · clear hr hl
    intro s mm_3 t_1 o hi hr
    obtain ⟨x5, hs⟩ : ∃ z, z = s := ⟨_, rfl⟩
    subst hs
    obtain ⟨rfl, g5, g0, g1⟩ := hi
    unfold g15_b0 at hr
    refine w_seq ?_
    refine w_seq ?_
    refine w_ops ?_
    refine wo_step (v := (.i .i64 x5)) (s_pure (p_mv g5)) ?_
    refine wo_step (v := v0) (s_pure (p_mv g0)) ?_
    have hq := bindO_inv hr
    clear hr
    obtain ⟨v8, e8, hr⟩ := hq
    have hq := asI_inv hr
    clear hr
    obtain ⟨x8, rfl, hr⟩ := hq
    refine wo_step (v := (.i .i64 x8)) (s_pure (o_len rfl e8)) ?_
    have hq := forceB_inv hr
    clear hr
    obtain ⟨c9, e9, hr⟩ := hq
    refine wo_step (v := (.b c9)) (s_pure (p_bin rfl rfl (b_lss.trans (cb e9)))) ?_
    refine wo_nil ?_
    refine nx_norm ?_
    have hq := cond_inv hr
    clear hr
    rcases hq with ⟨rfl, hr⟩ | ⟨rfl, hr⟩
    · refine w_condT rfl ?_
      refine w_skip ?_
      refine nx_norm ?_
      refine w_seq ?_
      refine w_block ?_
      refine w_seq ?_
      refine w_ops ?_
      refine wo_step (v := (.i .i64 x5)) (s_pure (p_mv g5)) ?_
      have hq := forceB_inv hr
      clear hr
      obtain ⟨c13, e13, hr⟩ := hq
      refine wo_step (v := (.b c13)) (s_pure (p_bin rfl rfl (b_geq.trans (cb e13)))) ?_
      refine wo_step (v := (.b c13)) (s_pure (p_mv rfl)) ?_
      have hq := bindO_inv hr
      clear hr
      obtain ⟨o, hr, hk⟩ := hq
      refine wo_join 7 (g15_J1 v0 s1 x5 m0 o) ?_ ?_
      · clear hk
        have hq := cond_inv hr
        clear hr
        rcases hq with ⟨rfl, hr⟩ | ⟨rfl, hr⟩
        · refine wo_skip (v := (.b true)) rfl rfl ?_
          refine wo_skip (v := (.b true)) rfl rfl ?_
          refine wo_skip (v := (.b true)) rfl rfl ?_
          refine wo_skip (v := (.b true)) rfl rfl ?_
          refine wo_skip (v := (.b true)) rfl rfl ?_
          refine wo_skip (v := (.b true)) rfl rfl ?_
          refine wo_step (v := (.b true)) (s_pure (p_pickT rfl rfl)) ?_
          refine wo_nil ?_
          cases hr
          exact ⟨_, _, rfl, rfl, gl rfl, gl g0, gl g1, gl g5⟩
        · refine wo_take (v := v0) rfl (s_pure (p_mv g0)) ?_
          refine wo_take (v := (.i .i64 x5)) rfl (s_pure (p_mv g5)) ?_
          have hq := bindO_inv hr
          clear hr
          obtain ⟨v17, e17, hr⟩ := hq
          refine wo_take (v := v17) rfl (s_pure (o_ixS rfl rfl e17)) ?_
          have hq := bindO_inv hr
          clear hr
          obtain ⟨v18, e18, hr⟩ := hq
          have hq := asS_inv hr
          clear hr
          obtain ⟨s18, rfl, hr⟩ := hq
          refine wo_take (v := (.s s18)) rfl (s_ld rfl e18) ?_
          have hq := bindO_inv hr
          clear hr
          obtain ⟨v19, e19, hr⟩ := hq
          have hq := asI_inv hr
          clear hr
          obtain ⟨x19, rfl, hr⟩ := hq
          refine wo_take (v := (.i .i64 x19)) rfl (s_pure (o_len rfl e19)) ?_
          have hq := forceB_inv hr
          clear hr
          obtain ⟨c20, e20, hr⟩ := hq
          refine wo_take (v := (.b c20)) rfl (s_pure (p_bin rfl rfl (b_gtr.trans (cb e20)))) ?_
          refine wo_step (v := (.b c20)) (s_pure (p_pickF rfl rfl)) ?_
          refine wo_nil ?_
          cases hr
          exact ⟨_, _, rfl, rfl, gl rfl, gl g0, gl g1, gl g5⟩
      · clear hr
        have hr := hk
        clear hk
        obtain ⟨c21, ho⟩ : ∃ z, z = o := ⟨_, rfl⟩
        subst ho
        rintro mm t_2 ⟨rfl, g21, g0, g1, g5⟩
        refine wo_nil ?_
        refine nx_norm ?_
        have hq := cond_inv hr
        clear hr
        rcases hq with ⟨rfl, hr⟩ | ⟨rfl, hr⟩
        · refine w_condT g21 ?_
          refine w_seq ?_
          refine w_ops ?_
          refine wo_step (v := (.b false)) (s_pure (p_mv rfl)) ?_
          refine wo_nil ?_
          refine nx_norm ?_
          refine w_ret ?_
          refine bk_ret ?_
          refine nx_ret ?_
          cases hr
          exact ⟨_, _, rfl, ne_norm_ret, rfl, rfl, gl rfl⟩
        · refine w_condF g21 ?_
          refine w_skip ?_
          refine bk_norm ?_
          refine nx_norm ?_
          refine w_ops ?_
          refine wo_step (v := (.i .i64 x5)) (s_pure (p_mv g5)) ?_
          have hq := forceI_inv hr
          clear hr
          obtain ⟨x11, e11, hr⟩ := hq
          refine wo_step (v := (.i .i64 x11)) (s_pure (p_bin rfl rfl (b_add.trans (ci e11)))) ?_
          refine wo_step (v := (.i .i64 x11)) (s_pure (p_mv rfl)) ?_
          refine wo_nil ?_
          cases hr
          exact ⟨_, _, rfl, rfl, rfl, gl rfl, gl g0, gl g1⟩
    · refine w_condF rfl ?_
      refine w_exit ?_
      refine nx_exit ?_
      cases hr
      exact ⟨_, _, rfl, ne_norm_exit, rfl, rfl, gl g1⟩
  · rcases o_1 with o_1 | o_1
    · rintro _ mm_1 t_3 ⟨rfl, rfl, g1⟩
      refine bk_hit ?_
      refine nx_norm ?_
      refine w_seq ?_
      refine w_ops ?_
      refine wo_step (v := (.s s1)) (s_pure (p_mv g1)) ?_
      have hq := bindO_inv hr
      clear hr
      obtain ⟨v23, e23, hr⟩ := hq
      have hq := asI_inv hr
      clear hr
      obtain ⟨x23, rfl, hr⟩ := hq
      refine wo_step (v := (.i .i64 x23)) (s_pure (o_len rfl e23)) ?_
      have hq := forceB_inv hr
      clear hr
      obtain ⟨c24, e24, hr⟩ := hq
      refine wo_step (v := (.b c24)) (s_pure (p_bin rfl rfl (b_leq.trans (cb e24)))) ?_
      refine wo_step (v := (.b c24)) (s_pure (p_mv rfl)) ?_
      refine wo_nil ?_
      refine nx_norm ?_
      refine w_ret ?_
      exact qf ret_ok (rt rfl rn) hr
    · obtain ⟨c4, ho⟩ : ∃ z, z = o_1 := ⟨_, rfl⟩
      subst ho
      rintro _ mm_2 t_4 ⟨rfl, rfl, g4⟩
      refine bk_ret ?_
      refine nx_ret ?_
      exact qf ret_ok (rt g4 rn) hr

/- dibber/dibberlaw03.same -/
abbrev g23_I0 (v0 : AVal) (v1 : AVal) (m0 : Mm) (s : Int) (m1 : Mm) (t1 : Tr) : Prop :=
  match s with
  | x5 => m0 = m1 ∧ t1.get 5 = (.i .i64 x5) ∧ t1.get 0 = v0 ∧ t1.get 1 = v1
abbrev g23_J0 (v0 : AVal) (v1 : AVal) (m0 : Mm) (o : (Unit ⊕ Bool)) (e : AExit) (m1 : Mm) (t1 : Tr) : Prop :=
  match o with
  | (.inl _) => e = (.exit 0) ∧ m0 = m1
  | (.inr y4) => e = .ret ∧ m0 = m1 ∧ t1.get 4 = (.b y4)
def g23_b0 (M : Means) (ro : List ABlk) (v0 : AVal) (v1 : AVal) (m0 : Mm) (x5 : Int) : Option ((Int) ⊕ ((Unit ⊕ Bool))) :=
  bindO (evP .e (.len false (.c v0))) fun v13 =>
  asI .i64 v13 fun x13 =>
  forceB (ltI x5 x13) fun c14 =>
  cond c14 (
    bindO (evP .e (.ixS 1 (.c v0) (.c (.i .i64 x5)))) fun v19 =>
    bindO (ldA ro m0.h true 1 v19) fun v20 =>
    asI .i64 v20 fun x20 =>
    bindO (evP .e (.ixS 1 (.c v1) (.c (.i .i64 x5)))) fun v23 =>
    bindO (ldA ro m0.h true 1 v23) fun v24 =>
    asI .i64 v24 fun x24 =>
    forceB (!eqI x20 x24) fun c25 =>
    cond c25 (
      some (.inr (.inr false))) (
      forceI (wr .i64 (x5 + 1)) fun x16 =>
      some (.inl x16))) (
    some (.inr (.inl ())))
def g23 (M : Means) (ro : List ABlk) (v0 : AVal) (v1 : AVal) (m0 : Mm) : Option (AVal × Heap × Nat × Nat) :=
  bindO (evP .e (.len false (.c v0))) fun v7 =>
  asI .i64 v7 fun x7 =>
  bindO (evP .e (.len false (.c v1))) fun v9 =>
  asI .i64 v9 fun x9 =>
  forceB (!eqI x7 x9) fun c10 =>
  cond c10 (
    finM m0.h.length (tupA [(.b false)]) m0) (
    bindO (M.loop (S := Int) (R := (Unit ⊕ Bool)) (fun s => g23_b0 M ro v0 v1 m0 s) 0) fun o => match o with
    | (.inl _) =>
      finM m0.h.length (tupA [(.b true)]) m0
    | (.inr c4) =>
      finM m0.h.length (tupA [(.b c4)]) m0)

theorem g23_ok {ro : List ABlk} {O : Caller} {M : Means} (hM : M.Ok ⟨F, O⟩ ro) {v0 v1 h r} (ho : O 23 [v0, v1] h = none) (hr : g23 M ro v0 v1 ⟨h, h.length, h.length⟩ = some r) : callX ⟨F, O⟩ ro 23 [v0, v1] h = some r := by
  refine callX_of (F := ⟨F, O⟩) (fn := fn23) (g := g23 M ro v0 v1) ho rfl rfl hr ?_
  clear ho
  clear hr
  intro m0 t0 ht hr
  have g0 : t0.get 0 = v0 := ht 0
  have g1 : t0.get 1 = v1 := ht 1
  clear ht
  unfold g23 at hr
  refine w_seq ?_
  refine w_ops ?_
  refine wo_step (v := (.b false)) (s_pure (p_mv rfl)) ?_
  refine wo_nil ?_
  refine nx_norm ?_
  refine w_seq ?_
  refine w_seq ?_
  refine w_ops ?_
  refine wo_step (v := v0) (s_pure (p_mv g0)) ?_
  have hq := bindO_inv hr
  clear hr
  obtain ⟨v7, e7, hr⟩ := hq
  have hq := asI_inv hr
  clear hr
  obtain ⟨x7, rfl, hr⟩ := hq
  refine wo_step (v := (.i .i64 x7)) (s_pure (o_len rfl e7)) ?_
  refine wo_step (v := v1) (s_pure (p_mv g1)) ?_
  have hq := bindO_inv hr
  clear hr
  obtain ⟨v9, e9, hr⟩ := hq
  have hq := asI_inv hr
  clear hr
  obtain ⟨x9, rfl, hr⟩ := hq
  refine wo_step (v := (.i .i64 x9)) (s_pure (o_len rfl e9)) ?_
  have hq := forceB_inv hr
  clear hr
  obtain ⟨c10, e10, hr⟩ := hq
  refine wo_step (v := (.b c10)) (s_pure (p_bin rfl rfl (b_neq.trans (cb e10)))) ?_
  refine wo_nil ?_
  refine nx_norm ?_
  have hq := cond_inv hr
  clear hr
  rcases hq with ⟨rfl, hr⟩ | ⟨rfl, hr⟩
  · refine w_condT rfl ?_
    refine w_seq ?_
    refine w_ops ?_
    refine wo_step (v := (.b false)) (s_pure (p_mv rfl)) ?_
    refine wo_nil ?_
    refine nx_norm ?_
    refine w_ret ?_
    refine nx_ret ?_
    exact qf ret_ok (rt rfl rn) hr
  · refine w_condF rfl ?_
    refine w_skip ?_
    refine nx_norm ?_
    refine w_seq ?_
    refine w_seq ?_
    refine w_ops ?_
    refine wo_step (v := (.i .i64 0)) (s_pure (p_mv rfl)) ?_
    refine wo_nil ?_
    refine nx_norm ?_
    refine w_block ?_
    have hq := bindO_inv hr
    clear hr
    obtain ⟨o, hl, hr⟩ := hq
    obtain ⟨n, hl⟩ := hM.loop _ _ _ hl
    refine jp_mono (w_loop _ (g23_I0 v0 v1 m0) (g23_J0 v0 v1 m0) ?_ n _ _ _ _ hl ⟨rfl, gl rfl, gl g0, gl g1⟩) ?_
    · clear hr hl
      intro s mm_2 t_1 o hi hr
      obtain ⟨x5, hs⟩ : ∃ z, z = s := ⟨_, rfl⟩
      subst hs
      obtain ⟨rfl, g5, g0, g1⟩ := hi
      unfold g23_b0 at hr
      refine w_seq ?_
      refine w_seq ?_
      refine w_ops ?_
      refine wo_step (v := (.i .i64 x5)) (s_pure (p_mv g5)) ?_
      refine wo_step (v := v0) (s_pure (p_mv g0)) ?_
      have hq := bindO_inv hr
      clear hr
      obtain ⟨v13, e13, hr⟩ := hq
      have hq := asI_inv hr
      clear hr
      obtain ⟨x13, rfl, hr⟩ := hq
      refine wo_step (v := (.i .i64 x13)) (s_pure (o_len rfl e13)) ?_
      have hq := forceB_inv hr
      clear hr
      obtain ⟨c14, e14, hr⟩ := hq
      refine wo_step (v := (.b c14)) (s_pure (p_bin rfl rfl (b_lss.trans (cb e14)))) ?_
      refine wo_nil ?_
      refine nx_norm ?_
      have hq := cond_inv hr
      clear hr
      rcases hq with ⟨rfl, hr⟩ | ⟨rfl, hr⟩
      · refine w_condT rfl ?_
        refine w_skip ?_
        refine nx_norm ?_
        refine w_seq ?_
        refine w_block ?_
        refine w_seq ?_
        refine w_any ?_
        refine wa_step (v := v0) (a_pure (p_mv g0)) ?_
        refine wa_step (v := (.i .i64 x5)) (a_pure (p_mv g5)) ?_
        have hq := bindO_inv hr
        clear hr
        obtain ⟨v19, e19, hr⟩ := hq
        refine wa_step (v := v19) (a_pure (o_ixS rfl rfl e19)) ?_
        have hq := bindO_inv hr
        clear hr
        obtain ⟨v20, e20, hr⟩ := hq
        have hq := asI_inv hr
        clear hr
        obtain ⟨x20, rfl, hr⟩ := hq
        refine wa_step (v := (.i .i64 x20)) (a_ld rfl e20) ?_
        refine wa_step (v := v1) (a_pure (p_mv g1)) ?_
        refine wa_step (v := (.i .i64 x5)) (a_pure (p_mv g5)) ?_
        have hq := bindO_inv hr
        clear hr
        obtain ⟨v23, e23, hr⟩ := hq
        refine wa_step (v := v23) (a_pure (o_ixS rfl rfl e23)) ?_
        have hq := bindO_inv hr
        clear hr
        obtain ⟨v24, e24, hr⟩ := hq
        have hq := asI_inv hr
        clear hr
        obtain ⟨x24, rfl, hr⟩ := hq
        refine wa_step (v := (.i .i64 x24)) (a_ld rfl e24) ?_
        have hq := forceB_inv hr
        clear hr
        obtain ⟨c25, e25, hr⟩ := hq
        refine wa_step (v := (.b c25)) (a_pure (p_bin rfl rfl (b_neq.trans (cb e25)))) ?_
        refine wa_nil ?_
        refine ⟨m0, wM2_nil rfl, ?_⟩
        refine nx_norm ?_
        have hq := cond_inv hr
        clear hr
        rcases hq with ⟨rfl, hr⟩ | ⟨rfl, hr⟩
        · refine w_condT rfl ?_
          refine w_seq ?_
          refine w_ops ?_
          refine wo_step (v := (.b false)) (s_pure (p_mv rfl)) ?_
          refine wo_nil ?_
          refine nx_norm ?_
          refine w_ret ?_
          refine bk_ret ?_
          refine nx_ret ?_
          cases hr
          exact ⟨_, _, rfl, ne_norm_ret, rfl, rfl, gl rfl⟩
        · refine w_condF rfl ?_
          refine w_skip ?_
          refine bk_norm ?_
          refine nx_norm ?_
          refine w_ops ?_
          refine wo_step (v := (.i .i64 x5)) (s_pure (p_mv g5)) ?_
          have hq := forceI_inv hr
          clear hr
          obtain ⟨x16, e16, hr⟩ := hq
          refine wo_step (v := (.i .i64 x16)) (s_pure (p_bin rfl rfl (b_add.trans (ci e16)))) ?_
          refine wo_step (v := (.i .i64 x16)) (s_pure (p_mv rfl)) ?_
          refine wo_nil ?_
          cases hr
          exact ⟨_, _, rfl, rfl, rfl, gl rfl, gl g0, gl g1⟩
      · refine w_condF rfl ?_
        refine w_exit ?_
        refine nx_exit ?_
        cases hr
        exact ⟨_, _, rfl, ne_norm_exit, rfl, rfl⟩
    · rcases o with o | o
      · rintro _ mm t_2 ⟨rfl, rfl⟩
        refine bk_hit ?_
        refine nx_norm ?_
        refine w_seq ?_
        refine w_ops ?_
        refine wo_step (v := (.b true)) (s_pure (p_mv rfl)) ?_
        refine wo_nil ?_
        refine nx_norm ?_
        refine w_ret ?_
        exact qf ret_ok (rt rfl rn) hr
      · obtain ⟨c4, ho⟩ : ∃ z, z = o := ⟨_, rfl⟩
        subst ho
        rintro _ mm_1 t_3 ⟨rfl, rfl, g4⟩
        refine bk_ret ?_
        refine nx_ret ?_
        exact qf ret_ok (rt g4 rn) hr

/- dibber/vine.Endless -/
abbrev g34_I0 (v11 : AVal) (x17 : Int) (s : AVal × Int × Mm) (m1 : Mm) (t1 : Tr) : Prop :=
  match s with
  | (v6, x18, m_2) => m_2 = m1 ∧ t1.get 6 = v6 ∧ t1.get 18 = (.i .i64 x18) ∧ t1.get 4 = v11 ∧ t1.get 17 = (.i .i64 x17)
abbrev g34_J0 (v11 : AVal) (x17 : Int) (o : (AVal × Mm)) (e : AExit) (m1 : Mm) (t1 : Tr) : Prop :=
  match o with
  | (y6, mo) => e = (.exit 0) ∧ mo = m1 ∧ t1.get 6 = y6
abbrev g34_J1 (v11 : AVal) (x17 : Int) (x18 : Int) (o : (AVal × Mm)) (e : AExit) (m1 : Mm) (t1 : Tr) : Prop :=
  match o with
  | (y6, mo) => e = .norm ∧ mo = m1 ∧ t1.get 6 = y6 ∧ t1.get 4 = v11 ∧ t1.get 17 = (.i .i64 x17) ∧ t1.get 18 = (.i .i64 x18)
def g34_b0 (M : Means) (ro : List ABlk) (v11 : AVal) (x17 : Int) (v6 : AVal) (x18 : Int) (m_2 : Mm) : Option ((AVal × Int × Mm) ⊕ ((AVal × Mm))) :=
  forceB (ltI x18 x17) fun c19 =>
  cond c19 (
    bindP (callM M.call m_2 72 [v11, (.i .i64 x18)]) fun v23 m_3 =>
    asB v23 fun c23 =>
    bindO (α := (AVal × Mm)) (
      cond c23 (
        bindP (stepM ro m_3 (.bsl 3 1 [(AVal.i IntKind.i64 0)] 1 [((0, 1), .c (.i .i64 x18))])) fun v26 m_4 =>
        bindP (stepM ro m_4 (.app 3 1 8 [(AVal.i IntKind.i64 0)] (.c v6) (.c v26))) fun v27 m_5 =>
        some (v27, m_5)) (
        some (v6, m_3))) fun ⟨v6_1, m_6⟩ =>
    forceI (wr .i64 (x18 + 1)) fun x28 =>
    some (.inl (v6_1, x28, m_6))) (
    some (.inr (v6, m_2)))
def g34 (M : Means) (ro : List ABlk) (v0 : AVal) (m0 : Mm) : Option (AVal × Heap × Nat × Nat) :=
  bindP (callM M.call m0 71 [v0]) fun v10 m_1 =>
  bindO (evP .e (.ext 0 (.c v10))) fun v11 =>
  bindO (evP .e (.ext 1 (.c v10))) fun v12 =>
  asI .i64 v12 fun x12 =>
  forceB (!eqI x12 0) fun c14 =>
  cond c14 (
    finM m0.h.length (tupA [AVal.nsl, (.i .i64 x12)]) m_1) (
    bindO (evP .e (.len false (.c v11))) fun v17 =>
    asI .i64 v17 fun x17 =>
    bindO (M.loop (S := AVal × Int × Mm) (R := (AVal × Mm)) (fun s => g34_b0 M ro v11 x17 s.1 s.2.1 s.2.2) (AVal.nsl, 0, m_1)) fun ⟨v6_2, m_7⟩ =>
    finM m0.h.length (tupA [v6_2, (.i .i64 0)]) m_7)

theorem g34_ok {ro : List ABlk} {O : Caller} {M : Means} (hM : M.Ok ⟨F, O⟩ ro) {v0 h r} (ho : O 34 [v0] h = none) (hr : g34 M ro v0 ⟨h, h.length, h.length⟩ = some r) : callX ⟨F, O⟩ ro 34 [v0] h = some r := by
  refine callX_of (F := ⟨F, O⟩) (fn := fn34) (g := g34 M ro v0) ho rfl rfl hr ?_
  clear ho
  clear hr
  intro m0 t0 ht hr
  have g0 : t0.get 0 = v0 := ht 0
  clear ht
  unfold g34 at hr
  refine w_seq ?_
  refine w_ops ?_
  refine wo_step (v := AVal.nsl) (s_pure (p_mv rfl)) ?_
  refine wo_step (v := (.i .i64 0)) (s_pure (p_mv rfl)) ?_
  refine wo_nil ?_
  refine nx_norm ?_
  refine w_seq ?_
  refine w_ops ?_
  refine wo_step (v := v0) (s_pure (p_mv g0)) ?_
  have hq := bindP_inv hr
  clear hr
  obtain ⟨v10, m_1, e10, hr⟩ := hq
  refine wo_step (v := v10) (s_call (mc rfl mn) (callM_le hM.call e10)) ?_
  refine wo_step (v := v10) (s_pure (p_mv rfl)) ?_
  have hq := bindO_inv hr
  clear hr
  obtain ⟨v11, e11, hr⟩ := hq
  refine wo_step (v := v11) (s_pure (o_ext rfl e11)) ?_
  have hq := bindO_inv hr
  clear hr
  obtain ⟨v12, e12, hr⟩ := hq
  have hq := asI_inv hr
  clear hr
  obtain ⟨x12, rfl, hr⟩ := hq
  refine wo_step (v := (.i .i64 x12)) (s_pure (o_ext rfl e12)) ?_
  refine wo_step (v := v11) (s_pure (p_mv rfl)) ?_
  refine wo_step (v := (.i .i64 x12)) (s_pure (p_mv rfl)) ?_
  refine wo_nil ?_
  refine nx_norm ?_
  refine w_seq ?_
  refine w_seq ?_
  refine w_ops ?_
  refine wo_step (v := (.i .i64 x12)) (s_pure (p_mv rfl)) ?_
  have hq := forceB_inv hr
  clear hr
  obtain ⟨c14, e14, hr⟩ := hq
  refine wo_step (v := (.b c14)) (s_pure (p_bin rfl rfl (b_neq.trans (cb e14)))) ?_
  refine wo_nil ?_
  refine nx_norm ?_
  have hq := cond_inv hr
  clear hr
  rcases hq with ⟨rfl, hr⟩ | ⟨rfl, hr⟩
  · refine w_condT rfl ?_
    refine w_seq ?_
    refine w_ops ?_
    refine wo_step (v := (.i .i64 x12)) (s_pure (p_mv rfl)) ?_
    refine wo_step (v := AVal.nsl) (s_pure (p_mv rfl)) ?_
    refine wo_step (v := (.i .i64 x12)) (s_pure (p_mv rfl)) ?_
    refine wo_nil ?_
    refine nx_norm ?_
    refine w_ret ?_
    refine nx_ret ?_
    exact qf ret_ok (rt rfl (rt rfl rn)) hr
  · refine w_condF rfl ?_
    refine w_skip ?_
    refine nx_norm ?_
    refine w_seq ?_
    refine w_ops ?_
    refine wo_step (v := AVal.nsl) (s_pure (p_mv rfl)) ?_
    refine wo_nil ?_
    refine nx_norm ?_
    refine w_seq ?_
    refine w_seq ?_
    refine w_ops ?_
    refine wo_step (v := v11) (s_pure (p_mv rfl)) ?_
    have hq := bindO_inv hr
    clear hr
    obtain ⟨v17, e17, hr⟩ := hq
    have hq := asI_inv hr
    clear hr
    obtain ⟨x17, rfl, hr⟩ := hq
    refine wo_step (v := (.i .i64 x17)) (s_pure (o_len rfl e17)) ?_
    refine wo_step (v := (.i .i64 0)) (s_pure (p_mv rfl)) ?_
    refine wo_nil ?_
    refine nx_norm ?_
    refine w_block ?_
    have hq := bindO_inv hr
    clear hr
    obtain ⟨o_1, hl, hr⟩ := hq
    obtain ⟨n, hl⟩ := hM.loop _ _ _ hl
    refine jp_mono (w_loop _ (g34_I0 v11 x17) (g34_J0 v11 x17) ?_ n _ _ _ _ hl ⟨rfl, gl rfl, gl rfl, gl rfl, gl rfl⟩) ?_
    · clear hr hl
      intro s mm_2 t_1 o hi hr
      obtain ⟨v6, x18, m_2⟩ := s
      obtain ⟨rfl, g6, g18, g4, g17⟩ := hi
      unfold g34_b0 at hr
      refine w_seq ?_
      refine w_ops ?_
      have hq := forceB_inv hr
      clear hr
      obtain ⟨c19, e19, hr⟩ := hq
      refine wo_step (v := (.b c19)) (s_pure (p_bin g18 g17 (b_lss.trans (cb e19)))) ?_
      refine wo_nil ?_
      refine nx_norm ?_
      refine w_seq ?_
      have hq := cond_inv hr
      clear hr
      rcases hq with ⟨rfl, hr⟩ | ⟨rfl, hr⟩
      · refine w_condT rfl ?_
        refine w_skip ?_
        refine nx_norm ?_
        refine w_seq ?_
        refine w_block ?_
        refine w_seq ?_
        refine w_ops ?_
        refine wo_step (v := (.i .i64 x18)) (s_pure (p_mv g18)) ?_
        refine wo_step (v := (.i .i64 x18)) (s_pure (p_mv rfl)) ?_
        refine wo_nil ?_
        refine nx_norm ?_
        refine w_seq ?_
        refine w_ops ?_
        refine wo_step (v := v11) (s_pure (p_mv g4)) ?_
        refine wo_step (v := (.i .i64 x18)) (s_pure (p_mv rfl)) ?_
        have hq := bindP_inv hr
        clear hr
        obtain ⟨v23, m_3, e23, hr⟩ := hq
        have hq := asB_inv hr
        clear hr
        obtain ⟨c23, rfl, hr⟩ := hq
        refine wo_step (v := (.b c23)) (s_call (mc rfl (mc rfl mn)) (callM_le hM.call e23)) ?_
        refine wo_nil ?_
        refine nx_norm ?_
        have hq := bindO_inv hr
        clear hr
        obtain ⟨o, hr, hk⟩ := hq
        refine jp_mono (J := g34_J1 v11 x17 x18 o) ?_ ?_
        · clear hk
          have hq := cond_inv hr
          clear hr
          rcases hq with ⟨rfl, hr⟩ | ⟨rfl, hr⟩
          · refine w_condT rfl ?_
            refine w_ops ?_
            refine wo_step (v := v6) (s_pure (p_mv g6)) ?_
            refine wo_step (v := (.i .i64 x18)) (s_pure (p_mv rfl)) ?_
            have hq := bindP_inv hr
            clear hr
            obtain ⟨v26, m_4, e26, hr⟩ := hq
            refine wo_step (v := v26) (s_bsl (qc rfl qn) e26) ?_
            have hq := bindP_inv hr
            clear hr
            obtain ⟨v27, m_5, e27, hr⟩ := hq
            refine wo_step (v := v27) (s_app rfl rfl e27) ?_
            refine wo_step (v := v27) (s_pure (p_mv rfl)) ?_
            refine wo_nil ?_
            cases hr
            exact ⟨_, _, rfl, rfl, rfl, gl rfl, gl g4, gl g17, gl g18⟩
          · refine w_condF rfl ?_
            refine w_skip ?_
            cases hr
            exact ⟨_, _, rfl, rfl, rfl, gl g6, gl g4, gl g17, gl g18⟩
        · clear hr
          have hr := hk
          clear hk
          obtain ⟨v6_1, m_6⟩ := o
          rintro _ mm t_2 ⟨rfl, rfl, g6, g4, g17, g18⟩
          refine bk_norm ?_
          refine nx_norm ?_
          refine w_ops ?_
          have hq := forceI_inv hr
          clear hr
          obtain ⟨x28, e28, hr⟩ := hq
          refine wo_step (v := (.i .i64 x28)) (s_pure (p_bin g18 rfl (b_add.trans (ci e28)))) ?_
          refine wo_step (v := (.i .i64 x28)) (s_pure (p_mv rfl)) ?_
          refine wo_nil ?_
          cases hr
          exact ⟨_, _, rfl, rfl, rfl, gl g6, gl rfl, gl g4, gl g17⟩
      · refine w_condF rfl ?_
        refine w_exit ?_
        refine nx_exit ?_
        cases hr
        exact ⟨_, _, rfl, ne_norm_exit, rfl, rfl, gl g6⟩
    · obtain ⟨v6_2, m_7⟩ := o_1
      rintro _ mm_1 t_3 ⟨rfl, rfl, g6⟩
      refine bk_hit ?_
      refine nx_norm ?_
      refine w_seq ?_
      refine w_ops ?_
      refine wo_step (v := v6_2) (s_pure (p_mv g6)) ?_
      refine wo_step (v := v6_2) (s_pure (p_mv rfl)) ?_
      refine wo_step (v := (.i .i64 0)) (s_pure (p_mv rfl)) ?_
      refine wo_nil ?_
      refine nx_norm ?_
      refine w_ret ?_
      exact qf ret_ok (rt rfl (rt rfl rn)) hr

/- dibber/dibberref03.Endless -/
abbrev g35_I0 (v0 : AVal) (s : AVal × Int × Mm) (m1 : Mm) (t1 : Tr) : Prop :=
  match s with
  | (v5, x6, m_2) => m_2 = m1 ∧ t1.get 5 = v5 ∧ t1.get 6 = (.i .i64 x6) ∧ t1.get 0 = v0
abbrev g35_J0 (v0 : AVal) (o : (AVal × Mm)) (e : AExit) (m1 : Mm) (t1 : Tr) : Prop :=
  match o with
  | (y5, mo) => e = (.exit 0) ∧ mo = m1 ∧ t1.get 5 = y5
abbrev g35_J1 (v0 : AVal) (x6 : Int) (o : (AVal × Mm)) (e : AExit) (m1 : Mm) (t1 : Tr) : Prop :=
  match o with
  | (y5, mo) => e = .norm ∧ mo = m1 ∧ t1.get 5 = y5 ∧ t1.get 0 = v0 ∧ t1.get 6 = (.i .i64 x6)
def g35_b0 (M : Means) (ro : List ABlk) (v0 : AVal) (v5 : AVal) (x6 : Int) (m_2 : Mm) : Option ((AVal × Int × Mm) ⊕ ((AVal × Mm))) :=
  bindO (evP .e (.len false (.c v0))) fun v14 =>
  asI .i64 v14 fun x14 =>
  forceB (ltI x6 x14) fun c15 =>
  cond c15 (
    bindP (callM M.call m_2 73 [v0, (.i .i64 x6)]) fun v20 m_3 =>
    asB v20 fun c20 =>
    bindO (α := (AVal × Mm)) (
      cond c20 (
        bindP (stepM ro m_3 (.bsl 3 1 [(AVal.i IntKind.i64 0)] 1 [((0, 1), .c (.i .i64 x6))])) fun v23 m_4 =>
        bindP (stepM ro m_4 (.app 3 1 8 [(AVal.i IntKind.i64 0)] (.c v5) (.c v23))) fun v24 m_5 =>
        some (v24, m_5)) (
        some (v5, m_3))) fun ⟨v5_1, m_6⟩ =>
    forceI (wr .i64 (x6 + 1)) fun x17 =>
    some (.inl (v5_1, x17, m_6))) (
    some (.inr (v5, m_2)))
def g35 (M : Means) (ro : List ABlk) (v0 : AVal) (m0 : Mm) : Option (AVal × Heap × Nat × Nat) :=
  bindP (callM M.call m0 46 [v0]) fun v8 m_1 =>
  asI .i64 v8 fun x8 =>
  forceB (!eqI x8 0) fun c10 =>
  cond c10 (
    finM m0.h.length (tupA [AVal.nsl, (.i .i64 x8)]) m_1) (
    bindO (M.loop (S := AVal × Int × Mm) (R := (AVal × Mm)) (fun s => g35_b0 M ro v0 s.1 s.2.1 s.2.2) (AVal.nsl, 0, m_1)) fun ⟨v5_2, m_7⟩ =>
    finM m0.h.length (tupA [v5_2, (.i .i64 0)]) m_7)

theorem g35_ok {ro : List ABlk} {O : Caller} {M : Means} (hM : M.Ok ⟨F, O⟩ ro) {v0 h r} (ho : O 35 [v0] h = none) (hr : g35 M ro v0 ⟨h, h.length, h.length⟩ = some r) : callX ⟨F, O⟩ ro 35 [v0] h = some r := by
  refine callX_of (F := ⟨F, O⟩) (fn := fn35) (g := g35 M ro v0) ho rfl rfl hr ?_
  clear ho
  clear hr
  intro m0 t0 ht hr
  have g0 : t0.get 0 = v0 := ht 0
  clear ht
  unfold g35 at hr
  refine w_seq ?_
  refine w_ops ?_
  refine wo_step (v := AVal.nsl) (s_pure (p_mv rfl)) ?_
  refine wo_step (v := (.i .i64 0)) (s_pure (p_mv rfl)) ?_
  refine wo_nil ?_
  refine nx_norm ?_
  refine w_seq ?_
  refine w_ops ?_
  refine wo_step (v := v0) (s_pure (p_mv g0)) ?_
  have hq := bindP_inv hr
  clear hr
  obtain ⟨v8, m_1, e8, hr⟩ := hq
  have hq := asI_inv hr
  clear hr
  obtain ⟨x8, rfl, hr⟩ := hq
  refine wo_step (v := (.i .i64 x8)) (s_call (mc rfl mn) (callM_le hM.call e8)) ?_
  refine wo_step (v := (.i .i64 x8)) (s_pure (p_mv rfl)) ?_
  refine wo_nil ?_
  refine nx_norm ?_
  refine w_seq ?_
  refine w_seq ?_
  refine w_ops ?_
  refine wo_step (v := (.i .i64 x8)) (s_pure (p_mv rfl)) ?_
  have hq := forceB_inv hr
  clear hr
  obtain ⟨c10, e10, hr⟩ := hq
  refine wo_step (v := (.b c10)) (s_pure (p_bin rfl rfl (b_neq.trans (cb e10)))) ?_
  refine wo_nil ?_
  refine nx_norm ?_
  have hq := cond_inv hr
  clear hr
  rcases hq with ⟨rfl, hr⟩ | ⟨rfl, hr⟩
  · refine w_condT rfl ?_
    refine w_seq ?_
    refine w_ops ?_
    refine wo_step (v := (.i .i64 x8)) (s_pure (p_mv rfl)) ?_
    refine wo_step (v := AVal.nsl) (s_pure (p_mv rfl)) ?_
    refine wo_step (v := (.i .i64 x8)) (s_pure (p_mv rfl)) ?_
    refine wo_nil ?_
    refine nx_norm ?_
    refine w_ret ?_
    refine nx_ret ?_
    exact qf ret_ok (rt rfl (rt rfl rn)) hr
  · refine w_condF rfl ?_
    refine w_skip ?_
    refine nx_norm ?_
    refine w_seq ?_
    refine w_ops ?_
    refine wo_step (v := AVal.nsl) (s_pure (p_mv rfl)) ?_
    refine wo_nil ?_
    refine nx_norm ?_
    refine w_seq ?_
    refine w_seq ?_
    refine w_ops ?_
    refine wo_step (v := (.i .i64 0)) (s_pure (p_mv rfl)) ?_
    refine wo_nil ?_
    refine nx_norm ?_
    refine w_block ?_
    have hq := bindO_inv hr
    clear hr
    obtain ⟨o_1, hl, hr⟩ := hq
    obtain ⟨n, hl⟩ := hM.loop _ _ _ hl
    refine jp_mono (w_loop _ (g35_I0 v0) (g35_J0 v0) ?_ n _ _ _ _ hl ⟨rfl, gl rfl, gl rfl, gl g0⟩) ?_
    · clear hr hl
      intro s mm_2 t_1 o hi hr
      obtain ⟨v5, x6, m_2⟩ := s
      obtain ⟨rfl, g5, g6, g0⟩ := hi
      unfold g35_b0 at hr
      refine w_seq ?_
      refine w_seq ?_
      refine w_ops ?_
      refine wo_step (v := (.i .i64 x6)) (s_pure (p_mv g6)) ?_
      refine wo_step (v := v0) (s_pure (p_mv g0)) ?_
      have hq := bindO_inv hr
      clear hr
      obtain ⟨v14, e14, hr⟩ := hq
      have hq := asI_inv hr
      clear hr
      obtain ⟨x14, rfl, hr⟩ := hq
      refine wo_step (v := (.i .i64 x14)) (s_pure (o_len rfl e14)) ?_
      have hq := forceB_inv hr
      clear hr
      obtain ⟨c15, e15, hr⟩ := hq
      refine wo_step (v := (.b c15)) (s_pure (p_bin rfl rfl (b_lss.trans (cb e15)))) ?_
      refine wo_nil ?_
      refine nx_norm ?_
      have hq := cond_inv hr
      clear hr
      rcases hq with ⟨rfl, hr⟩ | ⟨rfl, hr⟩
      · refine w_condT rfl ?_
        refine w_skip ?_
        refine nx_norm ?_
        refine w_seq ?_
        refine w_block ?_
        refine w_seq ?_
        refine w_ops ?_
        refine wo_step (v := v0) (s_pure (p_mv g0)) ?_
        refine wo_step (v := (.i .i64 x6)) (s_pure (p_mv g6)) ?_
        have hq := bindP_inv hr
        clear hr
        obtain ⟨v20, m_3, e20, hr⟩ := hq
        have hq := asB_inv hr
        clear hr
        obtain ⟨c20, rfl, hr⟩ := hq
        refine wo_step (v := (.b c20)) (s_call (mc rfl (mc rfl mn)) (callM_le hM.call e20)) ?_
        refine wo_nil ?_
        refine nx_norm ?_
        have hq := bindO_inv hr
        clear hr
        obtain ⟨o, hr, hk⟩ := hq
        refine jp_mono (J := g35_J1 v0 x6 o) ?_ ?_
        · clear hk
          have hq := cond_inv hr
          clear hr
          rcases hq with ⟨rfl, hr⟩ | ⟨rfl, hr⟩
          · refine w_condT rfl ?_
            refine w_ops ?_
            refine wo_step (v := v5) (s_pure (p_mv g5)) ?_
            refine wo_step (v := (.i .i64 x6)) (s_pure (p_mv g6)) ?_
            have hq := bindP_inv hr
            clear hr
            obtain ⟨v23, m_4, e23, hr⟩ := hq
            refine wo_step (v := v23) (s_bsl (qc rfl qn) e23) ?_
            have hq := bindP_inv hr
            clear hr
            obtain ⟨v24, m_5, e24, hr⟩ := hq
            refine wo_step (v := v24) (s_app rfl rfl e24) ?_
            refine wo_step (v := v24) (s_pure (p_mv rfl)) ?_
            refine wo_nil ?_
            cases hr
            exact ⟨_, _, rfl, rfl, rfl, gl rfl, gl g0, gl g6⟩
          · refine w_condF rfl ?_
            refine w_skip ?_
            cases hr
            exact ⟨_, _, rfl, rfl, rfl, gl g5, gl g0, gl g6⟩
        · clear hr
          have hr := hk
          clear hk
          obtain ⟨v5_1, m_6⟩ := o
          rintro _ mm t_2 ⟨rfl, rfl, g5, g0, g6⟩
          refine bk_norm ?_
          refine nx_norm ?_
          refine w_ops ?_
          refine wo_step (v := (.i .i64 x6)) (s_pure (p_mv g6)) ?_
          have hq := forceI_inv hr
          clear hr
          obtain ⟨x17, e17, hr⟩ := hq
          refine wo_step (v := (.i .i64 x17)) (s_pure (p_bin rfl rfl (b_add.trans (ci e17)))) ?_
          refine wo_step (v := (.i .i64 x17)) (s_pure (p_mv rfl)) ?_
          refine wo_nil ?_
          cases hr
          exact ⟨_, _, rfl, rfl, rfl, gl g5, gl rfl, gl g0⟩
      · refine w_condF rfl ?_
        refine w_exit ?_
        refine nx_exit ?_
        cases hr
        exact ⟨_, _, rfl, ne_norm_exit, rfl, rfl, gl g5⟩
    · obtain ⟨v5_2, m_7⟩ := o_1
      rintro _ mm_1 t_3 ⟨rfl, rfl, g5⟩
      refine bk_hit ?_
      refine nx_norm ?_
      refine w_seq ?_
      refine w_ops ?_
      refine wo_step (v := v5_2) (s_pure (p_mv g5)) ?_
      refine wo_step (v := v5_2) (s_pure (p_mv rfl)) ?_
      refine wo_step (v := (.i .i64 0)) (s_pure (p_mv rfl)) ?_
      refine wo_nil ?_
      refine nx_norm ?_
      refine w_ret ?_
      exact qf ret_ok (rt rfl (rt rfl rn)) hr

/- dibber/vine.Letter -/
abbrev k36a0 : ACode := (.seq (.ops [(.mk (some 11) none (.pure (.mv (.t 26))))]) (.ops [(.mk (some 12) none (.pure (.mv (.t 27))))]))
abbrev k36c0 : ACode := (.block 1 (.seq (.ops [(.mk (some 28) none (.pure (.mv (.t 11)))), (.mk (some 29) none (.ld true 1 (.t 5))), (.mk (some 30) none (.pure (.bin .eql (.t 28) (.t 29))))]) (.cond (.t 30) (.seq (.ops [(.mk (some 31) none (.pure (.mv (.t 12)))), (.mk (some 32) none (.bsl 5 1 [(.i .u8 0)] 1 [((0, 1), (.t 31))])), (.mk (some 33) none (.bts (.t 32))), (.mk none none (.st 1 (.t 6) (.t 33))), (.mk none none (.st 1 (.t 7) (.c (.i .i64 0))))]) .ret) .skip)))
abbrev g36_P0 (v5 : AVal) (v6 : AVal) (v7 : AVal) (t1 : Tr) : Prop := True ∧ t1.get 5 = v5 ∧ t1.get 6 = v6 ∧ t1.get 7 = v7
def g36_r0 (M : Means) (ro : List ABlk) (v5 : AVal) (v6 : AVal) (v7 : AVal) (b : Nat) (v26 : AVal) (v27 : AVal) (m0 : Mm) : Option (AVal × Heap × Nat × Nat) :=
  bindO (rndB b m0) fun m_8 =>
  bindO (ldM ro m_8 true 1 v5) fun v29 =>
  asI .i64 v29 fun x29 =>
  asI .i64 v26 fun xq28 =>
  forceB (eqI xq28 x29) fun c30 =>
  cond c30 (
    bindP (stepM ro m_8 (.bsl 5 1 [(AVal.i IntKind.u8 0)] 1 [((0, 1), .c v27)])) fun v32 m_9 =>
    bindO (btsM ro m_9 v32) fun v33 =>
    asS v33 fun s33 =>
    bindP (stepM ro m_9 (.st 1 (.c v6) (.c (.s s33)))) fun vn_2 m_10 =>
    bindP (stepM ro m_10 (.st 1 (.c v7) (.c (.i .i64 0)))) fun vn_3 m_11 =>
    rndE m0.h.length b .ret m_11) (
    rndE m0.h.length b .norm m_8)
noncomputable def g36 (M : Means) (ro : List ABlk) (v0 : AVal) (s1 : List UInt8) (x2 : Int) (m0 : Mm) : Option (AVal × Heap × Nat × Nat) :=
  bindP (stepM ro m0 (.bx 3 1 (.c (.i .i64 x2)))) fun v5 m_1 =>
  bindP (stepM ro m_1 (.al 9 [(AVal.s [])])) fun v6 m_2 =>
  bindP (stepM ro m_2 (.al 25 [(AVal.i IntKind.i64 0)])) fun v7 m_3 =>
  bindP (callM M.call m_3 74 [v0, (.s s1)]) fun v16 m_4 =>
  bindO (evP .e (.ext 0 (.c v16))) fun v17 =>
  bindO (evP .e (.ext 1 (.c v16))) fun v18 =>
  asI .i64 v18 fun x18 =>
  bindO (evP .e (.ext 2 (.c v16))) fun v19 =>
  asI .i64 v19 fun x19 =>
  forceB (!eqI x19 0) fun c21 =>
  cond c21 (
    bindP (stepM ro m_4 (.st 1 (.c v6) (.c (AVal.s [])))) fun vn m_5 =>
    bindP (stepM ro m_5 (.st 1 (.c v7) (.c (.i .i64 x19)))) fun vn_1 m_6 =>
    bindO (ldM ro m_6 true 1 v6) fun vr =>
    bindO (ldM ro m_6 true 1 v7) fun vr_1 =>
    finM m0.h.length (tupA [vr, vr_1]) m_6) (
    bindP (callM M.call m_4 75 [v17, (.i .i64 x18)]) fun v25 m_7 =>
    rngK M.call (g36_P0 v5 v6 v7) [26, 27] k36a0 k36c0 v25 m_7 fun ⟨ex, m_12⟩ => onE ex (
      bindP (stepM ro m_12 (.st 1 (.c v6) (.c (AVal.s [])))) fun vn_4 m_13 =>
      bindP (stepM ro m_13 (.st 1 (.c v7) (.c (.i .i64 4)))) fun vn_5 m_14 =>
      bindO (ldM ro m_14 true 1 v6) fun vr_2 =>
      bindO (ldM ro m_14 true 1 v7) fun vr_3 =>
      finM m0.h.length (tupA [vr_2, vr_3]) m_14) (
      bindO (ldM ro m_12 true 1 v6) fun vr_4 =>
      bindO (ldM ro m_12 true 1 v7) fun vr_5 =>
      finM m0.h.length (tupA [vr_4, vr_5]) m_12) (fun ix =>
      none))

theorem g36_r0_ok {ro : List ABlk} {O : Caller} {M : Means} (hM : M.Ok ⟨F, O⟩ ro) {v5} {v6} {v7} {v26} {v27} {b h r bk t p} (hb : lget h b = some (some bk)) (hg : bk.g = some (.lp ⟨t, [26, 27], k36a0, k36c0⟩ .ready p)) (hP : g36_P0 v5 v6 v7 t) (hr : g36_r0 M ro v5 v6 v7 b v26 v27 ⟨h, h.length, h.length⟩ = some r) : roundX ⟨F, O⟩ ro b [v26, v27] h = some r := by
  refine roundX_on (F := ⟨F, O⟩) (g := g36_r0 M ro v5 v6 v7 b v26 v27) hb hg rfl hr ?_
  clear hb hg hr
  intro m0 t0 ht hr
  obtain ⟨-, g5, g6, g7⟩ := hP
  have g26 : t0.get 26 = v26 := by rw [ht]; simp [putPs, get_set]
  have g27 : t0.get 27 = v27 := by rw [ht]; simp [putPs, get_set]
  have g5 : t0.get 5 = v5 := by rw [ht]; simp only [putPs, get_set]; simpa using g5
  have g6 : t0.get 6 = v6 := by rw [ht]; simp only [putPs, get_set]; simpa using g6
  have g7 : t0.get 7 = v7 := by rw [ht]; simp only [putPs, get_set]; simpa using g7
  clear ht
  unfold g36_r0 at hr
  show W _ _ k36a0 _ _
  unfold k36a0
  refine w_seq ?_
  refine w_ops ?_
  refine wo_step (v := v26) (s_pure (p_mv g26)) ?_
  refine wo_nil ?_
  refine nx_norm ?_
  refine w_ops ?_
  refine wo_step (v := v27) (s_pure (p_mv g27)) ?_
  refine wo_nil ?_
  have hq := bindO_inv hr
  clear hr
  obtain ⟨m_8, eb, hr⟩ := hq
  refine qb eb ?_
  unfold k36c0
  refine w_block ?_
  refine w_seq ?_
  refine w_ops ?_
  refine wo_step (v := v26) (s_pure (p_mv rfl)) ?_
  have hq := bindO_inv hr
  clear hr
  obtain ⟨v29, e29, hr⟩ := hq
  have hq := asI_inv hr
  clear hr
  obtain ⟨x29, rfl, hr⟩ := hq
  refine wo_step (v := (.i .i64 x29)) (s_ld g5 e29) ?_
  have hq := asI_inv hr
  clear hr
  obtain ⟨xq28, eq, hr⟩ := hq
  have hq := forceB_inv hr
  clear hr
  obtain ⟨c30, e30, hr⟩ := hq
  refine wo_step (v := (.b c30)) (s_pure (p_bin (Eq.trans (b := v26) rfl eq) rfl (b_eql.trans (cb e30)))) ?_
  refine wo_nil ?_
  refine nx_norm ?_
  have hq := cond_inv hr
  clear hr
  rcases hq with ⟨rfl, hr⟩ | ⟨rfl, hr⟩
  · refine w_condT rfl ?_
    refine w_seq ?_
    refine w_ops ?_
    refine wo_step (v := v27) (s_pure (p_mv rfl)) ?_
    have hq := bindP_inv hr
    clear hr
    obtain ⟨v32, m_9, e32, hr⟩ := hq
    refine wo_step (v := v32) (s_bsl (qc rfl qn) e32) ?_
    have hq := bindO_inv hr
    clear hr
    obtain ⟨v33, e33, hr⟩ := hq
    have hq := asS_inv hr
    clear hr
    obtain ⟨s33, rfl, hr⟩ := hq
    refine wo_step (v := (.s s33)) (s_bts rfl e33) ?_
    have hq := bindP_inv hr
    clear hr
    obtain ⟨vn_2, m_10, en_2, hr⟩ := hq
    refine wo_stepN (s_st g6 rfl en_2) ?_
    have hq := bindP_inv hr
    clear hr
    obtain ⟨vn_3, m_11, en_3, hr⟩ := hq
    refine wo_stepN (s_st g7 rfl en_3) ?_
    refine wo_nil ?_
    refine nx_norm ?_
    refine w_ret ?_
    refine bk_ret ?_
    exact hr
  · refine w_condF rfl ?_
    refine w_skip ?_
    refine bk_norm ?_
    exact hr

theorem g36_ok {ro : List ABlk} {O : Caller} {M : Means} (hM : M.Ok ⟨F, O⟩ ro) {v0 s1 x2 h r} (ho : O 36 [v0, (.s s1), (.i .i64 x2)] h = none) (hr : g36 M ro v0 s1 x2 ⟨h, h.length, h.length⟩ = some r) : callX ⟨F, O⟩ ro 36 [v0, (.s s1), (.i .i64 x2)] h = some r := by
  refine callX_of (F := ⟨F, O⟩) (fn := fn36) (g := g36 M ro v0 s1 x2) ho rfl rfl hr ?_
  clear ho
  clear hr
  intro m0 t0 ht hr
  have g0 : t0.get 0 = v0 := ht 0
  have g1 : t0.get 1 = (.s s1) := ht 1
  have g2 : t0.get 2 = (.i .i64 x2) := ht 2
  clear ht
  unfold g36 at hr
  refine w_seq ?_
  refine w_ops ?_
  have hq := bindP_inv hr
  clear hr
  obtain ⟨v5, m_1, e5, hr⟩ := hq
  refine wo_step (v := v5) (s_bx g2 e5) ?_
  have hq := bindP_inv hr
  clear hr
  obtain ⟨v6, m_2, e6, hr⟩ := hq
  refine wo_step (v := v6) (s_al e6) ?_
  have hq := bindP_inv hr
  clear hr
  obtain ⟨v7, m_3, e7, hr⟩ := hq
  refine wo_step (v := v7) (s_al e7) ?_
  refine wo_nil ?_
  refine nx_norm ?_
  refine w_seq ?_
  refine w_ops ?_
  refine wo_step (v := v0) (s_pure (p_mv g0)) ?_
  refine wo_step (v := (.s s1)) (s_pure (p_mv g1)) ?_
  have hq := bindP_inv hr
  clear hr
  obtain ⟨v16, m_4, e16, hr⟩ := hq
  refine wo_step (v := v16) (s_call (mc rfl (mc rfl mn)) (callM_le hM.call e16)) ?_
  refine wo_step (v := v16) (s_pure (p_mv rfl)) ?_
  have hq := bindO_inv hr
  clear hr
  obtain ⟨v17, e17, hr⟩ := hq
  refine wo_step (v := v17) (s_pure (o_ext rfl e17)) ?_
  have hq := bindO_inv hr
  clear hr
  obtain ⟨v18, e18, hr⟩ := hq
  have hq := asI_inv hr
  clear hr
  obtain ⟨x18, rfl, hr⟩ := hq
  refine wo_step (v := (.i .i64 x18)) (s_pure (o_ext rfl e18)) ?_
  have hq := bindO_inv hr
  clear hr
  obtain ⟨v19, e19, hr⟩ := hq
  have hq := asI_inv hr
  clear hr
  obtain ⟨x19, rfl, hr⟩ := hq
  refine wo_step (v := (.i .i64 x19)) (s_pure (o_ext rfl e19)) ?_
  refine wo_step (v := v17) (s_pure (p_mv rfl)) ?_
  refine wo_step (v := (.i .i64 x18)) (s_pure (p_mv rfl)) ?_
  refine wo_step (v := (.i .i64 x19)) (s_pure (p_mv rfl)) ?_
  refine wo_nil ?_
  refine nx_norm ?_
  refine w_seq ?_
  refine w_seq ?_
  refine w_ops ?_
  refine wo_step (v := (.i .i64 x19)) (s_pure (p_mv rfl)) ?_
  have hq := forceB_inv hr
  clear hr
  obtain ⟨c21, e21, hr⟩ := hq
  refine wo_step (v := (.b c21)) (s_pure (p_bin rfl rfl (b_neq.trans (cb e21)))) ?_
  refine wo_nil ?_
  refine nx_norm ?_
  have hq := cond_inv hr
  clear hr
  rcases hq with ⟨rfl, hr⟩ | ⟨rfl, hr⟩
  · refine w_condT rfl ?_
    refine w_seq ?_
    refine w_ops ?_
    refine wo_step (v := (.i .i64 x19)) (s_pure (p_mv rfl)) ?_
    have hq := bindP_inv hr
    clear hr
    obtain ⟨vn, m_5, en, hr⟩ := hq
    refine wo_stepN (s_st rfl rfl en) ?_
    have hq := bindP_inv hr
    clear hr
    obtain ⟨vn_1, m_6, en_1, hr⟩ := hq
    refine wo_stepN (s_st rfl rfl en_1) ?_
    refine wo_nil ?_
    refine nx_norm ?_
    refine w_ret ?_
    refine nx_ret ?_
    have hq := bindO_inv hr
    clear hr
    obtain ⟨vr, er, hr⟩ := hq
    have hq := bindO_inv hr
    clear hr
    obtain ⟨vr_1, er_1, hr⟩ := hq
    exact qf ret_ok (rc rfl er (rc rfl er_1 rn)) hr
  · refine w_condF rfl ?_
    refine w_skip ?_
    refine nx_norm ?_
    refine w_seq ?_
    refine w_seq ?_
    refine w_ops ?_
    refine wo_step (v := v17) (s_pure (p_mv rfl)) ?_
    refine wo_step (v := (.i .i64 x18)) (s_pure (p_mv rfl)) ?_
    have hq := bindP_inv hr
    clear hr
    obtain ⟨v25, m_7, e25, hr⟩ := hq
    refine wo_step (v := v25) (s_call (mc rfl (mc rfl mn)) (callM_le hM.call e25)) ?_
    refine wo_nil ?_
    refine nx_norm ?_
    refine w_block ?_
    refine w_rngK hM.call rfl hr ⟨trivial, gl rfl, gl rfl, gl rfl⟩ ?_
    clear hr
    intro ex m_12 hr
    have hq := onE_inv hr
    clear hr
    rcases hq with ⟨rfl, hr⟩ | ⟨rfl, hr⟩ | ⟨ix, rfl, hr⟩
    · refine bk_norm ?_
      refine nx_norm ?_
      refine w_seq ?_
      refine w_ops ?_
      have hq := bindP_inv hr
      clear hr
      obtain ⟨vn_4, m_13, en_4, hr⟩ := hq
      refine wo_stepN (s_st rfl rfl en_4) ?_
      have hq := bindP_inv hr
      clear hr
      obtain ⟨vn_5, m_14, en_5, hr⟩ := hq
      refine wo_stepN (s_st rfl rfl en_5) ?_
      refine wo_nil ?_
      refine nx_norm ?_
      refine w_ret ?_
      have hq := bindO_inv hr
      clear hr
      obtain ⟨vr_2, er_3, hr⟩ := hq
      have hq := bindO_inv hr
      clear hr
      obtain ⟨vr_3, er_4, hr⟩ := hq
      exact qf ret_ok (rc rfl er_3 (rc rfl er_4 rn)) hr
    · refine bk_ret ?_
      refine nx_ret ?_
      have hq := bindO_inv hr
      clear hr
      obtain ⟨vr_4, er_5, hr⟩ := hq
      have hq := bindO_inv hr
      clear hr
      obtain ⟨vr_5, er_6, hr⟩ := hq
      exact qf ret_ok (rc rfl er_5 (rc rfl er_6 rn)) hr
    · cases hr

/- dibber/dibberref03.Letter -/
abbrev g37_J0 (v0 : AVal) (s1 : List UInt8) (x2 : Int) (m_1 : Mm) (o : Bool) (m1 : Mm) (t1 : Tr) : Prop :=
  match o with
  | c20 => m_1 = m1 ∧ t1.get 20 = (.b c20) ∧ t1.get 0 = v0 ∧ t1.get 1 = (.s s1) ∧ t1.get 2 = (.i .i64 x2)
def g37 (M : Means) (ro : List ABlk) (v0 : AVal) (s1 : List UInt8) (x2 : Int) (m0 : Mm) : Option (AVal × Heap × Nat × Nat) :=
  bindP (callM M.call m0 76 [v0, (.s s1)]) fun v11 m_1 =>
  asI .i64 v11 fun x11 =>
  forceB (!eqI x11 0) fun c13 =>
  cond c13 (
    finM m0.h.length (tupA [(.s []), (.i .i64 x11)]) m_1) (
    forceB (ltI x2 0) fun c16 =>
    bindO (cond c16 (
      some true) (
      forceB (!ltI x2 100000) fun c19 =>
      some c19)) fun c20 =>
    cond c20 (
      finM m0.h.length (tupA [(.s []), (.i .i64 4)]) m_1) (
      bindO (evP .e (.ixStr (.c (.s s1)) (.c (.i .i64 0)))) fun v23 =>
      asI .u8 v23 fun x23 =>
      forceI (wr .u8 (x23 - 97)) fun x24 =>
      forceI (wr .i64 x24) fun x25 =>
      forceI (wr .i64 (x2 + 1)) fun x27 =>
      bindP (callM M.call m_1 77 [v0, (.i .i64 x25), (.i .i64 x27)]) fun v28 m_2 =>
      bindO (evP .e (.slS 1 (.c v28) (some (.c (.i .i64 x2))) none none)) fun v30 =>
      bindO (btsM ro m_2 v30) fun v31 =>
      asS v31 fun s31 =>
      finM m0.h.length (tupA [(.s s31), (.i .i64 0)]) m_2))

theorem g37_ok {ro : List ABlk} {O : Caller} {M : Means} (hM : M.Ok ⟨F, O⟩ ro) {v0 s1 x2 h r} (ho : O 37 [v0, (.s s1), (.i .i64 x2)] h = none) (hr : g37 M ro v0 s1 x2 ⟨h, h.length, h.length⟩ = some r) : callX ⟨F, O⟩ ro 37 [v0, (.s s1), (.i .i64 x2)] h = some r := by
  refine callX_of (F := ⟨F, O⟩) (fn := fn37) (g := g37 M ro v0 s1 x2) ho rfl rfl hr ?_
  clear ho
  clear hr
  intro m0 t0 ht hr
  have g0 : t0.get 0 = v0 := ht 0
  have g1 : t0.get 1 = (.s s1) := ht 1
  have g2 : t0.get 2 = (.i .i64 x2) := ht 2
  clear ht
  unfold g37 at hr
  refine w_seq ?_
  refine w_ops ?_
  refine wo_step (v := (AVal.s [])) (s_pure (p_mv rfl)) ?_
  refine wo_step (v := (.i .i64 0)) (s_pure (p_mv rfl)) ?_
  refine wo_nil ?_
  refine nx_norm ?_
  refine w_seq ?_
  refine w_ops ?_
  refine wo_step (v := v0) (s_pure (p_mv g0)) ?_
  refine wo_step (v := (.s s1)) (s_pure (p_mv g1)) ?_
  have hq := bindP_inv hr
  clear hr
  obtain ⟨v11, m_1, e11, hr⟩ := hq
  have hq := asI_inv hr
  clear hr
  obtain ⟨x11, rfl, hr⟩ := hq
  refine wo_step (v := (.i .i64 x11)) (s_call (mc rfl (mc rfl mn)) (callM_le hM.call e11)) ?_
  refine wo_step (v := (.i .i64 x11)) (s_pure (p_mv rfl)) ?_
  refine wo_nil ?_
  refine nx_norm ?_
  refine w_seq ?_
  refine w_seq ?_
  refine w_ops ?_
  refine wo_step (v := (.i .i64 x11)) (s_pure (p_mv rfl)) ?_
  have hq := forceB_inv hr
  clear hr
  obtain ⟨c13, e13, hr⟩ := hq
  refine wo_step (v := (.b c13)) (s_pure (p_bin rfl rfl (b_neq.trans (cb e13)))) ?_
  refine wo_nil ?_
  refine nx_norm ?_
  have hq := cond_inv hr
  clear hr
  rcases hq with ⟨rfl, hr⟩ | ⟨rfl, hr⟩
  · refine w_condT rfl ?_
    refine w_seq ?_
    refine w_ops ?_
    refine wo_step (v := (.i .i64 x11)) (s_pure (p_mv rfl)) ?_
    refine wo_step (v := (AVal.s [])) (s_pure (p_mv rfl)) ?_
    refine wo_step (v := (.i .i64 x11)) (s_pure (p_mv rfl)) ?_
    refine wo_nil ?_
    refine nx_norm ?_
    refine w_ret ?_
    refine nx_ret ?_
    exact qf ret_ok (rt rfl (rt rfl rn)) hr
  · refine w_condF rfl ?_
    refine w_skip ?_
    refine nx_norm ?_
    refine w_seq ?_
    refine w_seq ?_
    refine w_ops ?_
    refine wo_step (v := (.i .i64 x2)) (s_pure (p_mv g2)) ?_
    have hq := forceB_inv hr
    clear hr
    obtain ⟨c16, e16, hr⟩ := hq
    refine wo_step (v := (.b c16)) (s_pure (p_bin rfl rfl (b_lss.trans (cb e16)))) ?_
    refine wo_step (v := (.b c16)) (s_pure (p_mv rfl)) ?_
    have hq := bindO_inv hr
    clear hr
    obtain ⟨o, hr, hk⟩ := hq
    refine wo_join 3 (g37_J0 v0 s1 x2 m_1 o) ?_ ?_
    · clear hk
      have hq := cond_inv hr
      clear hr
      rcases hq with ⟨rfl, hr⟩ | ⟨rfl, hr⟩
      · refine wo_skip (v := (.b true)) rfl rfl ?_
        refine wo_skip (v := (.b true)) rfl rfl ?_
        refine wo_step (v := (.b true)) (s_pure (p_pickT rfl rfl)) ?_
        refine wo_nil ?_
        cases hr
        exact ⟨_, _, rfl, rfl, gl rfl, gl g0, gl g1, gl g2⟩
      · refine wo_take (v := (.i .i64 x2)) rfl (s_pure (p_mv g2)) ?_
        have hq := forceB_inv hr
        clear hr
        obtain ⟨c19, e19, hr⟩ := hq
        refine wo_take (v := (.b c19)) rfl (s_pure (p_bin rfl rfl (b_geq.trans (cb e19)))) ?_
        refine wo_step (v := (.b c19)) (s_pure (p_pickF rfl rfl)) ?_
        refine wo_nil ?_
        cases hr
        exact ⟨_, _, rfl, rfl, gl rfl, gl g0, gl g1, gl g2⟩
    · clear hr
      have hr := hk
      clear hk
      obtain ⟨c20, ho⟩ : ∃ z, z = o := ⟨_, rfl⟩
      subst ho
      rintro mm t_1 ⟨rfl, g20, g0, g1, g2⟩
      refine wo_nil ?_
      refine nx_norm ?_
      have hq := cond_inv hr
      clear hr
      rcases hq with ⟨rfl, hr⟩ | ⟨rfl, hr⟩
      · refine w_condT g20 ?_
        refine w_seq ?_
        refine w_ops ?_
        refine wo_step (v := (AVal.s [])) (s_pure (p_mv rfl)) ?_
        refine wo_step (v := (.i .i64 4)) (s_pure (p_mv rfl)) ?_
        refine wo_nil ?_
        refine nx_norm ?_
        refine w_ret ?_
        refine nx_ret ?_
        exact qf ret_ok (rt rfl (rt rfl rn)) hr
      · refine w_condF g20 ?_
        refine w_skip ?_
        refine nx_norm ?_
        refine w_seq ?_
        refine w_ops ?_
        refine wo_step (v := v0) (s_pure (p_mv g0)) ?_
        refine wo_step (v := (.s s1)) (s_pure (p_mv g1)) ?_
        have hq := bindO_inv hr
        clear hr
        obtain ⟨v23, e23, hr⟩ := hq
        have hq := asI_inv hr
        clear hr
        obtain ⟨x23, rfl, hr⟩ := hq
        refine wo_step (v := (.i .u8 x23)) (s_pure (o_ixStr rfl rfl e23)) ?_
        have hq := forceI_inv hr
        clear hr
        obtain ⟨x24, e24, hr⟩ := hq
        refine wo_step (v := (.i .u8 x24)) (s_pure (p_bin rfl rfl (b_sub.trans (ci e24)))) ?_
        have hq := forceI_inv hr
        clear hr
        obtain ⟨x25, e25, hr⟩ := hq
        refine wo_step (v := (.i .i64 x25)) (s_pure ((p_conv rfl).trans (ci e25))) ?_
        refine wo_step (v := (.i .i64 x2)) (s_pure (p_mv g2)) ?_
        have hq := forceI_inv hr
        clear hr
        obtain ⟨x27, e27, hr⟩ := hq
        refine wo_step (v := (.i .i64 x27)) (s_pure (p_bin rfl rfl (b_add.trans (ci e27)))) ?_
        have hq := bindP_inv hr
        clear hr
        obtain ⟨v28, m_2, e28, hr⟩ := hq
        refine wo_step (v := v28) (s_call (mc rfl (mc rfl (mc rfl mn))) (callM_le hM.call e28)) ?_
        refine wo_step (v := (.i .i64 x2)) (s_pure (p_mv g2)) ?_
        have hq := bindO_inv hr
        clear hr
        obtain ⟨v30, e30, hr⟩ := hq
        refine wo_step (v := v30) (s_pure (o_slS rfl (os rfl) on on e30)) ?_
        have hq := bindO_inv hr
        clear hr
        obtain ⟨v31, e31, hr⟩ := hq
        have hq := asS_inv hr
        clear hr
        obtain ⟨s31, rfl, hr⟩ := hq
        refine wo_step (v := (.s s31)) (s_bts rfl e31) ?_
        refine wo_step (v := (.s s31)) (s_pure (p_mv rfl)) ?_
        refine wo_step (v := (.i .i64 0)) (s_pure (p_mv rfl)) ?_
        refine wo_nil ?_
        refine nx_norm ?_
        refine w_ret ?_
        exact qf ret_ok (rt rfl (rt rfl rn)) hr

/- dibber/vine.Factors -/
abbrev g38_J0 (x2 : Int) (v20 : AVal) (x21 : Int) (m_1 : Mm) (o : Bool) (m1 : Mm) (t1 : Tr) : Prop :=
  match o with
  | c31 => m_1 = m1 ∧ t1.get 31 = (.b c31) ∧ t1.get 2 = (.i .i64 x2) ∧ t1.get 8 = v20 ∧ t1.get 9 = (.i .i64 x21)
abbrev k38a0 : ACode := (.ops [(.mk (some 13) none (.pure (.mv (.t 36))))])
abbrev k38c0 : ACode := (.block 1 (.ops [(.mk (some 37) none (.ld true 1 (.t 11))), (.mk (some 38) none (.pure (.mv (.t 13)))), (.mk (some 39) none (.bsl 5 1 [(.i .u8 0)] 1 [((0, 1), (.t 38))])), (.mk (some 40) none (.app 5 1 1 [(.i .u8 0)] (.t 37) (.t 39))), (.mk none none (.st 1 (.t 11) (.t 40)))]))
abbrev g38_P0 (v11 : AVal) (t1 : Tr) : Prop := True ∧ t1.get 11 = v11
def g38_r0 (M : Means) (ro : List ABlk) (v11 : AVal) (b : Nat) (v35 : AVal) (v36 : AVal) (m0 : Mm) : Option (AVal × Heap × Nat × Nat) :=
  bindO (rndB b m0) fun m_4 =>
  bindO (ldM ro m_4 true 1 v11) fun v37 =>
  bindP (stepM ro m_4 (.bsl 5 1 [(AVal.i IntKind.u8 0)] 1 [((0, 1), .c v36)])) fun v39 m_5 =>
  bindP (stepM ro m_5 (.app 5 1 1 [(AVal.i IntKind.u8 0)] (.c v37) (.c v39))) fun v40 m_6 =>
  bindP (stepM ro m_6 (.st 1 (.c v11) (.c v40))) fun vn m_7 =>
  rndE m0.h.length b .norm m_7
abbrev g38_I1 (x2 : Int) (v11 : AVal) (v41 : AVal) (s : Int × Mm) (m1 : Mm) (t1 : Tr) : Prop :=
  match s with
  | (x15, m_10) => m_10 = m1 ∧ t1.get 15 = (.i .i64 x15) ∧ t1.get 2 = (.i .i64 x2) ∧ t1.get 11 = v11 ∧ t1.get 14 = v41
abbrev g38_J1 (x2 : Int) (v11 : AVal) (v41 : AVal) (o : Mm) (e : AExit) (m1 : Mm) (t1 : Tr) : Prop :=
  match o with
  | mo => e = (.exit 2) ∧ mo = m1 ∧ t1.get 14 = v41
def g38_b1 (M : Means) (ro : List ABlk) (x2 : Int) (v11 : AVal) (v41 : AVal) (x15 : Int) (m_10 : Mm) : Option ((Int × Mm) ⊕ (Mm)) :=
  bindO (ldM ro m_10 true 1 v11) fun v44 =>
  bindO (evP .e (.len false (.c v44))) fun v45 =>
  asI .i64 v45 fun x45 =>
  forceB (!ltI x45 x15) fun c46 =>
  cond c46 (
    bindO (ldM ro m_10 true 1 v11) fun v50 =>
    forceI (wr .i64 (x15 - x2)) fun x53 =>
    bindO (evP .e (.slS 1 (.c v50) (some (.c (.i .i64 x53))) (some (.c (.i .i64 x15))) none)) fun v55 =>
    bindO (btsM ro m_10 v55) fun v56 =>
    asS v56 fun s56 =>
    bindP (stepM ro m_10 (.mup (.c v41) (.c (.s s56)) (.c (.b true)))) fun vn_1 m_11 =>
    forceI (wr .i64 (x15 + 1)) fun x48 =>
    some (.inl (x48, m_11))) (
    some (.inr m_10))
noncomputable def g38 (M : Means) (ro : List ABlk) (v0 : AVal) (s1 : List UInt8) (x2 : Int) (m0 : Mm) : Option (AVal × Heap × Nat × Nat) :=
  bindP (callM M.call m0 74 [v0, (.s s1)]) fun v19 m_1 =>
  bindO (evP .e (.ext 0 (.c v19))) fun v20 =>
  bindO (evP .e (.ext 1 (.c v19))) fun v21 =>
  asI .i64 v21 fun x21 =>
  bindO (evP .e (.ext 2 (.c v19))) fun v22 =>
  asI .i64 v22 fun x22 =>
  forceB (!eqI x22 0) fun c24 =>
  cond c24 (
    finM m0.h.length (tupA [(.i .i64 0), (.i .i64 x22)]) m_1) (
    forceB (ltI x2 1) fun c27 =>
    bindO (cond c27 (
      some true) (
      forceB (ltI 10 x2) fun c30 =>
      some c30)) fun c31 =>
    cond c31 (
      finM m0.h.length (tupA [(.i .i64 0), (.i .i64 2)]) m_1) (
      bindP (stepM ro m_1 (.al 52 [AVal.nsl])) fun v11 m_2 =>
      bindP (callM M.call m_2 75 [v20, (.i .i64 x21)]) fun v34 m_3 =>
      rngK M.call (g38_P0 v11) [35, 36] k38a0 k38c0 v34 m_3 fun ⟨ex, m_8⟩ => onE ex (
        bindP (stepM ro m_8 .mkm) fun v41 m_9 =>
        bindO (M.loop (S := Int × Mm) (R := Mm) (fun s => g38_b1 M ro x2 v11 v41 s.1 s.2) (x2, m_9)) fun m_12 =>
        bindP (stepM ro m_12 (.mln (.c v41))) fun v58 m_13 =>
        asI .i64 v58 fun x58 =>
        finM m0.h.length (tupA [(.i .i64 x58), (.i .i64 0)]) m_13) (
        none) (fun ix =>
        none)))

theorem g38_r0_ok {ro : List ABlk} {O : Caller} {M : Means} (hM : M.Ok ⟨F, O⟩ ro) {v11} {v35} {v36} {b h r bk t p} (hb : lget h b = some (some bk)) (hg : bk.g = some (.lp ⟨t, [35, 36], k38a0, k38c0⟩ .ready p)) (hP : g38_P0 v11 t) (hr : g38_r0 M ro v11 b v35 v36 ⟨h, h.length, h.length⟩ = some r) : roundX ⟨F, O⟩ ro b [v35, v36] h = some r := by
  refine roundX_on (F := ⟨F, O⟩) (g := g38_r0 M ro v11 b v35 v36) hb hg rfl hr ?_
  clear hb hg hr
  intro m0 t0 ht hr
  obtain ⟨-, g11⟩ := hP
  have g35 : t0.get 35 = v35 := by rw [ht]; simp [putPs, get_set]
  have g36 : t0.get 36 = v36 := by rw [ht]; simp [putPs, get_set]
  have g11 : t0.get 11 = v11 := by rw [ht]; simp only [putPs, get_set]; simpa using g11
  clear ht
  unfold g38_r0 at hr
  show W _ _ k38a0 _ _
  unfold k38a0
  refine w_ops ?_
  refine wo_step (v := v36) (s_pure (p_mv g36)) ?_
  refine wo_nil ?_
  have hq := bindO_inv hr
  clear hr
  obtain ⟨m_4, eb, hr⟩ := hq
  refine qb eb ?_
  unfold k38c0
  refine w_block ?_
  refine w_ops ?_
  have hq := bindO_inv hr
  clear hr
  obtain ⟨v37, e37, hr⟩ := hq
  refine wo_step (v := v37) (s_ld g11 e37) ?_
  refine wo_step (v := v36) (s_pure (p_mv rfl)) ?_
  have hq := bindP_inv hr
  clear hr
  obtain ⟨v39, m_5, e39, hr⟩ := hq
  refine wo_step (v := v39) (s_bsl (qc rfl qn) e39) ?_
  have hq := bindP_inv hr
  clear hr
  obtain ⟨v40, m_6, e40, hr⟩ := hq
  refine wo_step (v := v40) (s_app rfl rfl e40) ?_
  have hq := bindP_inv hr
  clear hr
  obtain ⟨vn, m_7, en, hr⟩ := hq
  refine wo_stepN (s_st g11 rfl en) ?_
  refine wo_nil ?_
  refine bk_norm ?_
  exact hr

theorem g38_ok {ro : List ABlk} {O : Caller} {M : Means} (hM : M.Ok ⟨F, O⟩ ro) {v0 s1 x2 h r} (ho : O 38 [v0, (.s s1), (.i .i64 x2)] h = none) (hr : g38 M ro v0 s1 x2 ⟨h, h.length, h.length⟩ = some r) : callX ⟨F, O⟩ ro 38 [v0, (.s s1), (.i .i64 x2)] h = some r := by
  refine callX_of (F := ⟨F, O⟩) (fn := fn38) (g := g38 M ro v0 s1 x2) ho rfl rfl hr ?_
  clear ho
  clear hr
  intro m0 t0 ht hr
  have g0 : t0.get 0 = v0 := ht 0
  have g1 : t0.get 1 = (.s s1) := ht 1
  have g2 : t0.get 2 = (.i .i64 x2) := ht 2
  clear ht
  unfold g38 at hr
  refine w_seq ?_
  refine w_ops ?_
  refine wo_step (v := (.i .i64 0)) (s_pure (p_mv rfl)) ?_
  refine wo_step (v := (.i .i64 0)) (s_pure (p_mv rfl)) ?_
  refine wo_nil ?_
  refine nx_norm ?_
  refine w_seq ?_
  refine w_ops ?_
  refine wo_step (v := v0) (s_pure (p_mv g0)) ?_
  refine wo_step (v := (.s s1)) (s_pure (p_mv g1)) ?_
  have hq := bindP_inv hr
  clear hr
  obtain ⟨v19, m_1, e19, hr⟩ := hq
  refine wo_step (v := v19) (s_call (mc rfl (mc rfl mn)) (callM_le hM.call e19)) ?_
  refine wo_step (v := v19) (s_pure (p_mv rfl)) ?_
  have hq := bindO_inv hr
  clear hr
  obtain ⟨v20, e20, hr⟩ := hq
  refine wo_step (v := v20) (s_pure (o_ext rfl e20)) ?_
  have hq := bindO_inv hr
  clear hr
  obtain ⟨v21, e21, hr⟩ := hq
  have hq := asI_inv hr
  clear hr
  obtain ⟨x21, rfl, hr⟩ := hq
  refine wo_step (v := (.i .i64 x21)) (s_pure (o_ext rfl e21)) ?_
  have hq := bindO_inv hr
  clear hr
  obtain ⟨v22, e22, hr⟩ := hq
  have hq := asI_inv hr
  clear hr
  obtain ⟨x22, rfl, hr⟩ := hq
  refine wo_step (v := (.i .i64 x22)) (s_pure (o_ext rfl e22)) ?_
  refine wo_step (v := v20) (s_pure (p_mv rfl)) ?_
  refine wo_step (v := (.i .i64 x21)) (s_pure (p_mv rfl)) ?_
  refine wo_step (v := (.i .i64 x22)) (s_pure (p_mv rfl)) ?_
  refine wo_nil ?_
  refine nx_norm ?_
  refine w_seq ?_
  refine w_seq ?_
  refine w_ops ?_
  refine wo_step (v := (.i .i64 x22)) (s_pure (p_mv rfl)) ?_
  have hq := forceB_inv hr
  clear hr
  obtain ⟨c24, e24, hr⟩ := hq
  refine wo_step (v := (.b c24)) (s_pure (p_bin rfl rfl (b_neq.trans (cb e24)))) ?_
  refine wo_nil ?_
  refine nx_norm ?_
  have hq := cond_inv hr
  clear hr
  rcases hq with ⟨rfl, hr⟩ | ⟨rfl, hr⟩
  · refine w_condT rfl ?_
    refine w_seq ?_
    refine w_ops ?_
    refine wo_step (v := (.i .i64 x22)) (s_pure (p_mv rfl)) ?_
    refine wo_step (v := (.i .i64 0)) (s_pure (p_mv rfl)) ?_
    refine wo_step (v := (.i .i64 x22)) (s_pure (p_mv rfl)) ?_
    refine wo_nil ?_
    refine nx_norm ?_
    refine w_ret ?_
    refine nx_ret ?_
    exact qf ret_ok (rt rfl (rt rfl rn)) hr
  · refine w_condF rfl ?_
    refine w_skip ?_
    refine nx_norm ?_
    refine w_seq ?_
    refine w_seq ?_
    refine w_ops ?_
    refine wo_step (v := (.i .i64 x2)) (s_pure (p_mv g2)) ?_
    have hq := forceB_inv hr
    clear hr
    obtain ⟨c27, e27, hr⟩ := hq
    refine wo_step (v := (.b c27)) (s_pure (p_bin rfl rfl (b_lss.trans (cb e27)))) ?_
    refine wo_step (v := (.b c27)) (s_pure (p_mv rfl)) ?_
    have hq := bindO_inv hr
    clear hr
    obtain ⟨o, hr, hk⟩ := hq
    refine wo_join 3 (g38_J0 x2 v20 x21 m_1 o) ?_ ?_
    · clear hk
      have hq := cond_inv hr
      clear hr
      rcases hq with ⟨rfl, hr⟩ | ⟨rfl, hr⟩
      · refine wo_skip (v := (.b true)) rfl rfl ?_
        refine wo_skip (v := (.b true)) rfl rfl ?_
        refine wo_step (v := (.b true)) (s_pure (p_pickT rfl rfl)) ?_
        refine wo_nil ?_
        cases hr
        exact ⟨_, _, rfl, rfl, gl rfl, gl g2, gl rfl, gl rfl⟩
      · refine wo_take (v := (.i .i64 x2)) rfl (s_pure (p_mv g2)) ?_
        have hq := forceB_inv hr
        clear hr
        obtain ⟨c30, e30, hr⟩ := hq
        refine wo_take (v := (.b c30)) rfl (s_pure (p_bin rfl rfl (b_gtr.trans (cb e30)))) ?_
        refine wo_step (v := (.b c30)) (s_pure (p_pickF rfl rfl)) ?_
        refine wo_nil ?_
        cases hr
        exact ⟨_, _, rfl, rfl, gl rfl, gl g2, gl rfl, gl rfl⟩
    · clear hr
      have hr := hk
      clear hk
      obtain ⟨c31, ho⟩ : ∃ z, z = o := ⟨_, rfl⟩
      subst ho
      rintro mm t_1 ⟨rfl, g31, g2, g8, g9⟩
      refine wo_nil ?_
      refine nx_norm ?_
      have hq := cond_inv hr
      clear hr
      rcases hq with ⟨rfl, hr⟩ | ⟨rfl, hr⟩
      · refine w_condT g31 ?_
        refine w_seq ?_
        refine w_ops ?_
        refine wo_step (v := (.i .i64 0)) (s_pure (p_mv rfl)) ?_
        refine wo_step (v := (.i .i64 2)) (s_pure (p_mv rfl)) ?_
        refine wo_nil ?_
        refine nx_norm ?_
        refine w_ret ?_
        refine nx_ret ?_
        exact qf ret_ok (rt rfl (rt rfl rn)) hr
      · refine w_condF g31 ?_
        refine w_skip ?_
        refine nx_norm ?_
        refine w_seq ?_
        refine w_ops ?_
        have hq := bindP_inv hr
        clear hr
        obtain ⟨v11, m_2, e11, hr⟩ := hq
        refine wo_step (v := v11) (s_al e11) ?_
        refine wo_nil ?_
        refine nx_norm ?_
        refine w_seq ?_
        refine w_seq ?_
        refine w_ops ?_
        refine wo_step (v := v20) (s_pure (p_mv g8)) ?_
        refine wo_step (v := (.i .i64 x21)) (s_pure (p_mv g9)) ?_
        have hq := bindP_inv hr
        clear hr
        obtain ⟨v34, m_3, e34, hr⟩ := hq
        refine wo_step (v := v34) (s_call (mc rfl (mc rfl mn)) (callM_le hM.call e34)) ?_
        refine wo_nil ?_
        refine nx_norm ?_
        refine w_block ?_
        refine w_rngK hM.call rfl hr ⟨trivial, gl rfl⟩ ?_
        clear hr
        intro ex m_8 hr
        have hq := onE_inv hr
        clear hr
        rcases hq with ⟨rfl, hr⟩ | ⟨rfl, hr⟩ | ⟨ix, rfl, hr⟩
        · refine bk_norm ?_
          refine nx_norm ?_
          refine w_seq ?_
          refine w_ops ?_
          have hq := bindP_inv hr
          clear hr
          obtain ⟨v41, m_9, e41, hr⟩ := hq
          refine wo_step (v := v41) (s_mkm e41) ?_
          refine wo_step (v := v41) (s_pure (p_mv rfl)) ?_
          refine wo_nil ?_
          refine nx_norm ?_
          refine w_seq ?_
          refine w_seq ?_
          refine w_ops ?_
          refine wo_step (v := (.i .i64 x2)) (s_pure (p_mv g2)) ?_
          refine wo_step (v := (.i .i64 x2)) (s_pure (p_mv rfl)) ?_
          refine wo_nil ?_
          refine nx_norm ?_
          refine w_block ?_
          have hq := bindO_inv hr
          clear hr
          obtain ⟨o_1, hl, hr⟩ := hq
          obtain ⟨n, hl⟩ := hM.loop _ _ _ hl
          refine jp_mono (w_loop _ (g38_I1 x2 v11 v41) (g38_J1 x2 v11 v41) ?_ n _ _ _ _ hl ⟨rfl, gl rfl, gl g2, gl rfl, gl rfl⟩) ?_
          · clear hr hl
            intro s mm_2 t_2 o hi hr
            obtain ⟨x15, m_10⟩ := s
            obtain ⟨rfl, g15, g2, g11, g14⟩ := hi
            unfold g38_b1 at hr
            refine w_seq ?_
            refine w_seq ?_
            refine w_ops ?_
            refine wo_step (v := (.i .i64 x15)) (s_pure (p_mv g15)) ?_
            have hq := bindO_inv hr
            clear hr
            obtain ⟨v44, e44, hr⟩ := hq
            refine wo_step (v := v44) (s_ld g11 e44) ?_
            have hq := bindO_inv hr
            clear hr
            obtain ⟨v45, e45, hr⟩ := hq
            have hq := asI_inv hr
            clear hr
            obtain ⟨x45, rfl, hr⟩ := hq
            refine wo_step (v := (.i .i64 x45)) (s_pure (o_len rfl e45)) ?_
            have hq := forceB_inv hr
            clear hr
            obtain ⟨c46, e46, hr⟩ := hq
            refine wo_step (v := (.b c46)) (s_pure (p_bin rfl rfl (b_leq.trans (cb e46)))) ?_
            refine wo_nil ?_
            refine nx_norm ?_
            have hq := cond_inv hr
            clear hr
            rcases hq with ⟨rfl, hr⟩ | ⟨rfl, hr⟩
            · refine w_condT rfl ?_
              refine w_skip ?_
              refine nx_norm ?_
              refine w_seq ?_
              refine w_block ?_
              refine w_ops ?_
              refine wo_step (v := v41) (s_pure (p_mv g14)) ?_
              have hq := bindO_inv hr
              clear hr
              obtain ⟨v50, e50, hr⟩ := hq
              refine wo_step (v := v50) (s_ld g11 e50) ?_
              refine wo_step (v := (.i .i64 x15)) (s_pure (p_mv g15)) ?_
              refine wo_step (v := (.i .i64 x2)) (s_pure (p_mv g2)) ?_
              have hq := forceI_inv hr
              clear hr
              obtain ⟨x53, e53, hr⟩ := hq
              refine wo_step (v := (.i .i64 x53)) (s_pure (p_bin rfl rfl (b_sub.trans (ci e53)))) ?_
              refine wo_step (v := (.i .i64 x15)) (s_pure (p_mv g15)) ?_
              have hq := bindO_inv hr
              clear hr
              obtain ⟨v55, e55, hr⟩ := hq
              refine wo_step (v := v55) (s_pure (o_slS rfl (os rfl) (os rfl) on e55)) ?_
              have hq := bindO_inv hr
              clear hr
              obtain ⟨v56, e56, hr⟩ := hq
              have hq := asS_inv hr
              clear hr
              obtain ⟨s56, rfl, hr⟩ := hq
              refine wo_step (v := (.s s56)) (s_bts rfl e56) ?_
              have hq := bindP_inv hr
              clear hr
              obtain ⟨vn_1, m_11, en_1, hr⟩ := hq
              refine wo_stepN (s_mup rfl rfl rfl en_1) ?_
              refine wo_nil ?_
              refine bk_norm ?_
              refine nx_norm ?_
              refine w_ops ?_
              refine wo_step (v := (.i .i64 x15)) (s_pure (p_mv g15)) ?_
              have hq := forceI_inv hr
              clear hr
              obtain ⟨x48, e48, hr⟩ := hq
              refine wo_step (v := (.i .i64 x48)) (s_pure (p_bin rfl rfl (b_add.trans (ci e48)))) ?_
              refine wo_step (v := (.i .i64 x48)) (s_pure (p_mv rfl)) ?_
              refine wo_nil ?_
              cases hr
              exact ⟨_, _, rfl, rfl, rfl, gl rfl, gl g2, gl g11, gl g14⟩
            · refine w_condF rfl ?_
              refine w_exit ?_
              refine nx_exit ?_
              cases hr
              exact ⟨_, _, rfl, ne_norm_exit, rfl, rfl, gl g14⟩
          · obtain ⟨m_12, ho⟩ : ∃ z, z = o_1 := ⟨_, rfl⟩
            subst ho
            rintro _ mm_1 t_3 ⟨rfl, rfl, g14⟩
            refine bk_hit ?_
            refine nx_norm ?_
            refine w_seq ?_
            refine w_ops ?_
            refine wo_step (v := v41) (s_pure (p_mv g14)) ?_
            have hq := bindP_inv hr
            clear hr
            obtain ⟨v58, m_13, e58, hr⟩ := hq
            have hq := asI_inv hr
            clear hr
            obtain ⟨x58, rfl, hr⟩ := hq
            refine wo_step (v := (.i .i64 x58)) (s_mln rfl e58) ?_
            refine wo_step (v := (.i .i64 x58)) (s_pure (p_mv rfl)) ?_
            refine wo_step (v := (.i .i64 0)) (s_pure (p_mv rfl)) ?_
            refine wo_nil ?_
            refine nx_norm ?_
            refine w_ret ?_
            exact qf ret_ok (rt rfl (rt rfl rn)) hr
        · cases hr
        · cases hr

/- dibber/dibberref03.Vine -/
abbrev g46_J0 (v0 : AVal) (m0 : Mm) (o : Bool) (m1 : Mm) (t1 : Tr) : Prop :=
  match o with
  | c11 => m0 = m1 ∧ t1.get 11 = (.b c11) ∧ t1.get 0 = v0
abbrev g46_I1 (v0 : AVal) (s : Int × Mm) (m1 : Mm) (t1 : Tr) : Prop :=
  match s with
  | (x3, m_1) => m_1 = m1 ∧ t1.get 3 = (.i .i64 x3) ∧ t1.get 0 = v0
abbrev g46_J1 (v0 : AVal) (o : (Mm ⊕ (Int × Mm))) (e : AExit) (m1 : Mm) (t1 : Tr) : Prop :=
  match o with
  | (.inl mo) => e = (.exit 0) ∧ mo = m1
  | (.inr (y2, mo)) => e = .ret ∧ mo = m1 ∧ t1.get 2 = (.i .i64 y2)
abbrev g46_J2 (v0 : AVal) (x3 : Int) (o : Bool × Mm) (m1 : Mm) (t1 : Tr) : Prop :=
  match o with
  | (c32, m_2) => m_2 = m1 ∧ t1.get 32 = (.b c32) ∧ t1.get 0 = v0 ∧ t1.get 3 = (.i .i64 x3)
def g46_b1 (M : Means) (ro : List ABlk) (v0 : AVal) (x3 : Int) (m_1 : Mm) : Option ((Int × Mm) ⊕ ((Mm ⊕ (Int × Mm)))) :=
  bindO (evP .e (.len false (.c v0))) fun v14 =>
  asI .i64 v14 fun x14 =>
  forceB (ltI x3 x14) fun c15 =>
  cond c15 (
    bindO (evP .e (.ixS 1 (.c v0) (.c (.i .i64 x3)))) fun v20 =>
    bindO (ldM ro m_1 true 1 v20) fun v21 =>
    asS v21 fun s21 =>
    bindO (evP .e (.len true (.c (.s s21)))) fun v22 =>
    asI .i64 v22 fun x22 =>
    forceB (ltI 8 x22) fun c23 =>
    bindO (cond c23 (
      some (true, m_1)) (
      bindO (evP .e (.ixS 1 (.c v0) (.c (.i .i64 x3)))) fun v28 =>
      bindO (ldM ro m_1 true 1 v28) fun v29 =>
      asS v29 fun s29 =>
      bindP (callM M.call m_1 85 [v0, (.s s29)]) fun v30 m_3 =>
      asB v30 fun c30 =>
      forceB (!c30) fun c31 =>
      some (c31, m_3))) fun ⟨c32, m_2⟩ =>
    cond c32 (
      some (.inr (.inr (5, m_2)))) (
      forceI (wr .i64 (x3 + 1)) fun x17 =>
      some (.inl (x17, m_2)))) (
    some (.inr (.inl m_1)))
def g46 (M : Means) (ro : List ABlk) (v0 : AVal) (m0 : Mm) : Option (AVal × Heap × Nat × Nat) :=
  bindO (evP .e (.len false (.c v0))) fun v5 =>
  asI .i64 v5 fun x5 =>
  forceB (ltI x5 1) fun c6 =>
  bindO (cond c6 (
    some true) (
    bindO (evP .e (.len false (.c v0))) fun v9 =>
    asI .i64 v9 fun x9 =>
    forceB (ltI 6 x9) fun c10 =>
    some c10)) fun c11 =>
  cond c11 (
    finM m0.h.length (tupA [(.i .i64 2)]) m0) (
    bindO (M.loop (S := Int × Mm) (R := (Mm ⊕ (Int × Mm))) (fun s => g46_b1 M ro v0 s.1 s.2) (0, m0)) fun o_2 => match o_2 with
    | (.inl m_4) =>
      finM m0.h.length (tupA [(.i .i64 0)]) m_4
    | (.inr (x2, m_5)) =>
      finM m0.h.length (tupA [(.i .i64 x2)]) m_5)

theorem g46_ok {ro : List ABlk} {O : Caller} {M : Means} (hM : M.Ok ⟨F, O⟩ ro) {v0 h r} (ho : O 46 [v0] h = none) (hr : g46 M ro v0 ⟨h, h.length, h.length⟩ = some r) : callX ⟨F, O⟩ ro 46 [v0] h = some r := by
  refine callX_of (F := ⟨F, O⟩) (fn := fn46) (g := g46 M ro v0) ho rfl rfl hr ?_
  clear ho
  clear hr
  intro m0 t0 ht hr
  have g0 : t0.get 0 = v0 := ht 0
  clear ht
  unfold g46 at hr
  refine w_seq ?_
  refine w_ops ?_
  refine wo_step (v := (.i .i64 0)) (s_pure (p_mv rfl)) ?_
  refine wo_nil ?_
  refine nx_norm ?_
  refine w_seq ?_
  refine w_seq ?_
  refine w_ops ?_
  refine wo_step (v := v0) (s_pure (p_mv g0)) ?_
  have hq := bindO_inv hr
  clear hr
  obtain ⟨v5, e5, hr⟩ := hq
  have hq := asI_inv hr
  clear hr
  obtain ⟨x5, rfl, hr⟩ := hq
  refine wo_step (v := (.i .i64 x5)) (s_pure (o_len rfl e5)) ?_
  have hq := forceB_inv hr
  clear hr
  obtain ⟨c6, e6, hr⟩ := hq
  refine wo_step (v := (.b c6)) (s_pure (p_bin rfl rfl (b_lss.trans (cb e6)))) ?_
  refine wo_step (v := (.b c6)) (s_pure (p_mv rfl)) ?_
  have hq := bindO_inv hr
  clear hr
  obtain ⟨o, hr, hk⟩ := hq
  refine wo_join 4 (g46_J0 v0 m0 o) ?_ ?_
  · clear hk
    have hq := cond_inv hr
    clear hr
    rcases hq with ⟨rfl, hr⟩ | ⟨rfl, hr⟩
    · refine wo_skip (v := (.b true)) rfl rfl ?_
      refine wo_skip (v := (.b true)) rfl rfl ?_
      refine wo_skip (v := (.b true)) rfl rfl ?_
      refine wo_step (v := (.b true)) (s_pure (p_pickT rfl rfl)) ?_
      refine wo_nil ?_
      cases hr
      exact ⟨_, _, rfl, rfl, gl rfl, gl g0⟩
    · refine wo_take (v := v0) rfl (s_pure (p_mv g0)) ?_
      have hq := bindO_inv hr
      clear hr
      obtain ⟨v9, e9, hr⟩ := hq
      have hq := asI_inv hr
      clear hr
      obtain ⟨x9, rfl, hr⟩ := hq
      refine wo_take (v := (.i .i64 x9)) rfl (s_pure (o_len rfl e9)) ?_
      have hq := forceB_inv hr
      clear hr
      obtain ⟨c10, e10, hr⟩ := hq
      refine wo_take (v := (.b c10)) rfl (s_pure (p_bin rfl rfl (b_gtr.trans (cb e10)))) ?_
      refine wo_step (v := (.b c10)) (s_pure (p_pickF rfl rfl)) ?_
      refine wo_nil ?_
      cases hr
      exact ⟨_, _, rfl, rfl, gl rfl, gl g0⟩
  · clear hr
    have hr := hk
    clear hk
    obtain ⟨c11, ho⟩ : ∃ z, z = o := ⟨_, rfl⟩
    subst ho
    rintro mm t_1 ⟨rfl, g11, g0⟩
    refine wo_nil ?_
    refine nx_norm ?_
    have hq := cond_inv hr
    clear hr
    rcases hq with ⟨rfl, hr⟩ | ⟨rfl, hr⟩
    · refine w_condT g11 ?_
      refine w_seq ?_
      refine w_ops ?_
      refine wo_step (v := (.i .i64 2)) (s_pure (p_mv rfl)) ?_
      refine wo_nil ?_
      refine nx_norm ?_
      refine w_ret ?_
      refine nx_ret ?_
      exact qf ret_ok (rt rfl rn) hr
    · refine w_condF g11 ?_
      refine w_skip ?_
      refine nx_norm ?_
      refine w_seq ?_
      refine w_seq ?_
      refine w_ops ?_
      refine wo_step (v := (.i .i64 0)) (s_pure (p_mv rfl)) ?_
      refine wo_nil ?_
      refine nx_norm ?_
      refine w_block ?_
      have hq := bindO_inv hr
      clear hr
      obtain ⟨o_2, hl, hr⟩ := hq
      obtain ⟨n, hl⟩ := hM.loop _ _ _ hl
      refine jp_mono (w_loop _ (g46_I1 v0) (g46_J1 v0) ?_ n _ _ _ _ hl ⟨rfl, gl rfl, gl g0⟩) ?_
      · clear hr hl
        intro s mm_4 t_2 o hi hr
        obtain ⟨x3, m_1⟩ := s
        obtain ⟨rfl, g3, g0⟩ := hi
        unfold g46_b1 at hr
        refine w_seq ?_
        refine w_seq ?_
        refine w_ops ?_
        refine wo_step (v := (.i .i64 x3)) (s_pure (p_mv g3)) ?_
        refine wo_step (v := v0) (s_pure (p_mv g0)) ?_
        have hq := bindO_inv hr
        clear hr
        obtain ⟨v14, e14, hr⟩ := hq
        have hq := asI_inv hr
        clear hr
        obtain ⟨x14, rfl, hr⟩ := hq
        refine wo_step (v := (.i .i64 x14)) (s_pure (o_len rfl e14)) ?_
        have hq := forceB_inv hr
        clear hr
        obtain ⟨c15, e15, hr⟩ := hq
        refine wo_step (v := (.b c15)) (s_pure (p_bin rfl rfl (b_lss.trans (cb e15)))) ?_
        refine wo_nil ?_
        refine nx_norm ?_
        have hq := cond_inv hr
        clear hr
        rcases hq with ⟨rfl, hr⟩ | ⟨rfl, hr⟩
        · refine w_condT rfl ?_
          refine w_skip ?_
          refine nx_norm ?_
          refine w_seq ?_
          refine w_block ?_
          refine w_seq ?_
          refine w_ops ?_
          refine wo_step (v := v0) (s_pure (p_mv g0)) ?_
          refine wo_step (v := (.i .i64 x3)) (s_pure (p_mv g3)) ?_
          have hq := bindO_inv hr
          clear hr
          obtain ⟨v20, e20, hr⟩ := hq
          refine wo_step (v := v20) (s_pure (o_ixS rfl rfl e20)) ?_
          have hq := bindO_inv hr
          clear hr
          obtain ⟨v21, e21, hr⟩ := hq
          have hq := asS_inv hr
          clear hr
          obtain ⟨s21, rfl, hr⟩ := hq
          refine wo_step (v := (.s s21)) (s_ld rfl e21) ?_
          have hq := bindO_inv hr
          clear hr
          obtain ⟨v22, e22, hr⟩ := hq
          have hq := asI_inv hr
          clear hr
          obtain ⟨x22, rfl, hr⟩ := hq
          refine wo_step (v := (.i .i64 x22)) (s_pure (o_len rfl e22)) ?_
          have hq := forceB_inv hr
          clear hr
          obtain ⟨c23, e23, hr⟩ := hq
          refine wo_step (v := (.b c23)) (s_pure (p_bin rfl rfl (b_gtr.trans (cb e23)))) ?_
          refine wo_step (v := (.b c23)) (s_pure (p_mv rfl)) ?_
          have hq := bindO_inv hr
          clear hr
          obtain ⟨o_1, hr, hk⟩ := hq
          refine wo_join 8 (g46_J2 v0 x3 o_1) ?_ ?_
          · clear hk
            have hq := cond_inv hr
            clear hr
            rcases hq with ⟨rfl, hr⟩ | ⟨rfl, hr⟩
            · refine wo_skip (v := (.b true)) rfl rfl ?_
              refine wo_skip (v := (.b true)) rfl rfl ?_
              refine wo_skip (v := (.b true)) rfl rfl ?_
              refine wo_skip (v := (.b true)) rfl rfl ?_
              refine wo_skip (v := (.b true)) rfl rfl ?_
              refine wo_skip (v := (.b true)) rfl rfl ?_
              refine wo_skip (v := (.b true)) rfl rfl ?_
              refine wo_step (v := (.b true)) (s_pure (p_pickT rfl rfl)) ?_
              refine wo_nil ?_
              cases hr
              exact ⟨_, _, rfl, rfl, gl rfl, gl g0, gl g3⟩
            · refine wo_take (v := v0) rfl (s_pure (p_mv g0)) ?_
              refine wo_take (v := v0) rfl (s_pure (p_mv g0)) ?_
              refine wo_take (v := (.i .i64 x3)) rfl (s_pure (p_mv g3)) ?_
              have hq := bindO_inv hr
              clear hr
              obtain ⟨v28, e28, hr⟩ := hq
              refine wo_take (v := v28) rfl (s_pure (o_ixS rfl rfl e28)) ?_
              have hq := bindO_inv hr
              clear hr
              obtain ⟨v29, e29, hr⟩ := hq
              have hq := asS_inv hr
              clear hr
              obtain ⟨s29, rfl, hr⟩ := hq
              refine wo_take (v := (.s s29)) rfl (s_ld rfl e29) ?_
              have hq := bindP_inv hr
              clear hr
              obtain ⟨v30, m_3, e30, hr⟩ := hq
              have hq := asB_inv hr
              clear hr
              obtain ⟨c30, rfl, hr⟩ := hq
              refine wo_take (v := (.b c30)) rfl (s_call (mc rfl (mc rfl mn)) (callM_le hM.call e30)) ?_
              have hq := forceB_inv hr
              clear hr
              obtain ⟨c31, e31, hr⟩ := hq
              refine wo_take (v := (.b c31)) rfl (s_pure ((p_not rfl).trans (cb e31))) ?_
              refine wo_step (v := (.b c31)) (s_pure (p_pickF rfl rfl)) ?_
              refine wo_nil ?_
              cases hr
              exact ⟨_, _, rfl, rfl, gl rfl, gl g0, gl g3⟩
          · clear hr
            have hr := hk
            clear hk
            obtain ⟨c32, m_2⟩ := o_1
            rintro mm_1 t_3 ⟨rfl, g32, g0, g3⟩
            refine wo_nil ?_
            refine nx_norm ?_
            have hq := cond_inv hr
            clear hr
            rcases hq with ⟨rfl, hr⟩ | ⟨rfl, hr⟩
            · refine w_condT g32 ?_
              refine w_seq ?_
              refine w_ops ?_
              refine wo_step (v := (.i .i64 5)) (s_pure (p_mv rfl)) ?_
              refine wo_nil ?_
              refine nx_norm ?_
              refine w_ret ?_
              refine bk_ret ?_
              refine nx_ret ?_
              cases hr
              exact ⟨_, _, rfl, ne_norm_ret, rfl, rfl, gl rfl⟩
            · refine w_condF g32 ?_
              refine w_skip ?_
              refine bk_norm ?_
              refine nx_norm ?_
              refine w_ops ?_
              refine wo_step (v := (.i .i64 x3)) (s_pure (p_mv g3)) ?_
              have hq := forceI_inv hr
              clear hr
              obtain ⟨x17, e17, hr⟩ := hq
              refine wo_step (v := (.i .i64 x17)) (s_pure (p_bin rfl rfl (b_add.trans (ci e17)))) ?_
              refine wo_step (v := (.i .i64 x17)) (s_pure (p_mv rfl)) ?_
              refine wo_nil ?_
              cases hr
              exact ⟨_, _, rfl, rfl, rfl, gl rfl, gl g0⟩
        · refine w_condF rfl ?_
          refine w_exit ?_
          refine nx_exit ?_
          cases hr
          exact ⟨_, _, rfl, ne_norm_exit, rfl, rfl⟩
      · rcases o_2 with o_2 | o_2
        · obtain ⟨m_4, ho⟩ : ∃ z, z = o_2 := ⟨_, rfl⟩
          subst ho
          rintro _ mm_2 t_4 ⟨rfl, rfl⟩
          refine bk_hit ?_
          refine nx_norm ?_
          refine w_seq ?_
          refine w_ops ?_
          refine wo_step (v := (.i .i64 0)) (s_pure (p_mv rfl)) ?_
          refine wo_nil ?_
          refine nx_norm ?_
          refine w_ret ?_
          exact qf ret_ok (rt rfl rn) hr
        · obtain ⟨x2, m_5⟩ := o_2
          rintro _ mm_3 t_5 ⟨rfl, rfl, g2⟩
          refine bk_ret ?_
          refine nx_ret ?_
          exact qf ret_ok (rt g2 rn) hr

/- (dibber/vine.rules).lengths -/
abbrev g48_I0 (x1 : Int) (v10 : AVal) (v13 : AVal) (x15 : Int) (s : Int × Mm) (m1 : Mm) (t1 : Tr) : Prop :=
  match s with
  | (x16, m_3) => m_3 = m1 ∧ t1.get 16 = (.i .i64 x16) ∧ t1.get 1 = (.i .i64 x1) ∧ t1.get 5 = v10 ∧ t1.get 6 = v13 ∧ t1.get 15 = (.i .i64 x15)
abbrev g48_J0 (x1 : Int) (v10 : AVal) (v13 : AVal) (x15 : Int) (o : Mm) (e : AExit) (m1 : Mm) (t1 : Tr) : Prop :=
  match o with
  | mo => e = (.exit 0) ∧ mo = m1 ∧ t1.get 1 = (.i .i64 x1) ∧ t1.get 5 = v10 ∧ t1.get 6 = v13
def g48_b0 (M : Means) (ro : List ABlk) (x1 : Int) (v10 : AVal) (v13 : AVal) (x15 : Int) (x16 : Int) (m_3 : Mm) : Option ((Int × Mm) ⊕ (Mm)) :=
  forceB (ltI x16 x15) fun c17 =>
  cond c17 (
    bindO (evP .e (.ixS 1 (.c v13) (.c (.i .i64 x16)))) fun v21 =>
    bindP (stepM ro m_3 (.st 1 (.c v21) (.c (.i .u64 1)))) fun vn m_4 =>
    forceI (wr .i64 (x16 + 1)) fun x22 =>
    some (.inl (x22, m_4))) (
    some (.inr m_3))
abbrev g48_I1 (v10 : AVal) (x1 : Int) (s : AVal × AVal × Int × Mm) (m1 : Mm) (t1 : Tr) : Prop :=
  match s with
  | (v6, v8, x26, m_7) => m_7 = m1 ∧ t1.get 6 = v6 ∧ t1.get 8 = v8 ∧ t1.get 26 = (.i .i64 x26) ∧ t1.get 5 = v10 ∧ t1.get 25 = (.i .i64 x1)
abbrev g48_J1 (v10 : AVal) (x1 : Int) (o : (AVal × Mm)) (e : AExit) (m1 : Mm) (t1 : Tr) : Prop :=
  match o with
  | (y8, mo) => e = (.exit 2) ∧ mo = m1 ∧ t1.get 8 = y8
def g48_b1 (M : Means) (ro : List ABlk) (v10 : AVal) (x1 : Int) (v6 : AVal) (v8 : AVal) (x26 : Int) (m_7 : Mm) : Option ((AVal × AVal × Int × Mm) ⊕ ((AVal × Mm))) :=
  forceB (ltI x26 x1) fun c27 =>
  cond c27 (
    bindP (stepM ro m_7 (.bsl 63 1 [AVal.nsl] 1 [((0, 1), .c v6)])) fun v29 m_8 =>
    bindP (callM M.call m_8 57 [v29, v10]) fun v31 m_9 =>
    bindO (evP .e (.ixS 1 (.c v31) (.c (.i .i64 0)))) fun v32 =>
    bindO (ldM ro m_9 true 1 v32) fun v33 =>
    bindP (stepM ro m_9 (.bsl 63 1 [AVal.nsl] 1 [((0, 1), .c v33)])) fun v36 m_10 =>
    bindP (stepM ro m_10 (.app 63 1 24 [AVal.nsl] (.c v8) (.c v36))) fun v37 m_11 =>
    forceI (wr .i64 (x26 + 1)) fun x38 =>
    some (.inl (v33, v37, x38, m_11))) (
    some (.inr (v8, m_7)))
def g48 (M : Means) (ro : List ABlk) (v0 : AVal) (x1 : Int) (m0 : Mm) : Option (AVal × Heap × Nat × Nat) :=
  bindP (callM M.call m0 55 [v0, (AVal.fn 56 [] [])]) fun v10 m_1 =>
  bindO (evP .e (.len false (.c v0))) fun v12 =>
  asI .i64 v12 fun x12 =>
  bindP (stepM ro m_1 (.mk 61 1 8 [(AVal.i IntKind.u64 0)] (.c (.i .i64 x12)) (.c (.i .i64 x12)))) fun v13 m_2 =>
  bindO (evP .e (.len false (.c v13))) fun v15 =>
  asI .i64 v15 fun x15 =>
  bindO (M.loop (S := Int × Mm) (R := Mm) (fun s => g48_b0 M ro x1 v10 v13 x15 s.1 s.2) (0, m_2)) fun m_5 =>
  bindP (stepM ro m_5 (.bsl 63 1 [AVal.nsl] 1 [((0, 1), .c v13)])) fun v24 m_6 =>
  bindO (M.loop (S := AVal × AVal × Int × Mm) (R := (AVal × Mm)) (fun s => g48_b1 M ro v10 x1 s.1 s.2.1 s.2.2.1 s.2.2.2) (v13, v24, 0, m_6)) fun ⟨v8_1, m_12⟩ =>
  finM m0.h.length (tupA [v8_1]) m_12

theorem g48_ok {ro : List ABlk} {O : Caller} {M : Means} (hM : M.Ok ⟨F, O⟩ ro) {v0 x1 h r} (ho : O 48 [v0, (.i .i64 x1)] h = none) (hr : g48 M ro v0 x1 ⟨h, h.length, h.length⟩ = some r) : callX ⟨F, O⟩ ro 48 [v0, (.i .i64 x1)] h = some r := by
  refine callX_of (F := ⟨F, O⟩) (fn := fn48) (g := g48 M ro v0 x1) ho rfl rfl hr ?_
  clear ho
  clear hr
  intro m0 t0 ht hr
  have g0 : t0.get 0 = v0 := ht 0
  have g1 : t0.get 1 = (.i .i64 x1) := ht 1
  clear ht
  unfold g48 at hr
  refine w_seq ?_
  refine w_ops ?_
  refine wo_step (v := AVal.nsl) (s_pure (p_mv rfl)) ?_
  refine wo_nil ?_
  refine nx_norm ?_
  refine w_seq ?_
  refine w_ops ?_
  refine wo_step (v := v0) (s_pure (p_mv g0)) ?_
  have hq := bindP_inv hr
  clear hr
  obtain ⟨v10, m_1, e10, hr⟩ := hq
  refine wo_step (v := v10) (s_call (mc rfl (mc rfl mn)) (callM_le hM.call e10)) ?_
  refine wo_step (v := v10) (s_pure (p_mv rfl)) ?_
  refine wo_nil ?_
  refine nx_norm ?_
  refine w_seq ?_
  refine w_ops ?_
  refine wo_step (v := v0) (s_pure (p_mv g0)) ?_
  have hq := bindO_inv hr
  clear hr
  obtain ⟨v12, e12, hr⟩ := hq
  have hq := asI_inv hr
  clear hr
  obtain ⟨x12, rfl, hr⟩ := hq
  refine wo_step (v := (.i .i64 x12)) (s_pure (o_len rfl e12)) ?_
  have hq := bindP_inv hr
  clear hr
  obtain ⟨v13, m_2, e13, hr⟩ := hq
  refine wo_step (v := v13) (s_mk rfl rfl e13) ?_
  refine wo_step (v := v13) (s_pure (p_mv rfl)) ?_
  refine wo_nil ?_
  refine nx_norm ?_
  refine w_seq ?_
  refine w_seq ?_
  refine w_ops ?_
  refine wo_step (v := v13) (s_pure (p_mv rfl)) ?_
  have hq := bindO_inv hr
  clear hr
  obtain ⟨v15, e15, hr⟩ := hq
  have hq := asI_inv hr
  clear hr
  obtain ⟨x15, rfl, hr⟩ := hq
  refine wo_step (v := (.i .i64 x15)) (s_pure (o_len rfl e15)) ?_
  refine wo_step (v := (.i .i64 0)) (s_pure (p_mv rfl)) ?_
  refine wo_nil ?_
  refine nx_norm ?_
  refine w_block ?_
  have hq := bindO_inv hr
  clear hr
  obtain ⟨o, hl_1, hr⟩ := hq
  obtain ⟨n_1, hl_1⟩ := hM.loop _ _ _ hl_1
  refine jp_mono (w_loop _ (g48_I0 x1 v10 v13 x15) (g48_J0 x1 v10 v13 x15) ?_ n_1 _ _ _ _ hl_1 ⟨rfl, gl rfl, gl g1, gl rfl, gl rfl, gl rfl⟩) ?_
  · clear hr hl_1
    intro s mm_3 t_1 o hi hr
    obtain ⟨x16, m_3⟩ := s
    obtain ⟨rfl, g16, g1, g5, g6, g15⟩ := hi
    unfold g48_b0 at hr
    refine w_seq ?_
    refine w_ops ?_
    have hq := forceB_inv hr
    clear hr
    obtain ⟨c17, e17, hr⟩ := hq
    refine wo_step (v := (.b c17)) (s_pure (p_bin g16 g15 (b_lss.trans (cb e17)))) ?_
    refine wo_nil ?_
    refine nx_norm ?_
    refine w_seq ?_
    have hq := cond_inv hr
    clear hr
    rcases hq with ⟨rfl, hr⟩ | ⟨rfl, hr⟩
    · refine w_condT rfl ?_
      refine w_skip ?_
      refine nx_norm ?_
      refine w_seq ?_
      refine w_block ?_
      refine w_seq ?_
      refine w_ops ?_
      refine wo_step (v := (.i .i64 x16)) (s_pure (p_mv g16)) ?_
      refine wo_step (v := (.i .i64 x16)) (s_pure (p_mv rfl)) ?_
      refine wo_nil ?_
      refine nx_norm ?_
      refine w_ops ?_
      refine wo_step (v := v13) (s_pure (p_mv g6)) ?_
      refine wo_step (v := (.i .i64 x16)) (s_pure (p_mv rfl)) ?_
      have hq := bindO_inv hr
      clear hr
      obtain ⟨v21, e21, hr⟩ := hq
      refine wo_step (v := v21) (s_pure (o_ixS rfl rfl e21)) ?_
      have hq := bindP_inv hr
      clear hr
      obtain ⟨vn, m_4, en, hr⟩ := hq
      refine wo_stepN (s_st rfl rfl en) ?_
      refine wo_nil ?_
      refine bk_norm ?_
      refine nx_norm ?_
      refine w_ops ?_
      have hq := forceI_inv hr
      clear hr
      obtain ⟨x22, e22, hr⟩ := hq
      refine wo_step (v := (.i .i64 x22)) (s_pure (p_bin g16 rfl (b_add.trans (ci e22)))) ?_
      refine wo_step (v := (.i .i64 x22)) (s_pure (p_mv rfl)) ?_
      refine wo_nil ?_
      cases hr
      exact ⟨_, _, rfl, rfl, rfl, gl rfl, gl g1, gl g5, gl g6, gl g15⟩
    · refine w_condF rfl ?_
      refine w_exit ?_
      refine nx_exit ?_
      cases hr
      exact ⟨_, _, rfl, ne_norm_exit, rfl, rfl, gl g1, gl g5, gl g6⟩
  · obtain ⟨m_5, ho⟩ : ∃ z, z = o := ⟨_, rfl⟩
    subst ho
    rintro _ mm_2 t_2 ⟨rfl, rfl, g1, g5, g6⟩
    refine bk_hit ?_
    refine nx_norm ?_
    refine w_seq ?_
    refine w_ops ?_
    refine wo_step (v := v13) (s_pure (p_mv g6)) ?_
    have hq := bindP_inv hr
    clear hr
    obtain ⟨v24, m_6, e24, hr⟩ := hq
    refine wo_step (v := v24) (s_bsl (qc rfl qn) e24) ?_
    refine wo_step (v := v24) (s_pure (p_mv rfl)) ?_
    refine wo_nil ?_
    refine nx_norm ?_
    refine w_seq ?_
    refine w_seq ?_
    refine w_ops ?_
    refine wo_step (v := (.i .i64 x1)) (s_pure (p_mv g1)) ?_
    refine wo_step (v := (.i .i64 0)) (s_pure (p_mv rfl)) ?_
    refine wo_nil ?_
    refine nx_norm ?_
    refine w_block ?_
    have hq := bindO_inv hr
    clear hr
    obtain ⟨o_1, hl, hr⟩ := hq
    obtain ⟨n, hl⟩ := hM.loop _ _ _ hl
    refine jp_mono (w_loop _ (g48_I1 v10 x1) (g48_J1 v10 x1) ?_ n _ _ _ _ hl ⟨rfl, gl g6, gl rfl, gl rfl, gl g5, gl rfl⟩) ?_
    · clear hr hl
      intro s mm_1 t_3 o hi hr
      obtain ⟨v6, v8, x26, m_7⟩ := s
      obtain ⟨rfl, g6, g8, g26, g5, g25⟩ := hi
      unfold g48_b1 at hr
      refine w_seq ?_
      refine w_ops ?_
      have hq := forceB_inv hr
      clear hr
      obtain ⟨c27, e27, hr⟩ := hq
      refine wo_step (v := (.b c27)) (s_pure (p_bin g26 g25 (b_lss.trans (cb e27)))) ?_
      refine wo_nil ?_
      refine nx_norm ?_
      refine w_seq ?_
      have hq := cond_inv hr
      clear hr
      rcases hq with ⟨rfl, hr⟩ | ⟨rfl, hr⟩
      · refine w_condT rfl ?_
        refine w_skip ?_
        refine nx_norm ?_
        refine w_seq ?_
        refine w_block ?_
        refine w_seq ?_
        refine w_ops ?_
        refine wo_step (v := v6) (s_pure (p_mv g6)) ?_
        have hq := bindP_inv hr
        clear hr
        obtain ⟨v29, m_8, e29, hr⟩ := hq
        refine wo_step (v := v29) (s_bsl (qc rfl qn) e29) ?_
        refine wo_step (v := v10) (s_pure (p_mv g5)) ?_
        have hq := bindP_inv hr
        clear hr
        obtain ⟨v31, m_9, e31, hr⟩ := hq
        refine wo_step (v := v31) (s_call (mc rfl (mc rfl mn)) (callM_le hM.call e31)) ?_
        have hq := bindO_inv hr
        clear hr
        obtain ⟨v32, e32, hr⟩ := hq
        refine wo_step (v := v32) (s_pure (o_ixS rfl rfl e32)) ?_
        have hq := bindO_inv hr
        clear hr
        obtain ⟨v33, e33, hr⟩ := hq
        refine wo_step (v := v33) (s_ld rfl e33) ?_
        refine wo_step (v := v33) (s_pure (p_mv rfl)) ?_
        refine wo_nil ?_
        refine nx_norm ?_
        refine w_ops ?_
        refine wo_step (v := v8) (s_pure (p_mv g8)) ?_
        refine wo_step (v := v33) (s_pure (p_mv rfl)) ?_
        have hq := bindP_inv hr
        clear hr
        obtain ⟨v36, m_10, e36, hr⟩ := hq
        refine wo_step (v := v36) (s_bsl (qc rfl qn) e36) ?_
        have hq := bindP_inv hr
        clear hr
        obtain ⟨v37, m_11, e37, hr⟩ := hq
        refine wo_step (v := v37) (s_app rfl rfl e37) ?_
        refine wo_step (v := v37) (s_pure (p_mv rfl)) ?_
        refine wo_nil ?_
        refine bk_norm ?_
        refine nx_norm ?_
        refine w_ops ?_
        have hq := forceI_inv hr
        clear hr
        obtain ⟨x38, e38, hr⟩ := hq
        refine wo_step (v := (.i .i64 x38)) (s_pure (p_bin g26 rfl (b_add.trans (ci e38)))) ?_
        refine wo_step (v := (.i .i64 x38)) (s_pure (p_mv rfl)) ?_
        refine wo_nil ?_
        cases hr
        exact ⟨_, _, rfl, rfl, rfl, gl rfl, gl rfl, gl rfl, gl g5, gl g25⟩
      · refine w_condF rfl ?_
        refine w_exit ?_
        refine nx_exit ?_
        cases hr
        exact ⟨_, _, rfl, ne_norm_exit, rfl, rfl, gl g8⟩
    · obtain ⟨v8_1, m_12⟩ := o_1
      rintro _ mm t_4 ⟨rfl, rfl, g8⟩
      refine bk_hit ?_
      refine nx_norm ?_
      refine w_seq ?_
      refine w_ops ?_
      refine wo_step (v := v8_1) (s_pure (p_mv g8)) ?_
      refine wo_step (v := v8_1) (s_pure (p_mv rfl)) ?_
      refine wo_nil ?_
      refine nx_norm ?_
      refine w_ret ?_
      exact qf ret_ok (rt rfl rn) hr

/- dibber/vine.long -/
abbrev g49_I0 (v0 : AVal) (s1 : List UInt8) (x8 : Int) (s : Int × Int × Mm) (m1 : Mm) (t1 : Tr) : Prop :=
  match s with
  | (x5, x9, m_1) => m_1 = m1 ∧ t1.get 5 = (.i .u64 x5) ∧ t1.get 9 = (.i .i64 x9) ∧ t1.get 0 = v0 ∧ t1.get 1 = (.s s1) ∧ t1.get 8 = (.i .i64 x8)
abbrev g49_J0 (v0 : AVal) (s1 : List UInt8) (x8 : Int) (o : (Int × Mm)) (e : AExit) (m1 : Mm) (t1 : Tr) : Prop :=
  match o with
  | (y5, mo) => e = (.exit 0) ∧ mo = m1 ∧ t1.get 5 = (.i .u64 y5)
def g49_b0 (M : Means) (ro : List ABlk) (v0 : AVal) (s1 : List UInt8) (x8 : Int) (x5 : Int) (x9 : Int) (m_1 : Mm) : Option ((Int × Int × Mm) ⊕ ((Int × Mm))) :=
  forceB (ltI x9 x8) fun c10 =>
  cond c10 (
    bindO (evP .e (.ixStr (.c (.s s1)) (.c (.i .i64 x9)))) fun v16 =>
    asI .u8 v16 fun x16 =>
    bindP (callM M.call m_1 54 [(.i .u8 x16)]) fun v17 m_2 =>
    asI .i64 v17 fun x17 =>
    bindO (evP .e (.ixS 1 (.c v0) (.c (.i .i64 x17)))) fun v18 =>
    bindO (ldM ro m_2 true 1 v18) fun v19 =>
    asI .u64 v19 fun x19 =>
    bindP (callM M.call m_2 86 [(.i .u64 x5), (.i .u64 x19)]) fun v20 m_3 =>
    asI .u64 v20 fun x20 =>
    forceI (wr .i64 (x9 + 1)) fun x21 =>
    some (.inl (x20, x21, m_3))) (
    some (.inr (x5, m_1)))
def g49 (M : Means) (ro : List ABlk) (v0 : AVal) (s1 : List UInt8) (m0 : Mm) : Option (AVal × Heap × Nat × Nat) :=
  bindO (evP .e (.len true (.c (.s s1)))) fun v8 =>
  asI .i64 v8 fun x8 =>
  bindO (M.loop (S := Int × Int × Mm) (R := (Int × Mm)) (fun s => g49_b0 M ro v0 s1 x8 s.1 s.2.1 s.2.2) (0, 0, m0)) fun ⟨x5_1, m_4⟩ =>
  finM m0.h.length (tupA [(.i .u64 x5_1)]) m_4

theorem g49_ok {ro : List ABlk} {O : Caller} {M : Means} (hM : M.Ok ⟨F, O⟩ ro) {v0 s1 h r} (ho : O 49 [v0, (.s s1)] h = none) (hr : g49 M ro v0 s1 ⟨h, h.length, h.length⟩ = some r) : callX ⟨F, O⟩ ro 49 [v0, (.s s1)] h = some r := by
  refine callX_of (F := ⟨F, O⟩) (fn := fn49) (g := g49 M ro v0 s1) ho rfl rfl hr ?_
  clear ho
  clear hr
  intro m0 t0 ht hr
  have g0 : t0.get 0 = v0 := ht 0
  have g1 : t0.get 1 = (.s s1) := ht 1
  clear ht
  unfold g49 at hr
  refine w_seq ?_
  refine w_ops ?_
  refine wo_step (v := (.i .u64 0)) (s_pure (p_mv rfl)) ?_
  refine wo_nil ?_
  refine nx_norm ?_
  refine w_seq ?_
  refine w_ops ?_
  refine wo_step (v := (.i .u64 0)) (s_pure (p_mv rfl)) ?_
  refine wo_nil ?_
  refine nx_norm ?_
  refine w_seq ?_
  refine w_seq ?_
  refine w_ops ?_
  refine wo_step (v := (.s s1)) (s_pure (p_mv g1)) ?_
  have hq := bindO_inv hr
  clear hr
  obtain ⟨v8, e8, hr⟩ := hq
  have hq := asI_inv hr
  clear hr
  obtain ⟨x8, rfl, hr⟩ := hq
  refine wo_step (v := (.i .i64 x8)) (s_pure (o_len rfl e8)) ?_
  refine wo_step (v := (.i .i64 0)) (s_pure (p_mv rfl)) ?_
  refine wo_nil ?_
  refine nx_norm ?_
  refine w_block ?_
  have hq := bindO_inv hr
  clear hr
  obtain ⟨o, hl, hr⟩ := hq
  obtain ⟨n, hl⟩ := hM.loop _ _ _ hl
  refine jp_mono (w_loop _ (g49_I0 v0 s1 x8) (g49_J0 v0 s1 x8) ?_ n _ _ _ _ hl ⟨rfl, gl rfl, gl rfl, gl g0, gl g1, gl rfl⟩) ?_
  · clear hr hl
    intro s mm_1 t_1 o hi hr
    obtain ⟨x5, x9, m_1⟩ := s
    obtain ⟨rfl, g5, g9, g0, g1, g8⟩ := hi
    unfold g49_b0 at hr
    refine w_seq ?_
    refine w_ops ?_
    have hq := forceB_inv hr
    clear hr
    obtain ⟨c10, e10, hr⟩ := hq
    refine wo_step (v := (.b c10)) (s_pure (p_bin g9 g8 (b_lss.trans (cb e10)))) ?_
    refine wo_nil ?_
    refine nx_norm ?_
    refine w_seq ?_
    have hq := cond_inv hr
    clear hr
    rcases hq with ⟨rfl, hr⟩ | ⟨rfl, hr⟩
    · refine w_condT rfl ?_
      refine w_skip ?_
      refine nx_norm ?_
      refine w_seq ?_
      refine w_block ?_
      refine w_seq ?_
      refine w_ops ?_
      refine wo_step (v := (.i .i64 x9)) (s_pure (p_mv g9)) ?_
      refine wo_step (v := (.i .i64 x9)) (s_pure (p_mv rfl)) ?_
      refine wo_nil ?_
      refine nx_norm ?_
      refine w_ops ?_
      refine wo_step (v := (.i .u64 x5)) (s_pure (p_mv g5)) ?_
      refine wo_step (v := v0) (s_pure (p_mv g0)) ?_
      refine wo_step (v := (.s s1)) (s_pure (p_mv g1)) ?_
      refine wo_step (v := (.i .i64 x9)) (s_pure (p_mv rfl)) ?_
      have hq := bindO_inv hr
      clear hr
      obtain ⟨v16, e16, hr⟩ := hq
      have hq := asI_inv hr
      clear hr
      obtain ⟨x16, rfl, hr⟩ := hq
      refine wo_step (v := (.i .u8 x16)) (s_pure (o_ixStr rfl rfl e16)) ?_
      have hq := bindP_inv hr
      clear hr
      obtain ⟨v17, m_2, e17, hr⟩ := hq
      have hq := asI_inv hr
      clear hr
      obtain ⟨x17, rfl, hr⟩ := hq
      refine wo_step (v := (.i .i64 x17)) (s_call (mc rfl mn) (callM_le hM.call e17)) ?_
      have hq := bindO_inv hr
      clear hr
      obtain ⟨v18, e18, hr⟩ := hq
      refine wo_step (v := v18) (s_pure (o_ixS rfl rfl e18)) ?_
      have hq := bindO_inv hr
      clear hr
      obtain ⟨v19, e19, hr⟩ := hq
      have hq := asI_inv hr
      clear hr
      obtain ⟨x19, rfl, hr⟩ := hq
      refine wo_step (v := (.i .u64 x19)) (s_ld rfl e19) ?_
      have hq := bindP_inv hr
      clear hr
      obtain ⟨v20, m_3, e20, hr⟩ := hq
      have hq := asI_inv hr
      clear hr
      obtain ⟨x20, rfl, hr⟩ := hq
      refine wo_step (v := (.i .u64 x20)) (s_call (mc rfl (mc rfl mn)) (callM_le hM.call e20)) ?_
      refine wo_step (v := (.i .u64 x20)) (s_pure (p_mv rfl)) ?_
      refine wo_nil ?_
      refine bk_norm ?_
      refine nx_norm ?_
      refine w_ops ?_
      have hq := forceI_inv hr
      clear hr
      obtain ⟨x21, e21, hr⟩ := hq
      refine wo_step (v := (.i .i64 x21)) (s_pure (p_bin g9 rfl (b_add.trans (ci e21)))) ?_
      refine wo_step (v := (.i .i64 x21)) (s_pure (p_mv rfl)) ?_
      refine wo_nil ?_
      cases hr
      exact ⟨_, _, rfl, rfl, rfl, gl rfl, gl rfl, gl g0, gl g1, gl g8⟩
    · refine w_condF rfl ?_
      refine w_exit ?_
      refine nx_exit ?_
      cases hr
      exact ⟨_, _, rfl, ne_norm_exit, rfl, rfl, gl g5⟩
  · obtain ⟨x5_1, m_4⟩ := o
    rintro _ mm t_2 ⟨rfl, rfl, g5⟩
    refine bk_hit ?_
    refine nx_norm ?_
    refine w_seq ?_
    refine w_ops ?_
    refine wo_step (v := (.i .u64 x5_1)) (s_pure (p_mv g5)) ?_
    refine wo_step (v := (.i .u64 x5_1)) (s_pure (p_mv rfl)) ?_
    refine wo_nil ?_
    refine nx_norm ?_
    refine w_ret ?_
    exact qf ret_ok (rt rfl rn) hr

/- dibber/vine.part -/

def g54 (M : Means) (ro : List ABlk) (x0 : Int) (m0 : Mm) : Option (AVal × Heap × Nat × Nat) :=
  forceI (wr .i64 x0) fun x4 =>
  forceI (wr .i64 (x4 - 97)) fun x5 =>
  finM m0.h.length (tupA [(.i .i64 x5)]) m0

theorem g54_ok {ro : List ABlk} {O : Caller} {M : Means} (hM : M.Ok ⟨F, O⟩ ro) {x0 h r} (ho : O 54 [(.i .u8 x0)] h = none) (hr : g54 M ro x0 ⟨h, h.length, h.length⟩ = some r) : callX ⟨F, O⟩ ro 54 [(.i .u8 x0)] h = some r := by
  refine callX_of (F := ⟨F, O⟩) (fn := fn54) (g := g54 M ro x0) ho rfl rfl hr ?_
  clear ho
  clear hr
  intro m0 t0 ht hr
  have g0 : t0.get 0 = (.i .u8 x0) := ht 0
  clear ht
  unfold g54 at hr
  refine w_seq ?_
  refine w_ops ?_
  refine wo_step (v := (.i .i64 0)) (s_pure (p_mv rfl)) ?_
  refine wo_nil ?_
  refine nx_norm ?_
  refine w_seq ?_
  refine w_ops ?_
  refine wo_step (v := (.i .u8 x0)) (s_pure (p_mv g0)) ?_
  have hq := forceI_inv hr
  clear hr
  obtain ⟨x4, e4, hr⟩ := hq
  refine wo_step (v := (.i .i64 x4)) (s_pure ((p_conv rfl).trans (ci e4))) ?_
  have hq := forceI_inv hr
  clear hr
  obtain ⟨x5, e5, hr⟩ := hq
  refine wo_step (v := (.i .i64 x5)) (s_pure (p_bin rfl rfl (b_sub.trans (ci e5)))) ?_
  refine wo_step (v := (.i .i64 x5)) (s_pure (p_mv rfl)) ?_
  refine wo_nil ?_
  refine nx_norm ?_
  refine w_ret ?_
  exact qf ret_ok (rt rfl rn) hr

/- dibber/vine.matrix[dibber/vine.many] -/
abbrev g55_I0 (v0 : AVal) (v1 : AVal) (v11 : AVal) (x13 : Int) (s : Int × Mm) (m1 : Mm) (t1 : Tr) : Prop :=
  match s with
  | (x14, m_2) => m_2 = m1 ∧ t1.get 14 = (.i .i64 x14) ∧ t1.get 0 = v0 ∧ t1.get 1 = v1 ∧ t1.get 5 = v11 ∧ t1.get 13 = (.i .i64 x13)
abbrev g55_J0 (v0 : AVal) (v1 : AVal) (v11 : AVal) (x13 : Int) (o : Mm) (e : AExit) (m1 : Mm) (t1 : Tr) : Prop :=
  match o with
  | mo => e = (.exit 0) ∧ mo = m1 ∧ t1.get 5 = v11
abbrev g55_I1 (v0 : AVal) (v1 : AVal) (v11 : AVal) (x14 : Int) (x13 : Int) (x18 : Int) (s : Int × Mm) (m1 : Mm) (t1 : Tr) : Prop :=
  match s with
  | (x19, m_3) => m_3 = m1 ∧ t1.get 19 = (.i .i64 x19) ∧ t1.get 0 = v0 ∧ t1.get 1 = v1 ∧ t1.get 5 = v11 ∧ t1.get 6 = (.i .i64 x14) ∧ t1.get 13 = (.i .i64 x13) ∧ t1.get 14 = (.i .i64 x14) ∧ t1.get 17 = v0 ∧ t1.get 18 = (.i .i64 x18)
abbrev g55_J1 (v0 : AVal) (v1 : AVal) (v11 : AVal) (x14 : Int) (x13 : Int) (x18 : Int) (o : Mm) (e : AExit) (m1 : Mm) (t1 : Tr) : Prop :=
  match o with
  | mo => e = (.exit 2) ∧ mo = m1 ∧ t1.get 0 = v0 ∧ t1.get 1 = v1 ∧ t1.get 5 = v11 ∧ t1.get 13 = (.i .i64 x13) ∧ t1.get 14 = (.i .i64 x14)
def g55_b1 (M : Means) (ro : List ABlk) (v0 : AVal) (v1 : AVal) (v11 : AVal) (x14 : Int) (x13 : Int) (x18 : Int) (x19 : Int) (m_3 : Mm) : Option ((Int × Mm) ⊕ (Mm)) :=
  forceB (ltI x19 x18) fun c20 =>
  cond c20 (
    bindO (evP .e (.ixS 1 (.c v0) (.c (.i .i64 x19)))) fun v21 =>
    bindO (ldM ro m_3 true 1 v21) fun v22 =>
    asS v22 fun s22 =>
    bindO (some (Mm.base m_3)) fun m_4 =>
    bindO (evP .e (.ixS 1 (.c v11) (.c (.i .i64 x14)))) fun v27 =>
    bindO (ldA ro m_3.h true 1 v27) fun v28 =>
    bindP (callM M.call m_4 89 [(.i .i64 x14)]) fun v32 m_5 =>
    asS v32 fun s32 =>
    chk (!Nat.blt m_5.lw m_3.h.length) <|
    bindP (callM M.call m_5 88 [(.s s22), (.s s32)]) fun v33 m_6 =>
    asI .i64 v33 fun x33 =>
    chk (!Nat.blt m_6.lw m_3.h.length) <|
    bindP (callvM M.call m_6 v1 [(.i .i64 x33)]) fun v34 m_7 =>
    asI .u64 v34 fun x34 =>
    chk (!Nat.blt m_7.lw m_3.h.length) <|
    bindP (stepM ro m_7 (.bsl 61 1 [(AVal.i IntKind.u64 0)] 1 [((0, 1), .c (.i .u64 x34))])) fun v35 m_8 =>
    chk (!Nat.blt m_8.lw m_3.h.length) <|
    bindP (stepM ro m_8 (.app 61 1 8 [(AVal.i IntKind.u64 0)] (.c v28) (.c v35))) fun v36 m_9 =>
    bindO (evP .e (.ixS 1 (.c v11) (.c (.i .i64 x14)))) fun v37 =>
    bindP (stepM ro m_9 (.st 1 (.c v37) (.c v36))) fun vn m_10 =>
    bindO (some (Mm.join m_3 m_10)) fun m_11 =>
    forceI (wr .i64 (x19 + 1)) fun x38 =>
    some (.inl (x38, m_11))) (
    some (.inr m_3))
def g55_b0 (M : Means) (ro : List ABlk) (v0 : AVal) (v1 : AVal) (v11 : AVal) (x13 : Int) (x14 : Int) (m_2 : Mm) : Option ((Int × Mm) ⊕ (Mm)) :=
  forceB (ltI x14 x13) fun c15 =>
  cond c15 (
    bindO (evP .e (.len false (.c v0))) fun v18 =>
    asI .i64 v18 fun x18 =>
    bindO (M.loop (S := Int × Mm) (R := Mm) (fun s => g55_b1 M ro v0 v1 v11 x14 x13 x18 s.1 s.2) (0, m_2)) fun m_12 =>
    forceI (wr .i64 (x14 + 1)) fun x39 =>
    some (.inl (x39, m_12))) (
    some (.inr m_2))
def g55 (M : Means) (ro : List ABlk) (v0 : AVal) (v1 : AVal) (m0 : Mm) : Option (AVal × Heap × Nat × Nat) :=
  bindO (evP .e (.len false (.c v0))) fun v10 =>
  asI .i64 v10 fun x10 =>
  bindP (stepM ro m0 (.mk 63 1 24 [AVal.nsl] (.c (.i .i64 x10)) (.c (.i .i64 x10)))) fun v11 m_1 =>
  bindO (evP .e (.len false (.c v0))) fun v13 =>
  asI .i64 v13 fun x13 =>
  bindO (M.loop (S := Int × Mm) (R := Mm) (fun s => g55_b0 M ro v0 v1 v11 x13 s.1 s.2) (0, m_1)) fun m_13 =>
  finM m0.h.length (tupA [v11]) m_13

theorem g55_ok {ro : List ABlk} {O : Caller} {M : Means} (hM : M.Ok ⟨F, O⟩ ro) {v0 v1 h r} (ho : O 55 [v0, v1] h = none) (hr : g55 M ro v0 v1 ⟨h, h.length, h.length⟩ = some r) : callX ⟨F, O⟩ ro 55 [v0, v1] h = some r := by
  refine callX_of (F := ⟨F, O⟩) (fn := fn55) (g := g55 M ro v0 v1) ho rfl rfl hr ?_
  clear ho
  clear hr
  intro m0 t0 ht hr
  have g0 : t0.get 0 = v0 := ht 0
  have g1 : t0.get 1 = v1 := ht 1
  clear ht
  unfold g55 at hr
  refine w_seq ?_
  refine w_ops ?_
  refine wo_step (v := AVal.nsl) (s_pure (p_mv rfl)) ?_
  refine wo_nil ?_
  refine nx_norm ?_
  refine w_seq ?_
  refine w_ops ?_
  refine wo_step (v := v0) (s_pure (p_mv g0)) ?_
  have hq := bindO_inv hr
  clear hr
  obtain ⟨v10, e10, hr⟩ := hq
  have hq := asI_inv hr
  clear hr
  obtain ⟨x10, rfl, hr⟩ := hq
  refine wo_step (v := (.i .i64 x10)) (s_pure (o_len rfl e10)) ?_
  have hq := bindP_inv hr
  clear hr
  obtain ⟨v11, m_1, e11, hr⟩ := hq
  refine wo_step (v := v11) (s_mk rfl rfl e11) ?_
  refine wo_step (v := v11) (s_pure (p_mv rfl)) ?_
  refine wo_nil ?_
  refine nx_norm ?_
  refine w_seq ?_
  refine w_seq ?_
  refine w_ops ?_
  refine wo_step (v := v0) (s_pure (p_mv g0)) ?_
  have hq := bindO_inv hr
  clear hr
  obtain ⟨v13, e13, hr⟩ := hq
  have hq := asI_inv hr
  clear hr
  obtain ⟨x13, rfl, hr⟩ := hq
  refine wo_step (v := (.i .i64 x13)) (s_pure (o_len rfl e13)) ?_
  refine wo_step (v := (.i .i64 0)) (s_pure (p_mv rfl)) ?_
  refine wo_nil ?_
  refine nx_norm ?_
  refine w_block ?_
  have hq := bindO_inv hr
  clear hr
  obtain ⟨o_1, hl_1, hr⟩ := hq
  obtain ⟨n_1, hl_1⟩ := hM.loop _ _ _ hl_1
  refine jp_mono (w_loop _ (g55_I0 v0 v1 v11 x13) (g55_J0 v0 v1 v11 x13) ?_ n_1 _ _ _ _ hl_1 ⟨rfl, gl rfl, gl g0, gl g1, gl rfl, gl rfl⟩) ?_
  · clear hr hl_1
    intro s mm_3 t_1 o hi hr
    obtain ⟨x14, m_2⟩ := s
    obtain ⟨rfl, g14, g0, g1, g5, g13⟩ := hi
    unfold g55_b0 at hr
    refine w_seq ?_
    refine w_ops ?_
    have hq := forceB_inv hr
    clear hr
    obtain ⟨c15, e15, hr⟩ := hq
    refine wo_step (v := (.b c15)) (s_pure (p_bin g14 g13 (b_lss.trans (cb e15)))) ?_
    refine wo_nil ?_
    refine nx_norm ?_
    refine w_seq ?_
    have hq := cond_inv hr
    clear hr
    rcases hq with ⟨rfl, hr⟩ | ⟨rfl, hr⟩
    · refine w_condT rfl ?_
      refine w_skip ?_
      refine nx_norm ?_
      refine w_seq ?_
      refine w_block ?_
      refine w_seq ?_
      refine w_ops ?_
      refine wo_step (v := (.i .i64 x14)) (s_pure (p_mv g14)) ?_
      refine wo_step (v := (.i .i64 x14)) (s_pure (p_mv rfl)) ?_
      refine wo_nil ?_
      refine nx_norm ?_
      refine w_seq ?_
      refine w_ops ?_
      refine wo_step (v := v0) (s_pure (p_mv g0)) ?_
      have hq := bindO_inv hr
      clear hr
      obtain ⟨v18, e18, hr⟩ := hq
      have hq := asI_inv hr
      clear hr
      obtain ⟨x18, rfl, hr⟩ := hq
      refine wo_step (v := (.i .i64 x18)) (s_pure (o_len rfl e18)) ?_
      refine wo_step (v := (.i .i64 0)) (s_pure (p_mv rfl)) ?_
      refine wo_nil ?_
      refine nx_norm ?_
      refine w_block ?_
      have hq := bindO_inv hr
      clear hr
      obtain ⟨o, hl, hr⟩ := hq
      obtain ⟨n, hl⟩ := hM.loop _ _ _ hl
      refine jp_mono (w_loop _ (g55_I1 v0 v1 v11 x14 x13 x18) (g55_J1 v0 v1 v11 x14 x13 x18) ?_ n _ _ _ _ hl ⟨rfl, gl rfl, gl g0, gl g1, gl g5, gl rfl, gl g13, gl g14, gl rfl, gl rfl⟩) ?_
      · clear hr hl
        intro s mm_1 t_2 o hi hr
        obtain ⟨x19, m_3⟩ := s
        obtain ⟨rfl, g19, g0, g1, g5, g6, g13, g14, g17, g18⟩ := hi
        unfold g55_b1 at hr
        refine w_seq ?_
        refine w_ops ?_
        have hq := forceB_inv hr
        clear hr
        obtain ⟨c20, e20, hr⟩ := hq
        refine wo_step (v := (.b c20)) (s_pure (p_bin g19 g18 (b_lss.trans (cb e20)))) ?_
        refine wo_nil ?_
        refine nx_norm ?_
        refine w_seq ?_
        have hq := cond_inv hr
        clear hr
        rcases hq with ⟨rfl, hr⟩ | ⟨rfl, hr⟩
        · refine w_condT rfl ?_
          refine w_skip ?_
          refine nx_norm ?_
          refine w_seq ?_
          refine w_block ?_
          refine w_seq ?_
          refine w_ops ?_
          have hq := bindO_inv hr
          clear hr
          obtain ⟨v21, e21, hr⟩ := hq
          refine wo_step (v := v21) (s_pure (o_ixS g17 g19 e21)) ?_
          have hq := bindO_inv hr
          clear hr
          obtain ⟨v22, e22, hr⟩ := hq
          have hq := asS_inv hr
          clear hr
          obtain ⟨s22, rfl, hr⟩ := hq
          refine wo_step (v := (.s s22)) (s_ld rfl e22) ?_
          refine wo_step (v := (.s s22)) (s_pure (p_mv rfl)) ?_
          refine wo_nil ?_
          refine nx_norm ?_
          have hq := bindO_inv hr
          clear hr
          obtain ⟨m_4, ef, hr⟩ := hq
          refine w_flt (af := true) rfl ef ?_
          refine wf_step (v := v11) (f_P rfl (s_pure (p_mv g5))) ?_
          refine wf_step (v := (.i .i64 x14)) (f_P rfl (s_pure (p_mv g6))) ?_
          refine wf_step (v := v11) (f_P rfl (s_pure (p_mv g5))) ?_
          refine wf_step (v := (.i .i64 x14)) (f_P rfl (s_pure (p_mv g6))) ?_
          have hq := bindO_inv hr
          clear hr
          obtain ⟨v27, e27, hr⟩ := hq
          refine wf_step (v := v27) (f_P rfl (s_pure (o_ixS rfl rfl e27))) ?_
          have hq := bindO_inv hr
          clear hr
          obtain ⟨v28, e28, hr⟩ := hq
          refine wf_step (v := v28) (f_ld rfl e28) ?_
          refine wf_step (v := v1) (f_P rfl (s_pure (p_mv g1))) ?_
          refine wf_step (v := (.s s22)) (f_P rfl (s_pure (p_mv rfl))) ?_
          refine wf_step (v := (.i .i64 x14)) (f_P rfl (s_pure (p_mv g6))) ?_
          have hq := bindP_inv hr
          clear hr
          obtain ⟨v32, m_5, e32, hr⟩ := hq
          have hq := asS_inv hr
          clear hr
          obtain ⟨s32, rfl, hr⟩ := hq
          have hq := chk_inv hr
          clear hr
          obtain ⟨hc32, hr⟩ := hq
          refine wf_step (v := (.s s32)) (f_M hc32 (s_call (mc rfl mn) (callM_le hM.call e32))) ?_
          have hq := bindP_inv hr
          clear hr
          obtain ⟨v33, m_6, e33, hr⟩ := hq
          have hq := asI_inv hr
          clear hr
          obtain ⟨x33, rfl, hr⟩ := hq
          have hq := chk_inv hr
          clear hr
          obtain ⟨hc33, hr⟩ := hq
          refine wf_step (v := (.i .i64 x33)) (f_M hc33 (s_call (mc rfl (mc rfl mn)) (callM_le hM.call e33))) ?_
          have hq := bindP_inv hr
          clear hr
          obtain ⟨v34, m_7, e34, hr⟩ := hq
          have hq := asI_inv hr
          clear hr
          obtain ⟨x34, rfl, hr⟩ := hq
          have hq := chk_inv hr
          clear hr
          obtain ⟨hc34, hr⟩ := hq
          refine wf_step (v := (.i .u64 x34)) (f_M hc34 (s_callv rfl (mc rfl mn) (callvM_le hM.call e34))) ?_
          have hq := bindP_inv hr
          clear hr
          obtain ⟨v35, m_8, e35, hr⟩ := hq
          have hq := chk_inv hr
          clear hr
          obtain ⟨hc35, hr⟩ := hq
          refine wf_step (v := v35) (f_M hc35 (s_bsl (qc rfl qn) e35)) ?_
          have hq := bindP_inv hr
          clear hr
          obtain ⟨v36, m_9, e36, hr⟩ := hq
          refine wf_step (v := v36) (f_F rfl (s_app rfl rfl e36)) ?_
          have hq := bindO_inv hr
          clear hr
          obtain ⟨v37, e37, hr⟩ := hq
          refine wf_step (v := v37) (f_P rfl (s_pure (o_ixS rfl rfl e37))) ?_
          have hq := bindP_inv hr
          clear hr
          obtain ⟨vn, m_10, en, hr⟩ := hq
          refine wf_stepN (f_F rfl (s_st rfl rfl en)) ?_
          have hq := bindO_inv hr
          clear hr
          obtain ⟨m_11, ef_1, hr⟩ := hq
          refine wf_end ef_1 ?_
          refine bk_norm ?_
          refine nx_norm ?_
          refine w_ops ?_
          have hq := forceI_inv hr
          clear hr
          obtain ⟨x38, e38, hr⟩ := hq
          refine wo_step (v := (.i .i64 x38)) (s_pure (p_bin g19 rfl (b_add.trans (ci e38)))) ?_
          refine wo_step (v := (.i .i64 x38)) (s_pure (p_mv rfl)) ?_
          refine wo_nil ?_
          cases hr
          exact ⟨_, _, rfl, rfl, rfl, gl rfl, gl g0, gl g1, gl g5, gl g6, gl g13, gl g14, gl g17, gl g18⟩
        · refine w_condF rfl ?_
          refine w_exit ?_
          refine nx_exit ?_
          cases hr
          exact ⟨_, _, rfl, ne_norm_exit, rfl, rfl, gl g0, gl g1, gl g5, gl g13, gl g14⟩
      · obtain ⟨m_12, ho⟩ : ∃ z, z = o := ⟨_, rfl⟩
        subst ho
        rintro _ mm t_3 ⟨rfl, rfl, g0, g1, g5, g13, g14⟩
        refine bk_hit ?_
        refine bk_norm ?_
        refine nx_norm ?_
        refine w_ops ?_
        have hq := forceI_inv hr
        clear hr
        obtain ⟨x39, e39, hr⟩ := hq
        refine wo_step (v := (.i .i64 x39)) (s_pure (p_bin g14 rfl (b_add.trans (ci e39)))) ?_
        refine wo_step (v := (.i .i64 x39)) (s_pure (p_mv rfl)) ?_
        refine wo_nil ?_
        cases hr
        exact ⟨_, _, rfl, rfl, rfl, gl rfl, gl g0, gl g1, gl g5, gl g13⟩
    · refine w_condF rfl ?_
      refine w_exit ?_
      refine nx_exit ?_
      cases hr
      exact ⟨_, _, rfl, ne_norm_exit, rfl, rfl, gl g5⟩
  · obtain ⟨m_13, ho⟩ : ∃ z, z = o_1 := ⟨_, rfl⟩
    subst ho
    rintro _ mm_2 t_4 ⟨rfl, rfl, g5⟩
    refine bk_hit ?_
    refine nx_norm ?_
    refine w_seq ?_
    refine w_ops ?_
    refine wo_step (v := v11) (s_pure (p_mv g5)) ?_
    refine wo_step (v := v11) (s_pure (p_mv rfl)) ?_
    refine wo_nil ?_
    refine nx_norm ?_
    refine w_ret ?_
    exact qf ret_ok (rt rfl rn) hr

/- dibber/vine.asMany -/

def g56 (M : Means) (ro : List ABlk) (x0 : Int) (m0 : Mm) : Option (AVal × Heap × Nat × Nat) :=
  forceI (wr .u64 x0) fun x4 =>
  finM m0.h.length (tupA [(.i .u64 x4)]) m0

theorem g56_ok {ro : List ABlk} {O : Caller} {M : Means} (hM : M.Ok ⟨F, O⟩ ro) {x0 h r} (ho : O 56 [(.i .i64 x0)] h = none) (hr : g56 M ro x0 ⟨h, h.length, h.length⟩ = some r) : callX ⟨F, O⟩ ro 56 [(.i .i64 x0)] h = some r := by
  refine callX_of (F := ⟨F, O⟩) (fn := fn56) (g := g56 M ro x0) ho rfl rfl hr ?_
  clear ho
  clear hr
  intro m0 t0 ht hr
  have g0 : t0.get 0 = (.i .i64 x0) := ht 0
  clear ht
  unfold g56 at hr
  refine w_seq ?_
  refine w_ops ?_
  refine wo_step (v := (.i .u64 0)) (s_pure (p_mv rfl)) ?_
  refine wo_nil ?_
  refine nx_norm ?_
  refine w_seq ?_
  refine w_ops ?_
  refine wo_step (v := (.i .i64 x0)) (s_pure (p_mv g0)) ?_
  have hq := forceI_inv hr
  clear hr
  obtain ⟨x4, e4, hr⟩ := hq
  refine wo_step (v := (.i .u64 x4)) (s_pure ((p_conv rfl).trans (ci e4))) ?_
  refine wo_step (v := (.i .u64 x4)) (s_pure (p_mv rfl)) ?_
  refine wo_nil ?_
  refine nx_norm ?_
  refine w_ret ?_
  exact qf ret_ok (rt rfl rn) hr

/- dibber/vine.product[dibber/vine.many] -/
abbrev g57_I0 (v1 : AVal) (v13 : AVal) (v0 : AVal) (x15 : Int) (s : Int × Mm) (m1 : Mm) (t1 : Tr) : Prop :=
  match s with
  | (x16, m_2) => m_2 = m1 ∧ t1.get 16 = (.i .i64 x16) ∧ t1.get 1 = v1 ∧ t1.get 5 = v13 ∧ t1.get 14 = v0 ∧ t1.get 15 = (.i .i64 x15)
abbrev g57_J0 (v1 : AVal) (v13 : AVal) (v0 : AVal) (x15 : Int) (o : Mm) (e : AExit) (m1 : Mm) (t1 : Tr) : Prop :=
  match o with
  | mo => e = (.exit 0) ∧ mo = m1 ∧ t1.get 5 = v13
abbrev g57_I1 (v1 : AVal) (v13 : AVal) (x16 : Int) (v20 : AVal) (v0 : AVal) (x15 : Int) (x33 : Int) (s : Int × Mm) (m1 : Mm) (t1 : Tr) : Prop :=
  match s with
  | (x34, m_5) => m_5 = m1 ∧ t1.get 34 = (.i .i64 x34) ∧ t1.get 1 = v1 ∧ t1.get 5 = v13 ∧ t1.get 6 = (.i .i64 x16) ∧ t1.get 7 = v20 ∧ t1.get 14 = v0 ∧ t1.get 15 = (.i .i64 x15) ∧ t1.get 16 = (.i .i64 x16) ∧ t1.get 33 = (.i .i64 x33)
abbrev g57_J1 (v1 : AVal) (v13 : AVal) (x16 : Int) (v20 : AVal) (v0 : AVal) (x15 : Int) (x33 : Int) (o : Mm) (e : AExit) (m1 : Mm) (t1 : Tr) : Prop :=
  match o with
  | mo => e = (.exit 2) ∧ mo = m1 ∧ t1.get 1 = v1 ∧ t1.get 5 = v13 ∧ t1.get 14 = v0 ∧ t1.get 15 = (.i .i64 x15) ∧ t1.get 16 = (.i .i64 x16)
abbrev g57_I2 (v1 : AVal) (v13 : AVal) (x16 : Int) (v20 : AVal) (x34 : Int) (v0 : AVal) (x15 : Int) (x33 : Int) (x38 : Int) (s : Int × Mm) (m1 : Mm) (t1 : Tr) : Prop :=
  match s with
  | (x39, m_6) => m_6 = m1 ∧ t1.get 39 = (.i .i64 x39) ∧ t1.get 1 = v1 ∧ t1.get 5 = v13 ∧ t1.get 6 = (.i .i64 x16) ∧ t1.get 7 = v20 ∧ t1.get 8 = (.i .i64 x34) ∧ t1.get 14 = v0 ∧ t1.get 15 = (.i .i64 x15) ∧ t1.get 16 = (.i .i64 x16) ∧ t1.get 33 = (.i .i64 x33) ∧ t1.get 34 = (.i .i64 x34) ∧ t1.get 37 = v20 ∧ t1.get 38 = (.i .i64 x38)
abbrev g57_J2 (v1 : AVal) (v13 : AVal) (x16 : Int) (v20 : AVal) (x34 : Int) (v0 : AVal) (x15 : Int) (x33 : Int) (x38 : Int) (o : Mm) (e : AExit) (m1 : Mm) (t1 : Tr) : Prop :=
  match o with
  | mo => e = (.exit 4) ∧ mo = m1 ∧ t1.get 1 = v1 ∧ t1.get 5 = v13 ∧ t1.get 6 = (.i .i64 x16) ∧ t1.get 7 = v20 ∧ t1.get 14 = v0 ∧ t1.get 15 = (.i .i64 x15) ∧ t1.get 16 = (.i .i64 x16) ∧ t1.get 33 = (.i .i64 x33) ∧ t1.get 34 = (.i .i64 x34)
def g57_b2 (M : Means) (ro : List ABlk) (v1 : AVal) (v13 : AVal) (x16 : Int) (v20 : AVal) (x34 : Int) (v0 : AVal) (x15 : Int) (x33 : Int) (x38 : Int) (x39 : Int) (m_6 : Mm) : Option ((Int × Mm) ⊕ (Mm)) :=
  forceB (ltI x39 x38) fun c40 =>
  cond c40 (
    bindO (evP .e (.ixS 1 (.c v20) (.c (.i .i64 x39)))) fun v42 =>
    bindO (ldM ro m_6 true 1 v42) fun v43 =>
    asI .u64 v43 fun x43 =>
    bindO (some (Mm.base m_6)) fun m_7 =>
    bindO (evP .e (.ixS 1 (.c v13) (.c (.i .i64 x16)))) fun v46 =>
    bindO (ldA ro m_6.h true 1 v46) fun v47 =>
    bindO (evP .e (.ixS 1 (.c v13) (.c (.i .i64 x16)))) fun v51 =>
    bindO (ldA ro m_6.h true 1 v51) fun v52 =>
    bindO (evP .e (.ixS 1 (.c v52) (.c (.i .i64 x34)))) fun v54 =>
    bindO (ldA ro m_6.h true 1 v54) fun v55 =>
    asI .u64 v55 fun x55 =>
    bindO (some (AVal.ifc 61 (.i .u64 x55))) fun v56 =>
    bindO (some (AVal.ifc 61 (.i .u64 x43))) fun v58 =>
    bindO (evP .e (.ixS 1 (.c v1) (.c (.i .i64 x39)))) fun v61 =>
    bindO (ldM ro m_7 true 1 v61) fun v62 =>
    bindO (evP .e (.ixS 1 (.c v62) (.c (.i .i64 x34)))) fun v64 =>
    bindO (ldM ro m_7 true 1 v64) fun v65 =>
    asI .u64 v65 fun x65 =>
    bindP (calliM M.call m_7 [(61, (126, [])), (106, (129, [])), (122, (131, []))] v58 [(.i .u64 x65)]) fun v66 m_8 =>
    asI .u64 v66 fun x66 =>
    chk (!Nat.blt m_8.lw m_6.h.length) <|
    bindP (calliM M.call m_8 [(61, (86, [])), (106, (128, [])), (122, (130, []))] v56 [(.i .u64 x66)]) fun v67 m_9 =>
    asI .u64 v67 fun x67 =>
    chk (!Nat.blt m_9.lw m_6.h.length) <|
    bindO (evP .e (.ixS 1 (.c v47) (.c (.i .i64 x34)))) fun v68 =>
    bindP (stepM ro m_9 (.st 1 (.c v68) (.c (.i .u64 x67)))) fun vn_1 m_10 =>
    bindO (some (Mm.join m_6 m_10)) fun m_11 =>
    forceI (wr .i64 (x39 + 1)) fun x69 =>
    some (.inl (x69, m_11))) (
    some (.inr m_6))
def g57_b1 (M : Means) (ro : List ABlk) (v1 : AVal) (v13 : AVal) (x16 : Int) (v20 : AVal) (v0 : AVal) (x15 : Int) (x33 : Int) (x34 : Int) (m_5 : Mm) : Option ((Int × Mm) ⊕ (Mm)) :=
  forceB (ltI x34 x33) fun c35 =>
  cond c35 (
    bindO (evP .e (.len false (.c v20))) fun v38 =>
    asI .i64 v38 fun x38 =>
    bindO (M.loop (S := Int × Mm) (R := Mm) (fun s => g57_b2 M ro v1 v13 x16 v20 x34 v0 x15 x33 x38 s.1 s.2) (0, m_5)) fun m_12 =>
    forceI (wr .i64 (x34 + 1)) fun x70 =>
    some (.inl (x70, m_12))) (
    some (.inr m_5))
def g57_b0 (M : Means) (ro : List ABlk) (v1 : AVal) (v13 : AVal) (v0 : AVal) (x15 : Int) (x16 : Int) (m_2 : Mm) : Option ((Int × Mm) ⊕ (Mm)) :=
  forceB (ltI x16 x15) fun c17 =>
  cond c17 (
    bindO (evP .e (.ixS 1 (.c v0) (.c (.i .i64 x16)))) fun v19 =>
    bindO (ldM ro m_2 true 1 v19) fun v20 =>
    bindO (evP .e (.ixS 1 (.c v1) (.c (.i .i64 0)))) fun v24 =>
    bindO (ldM ro m_2 true 1 v24) fun v25 =>
    bindO (evP .e (.len false (.c v25))) fun v26 =>
    asI .i64 v26 fun x26 =>
    bindP (stepM ro m_2 (.mk 61 1 8 [(AVal.i IntKind.u64 0)] (.c (.i .i64 x26)) (.c (.i .i64 x26)))) fun v27 m_3 =>
    bindO (evP .e (.ixS 1 (.c v13) (.c (.i .i64 x16)))) fun v28 =>
    bindP (stepM ro m_3 (.st 1 (.c v28) (.c v27))) fun vn m_4 =>
    bindO (evP .e (.ixS 1 (.c v13) (.c (.i .i64 x16)))) fun v31 =>
    bindO (ldM ro m_4 true 1 v31) fun v32 =>
    bindO (evP .e (.len false (.c v32))) fun v33 =>
    asI .i64 v33 fun x33 =>
    bindO (M.loop (S := Int × Mm) (R := Mm) (fun s => g57_b1 M ro v1 v13 x16 v20 v0 x15 x33 s.1 s.2) (0, m_4)) fun m_13 =>
    forceI (wr .i64 (x16 + 1)) fun x71 =>
    some (.inl (x71, m_13))) (
    some (.inr m_2))
def g57 (M : Means) (ro : List ABlk) (v0 : AVal) (v1 : AVal) (m0 : Mm) : Option (AVal × Heap × Nat × Nat) :=
  bindO (evP .e (.len false (.c v0))) fun v12 =>
  asI .i64 v12 fun x12 =>
  bindP (stepM ro m0 (.mk 63 1 24 [AVal.nsl] (.c (.i .i64 x12)) (.c (.i .i64 x12)))) fun v13 m_1 =>
  bindO (evP .e (.len false (.c v0))) fun v15 =>
  asI .i64 v15 fun x15 =>
  bindO (M.loop (S := Int × Mm) (R := Mm) (fun s => g57_b0 M ro v1 v13 v0 x15 s.1 s.2) (0, m_1)) fun m_14 =>
  finM m0.h.length (tupA [v13]) m_14

theorem g57_ok {ro : List ABlk} {O : Caller} {M : Means} (hM : M.Ok ⟨F, O⟩ ro) {v0 v1 h r} (ho : O 57 [v0, v1] h = none) (hr : g57 M ro v0 v1 ⟨h, h.length, h.length⟩ = some r) : callX ⟨F, O⟩ ro 57 [v0, v1] h = some r := by
  refine callX_of (F := ⟨F, O⟩) (fn := fn57) (g := g57 M ro v0 v1) ho rfl rfl hr ?_
  clear ho
  clear hr
  intro m0 t0 ht hr
  have g0 : t0.get 0 = v0 := ht 0
  have g1 : t0.get 1 = v1 := ht 1
  clear ht
  unfold g57 at hr
  refine w_seq ?_
  refine w_ops ?_
  refine wo_step (v := AVal.nsl) (s_pure (p_mv rfl)) ?_
  refine wo_nil ?_
  refine nx_norm ?_
  refine w_seq ?_
  refine w_ops ?_
  refine wo_step (v := v0) (s_pure (p_mv g0)) ?_
  have hq := bindO_inv hr
  clear hr
  obtain ⟨v12, e12, hr⟩ := hq
  have hq := asI_inv hr
  clear hr
  obtain ⟨x12, rfl, hr⟩ := hq
  refine wo_step (v := (.i .i64 x12)) (s_pure (o_len rfl e12)) ?_
  have hq := bindP_inv hr
  clear hr
  obtain ⟨v13, m_1, e13, hr⟩ := hq
  refine wo_step (v := v13) (s_mk rfl rfl e13) ?_
  refine wo_step (v := v13) (s_pure (p_mv rfl)) ?_
  refine wo_nil ?_
  refine nx_norm ?_
  refine w_seq ?_
  refine w_seq ?_
  refine w_ops ?_
  refine wo_step (v := v0) (s_pure (p_mv g0)) ?_
  have hq := bindO_inv hr
  clear hr
  obtain ⟨v15, e15, hr⟩ := hq
  have hq := asI_inv hr
  clear hr
  obtain ⟨x15, rfl, hr⟩ := hq
  refine wo_step (v := (.i .i64 x15)) (s_pure (o_len rfl e15)) ?_
  refine wo_step (v := (.i .i64 0)) (s_pure (p_mv rfl)) ?_
  refine wo_nil ?_
  refine nx_norm ?_
  refine w_block ?_
  have hq := bindO_inv hr
  clear hr
  obtain ⟨o_2, hl_2, hr⟩ := hq
  obtain ⟨n_2, hl_2⟩ := hM.loop _ _ _ hl_2
  refine jp_mono (w_loop _ (g57_I0 v1 v13 v0 x15) (g57_J0 v1 v13 v0 x15) ?_ n_2 _ _ _ _ hl_2 ⟨rfl, gl rfl, gl g1, gl rfl, gl rfl, gl rfl⟩) ?_
  · clear hr hl_2
    intro s mm_5 t_1 o hi hr
    obtain ⟨x16, m_2⟩ := s
    obtain ⟨rfl, g16, g1, g5, g14, g15⟩ := hi
    unfold g57_b0 at hr
    refine w_seq ?_
    refine w_ops ?_
    have hq := forceB_inv hr
    clear hr
    obtain ⟨c17, e17, hr⟩ := hq
    refine wo_step (v := (.b c17)) (s_pure (p_bin g16 g15 (b_lss.trans (cb e17)))) ?_
    refine wo_nil ?_
    refine nx_norm ?_
    refine w_seq ?_
    have hq := cond_inv hr
    clear hr
    rcases hq with ⟨rfl, hr⟩ | ⟨rfl, hr⟩
    · refine w_condT rfl ?_
      refine w_skip ?_
      refine nx_norm ?_
      refine w_seq ?_
      refine w_block ?_
      refine w_seq ?_
      refine w_ops ?_
      refine wo_step (v := (.i .i64 x16)) (s_pure (p_mv g16)) ?_
      have hq := bindO_inv hr
      clear hr
      obtain ⟨v19, e19, hr⟩ := hq
      refine wo_step (v := v19) (s_pure (o_ixS g14 g16 e19)) ?_
      have hq := bindO_inv hr
      clear hr
      obtain ⟨v20, e20, hr⟩ := hq
      refine wo_step (v := v20) (s_ld rfl e20) ?_
      refine wo_step (v := (.i .i64 x16)) (s_pure (p_mv rfl)) ?_
      refine wo_step (v := v20) (s_pure (p_mv rfl)) ?_
      refine wo_nil ?_
      refine nx_norm ?_
      refine w_seq ?_
      refine w_ops ?_
      refine wo_step (v := v13) (s_pure (p_mv g5)) ?_
      refine wo_step (v := (.i .i64 x16)) (s_pure (p_mv rfl)) ?_
      refine wo_step (v := v1) (s_pure (p_mv g1)) ?_
      have hq := bindO_inv hr
      clear hr
      obtain ⟨v24, e24, hr⟩ := hq
      refine wo_step (v := v24) (s_pure (o_ixS rfl rfl e24)) ?_
      have hq := bindO_inv hr
      clear hr
      obtain ⟨v25, e25, hr⟩ := hq
      refine wo_step (v := v25) (s_ld rfl e25) ?_
      have hq := bindO_inv hr
      clear hr
      obtain ⟨v26, e26, hr⟩ := hq
      have hq := asI_inv hr
      clear hr
      obtain ⟨x26, rfl, hr⟩ := hq
      refine wo_step (v := (.i .i64 x26)) (s_pure (o_len rfl e26)) ?_
      have hq := bindP_inv hr
      clear hr
      obtain ⟨v27, m_3, e27, hr⟩ := hq
      refine wo_step (v := v27) (s_mk rfl rfl e27) ?_
      have hq := bindO_inv hr
      clear hr
      obtain ⟨v28, e28, hr⟩ := hq
      refine wo_step (v := v28) (s_pure (o_ixS rfl rfl e28)) ?_
      have hq := bindP_inv hr
      clear hr
      obtain ⟨vn, m_4, en, hr⟩ := hq
      refine wo_stepN (s_st rfl rfl en) ?_
      refine wo_nil ?_
      refine nx_norm ?_
      refine w_seq ?_
      refine w_ops ?_
      refine wo_step (v := v13) (s_pure (p_mv g5)) ?_
      refine wo_step (v := (.i .i64 x16)) (s_pure (p_mv rfl)) ?_
      have hq := bindO_inv hr
      clear hr
      obtain ⟨v31, e31, hr⟩ := hq
      refine wo_step (v := v31) (s_pure (o_ixS rfl rfl e31)) ?_
      have hq := bindO_inv hr
      clear hr
      obtain ⟨v32, e32, hr⟩ := hq
      refine wo_step (v := v32) (s_ld rfl e32) ?_
      have hq := bindO_inv hr
      clear hr
      obtain ⟨v33, e33, hr⟩ := hq
      have hq := asI_inv hr
      clear hr
      obtain ⟨x33, rfl, hr⟩ := hq
      refine wo_step (v := (.i .i64 x33)) (s_pure (o_len rfl e33)) ?_
      refine wo_step (v := (.i .i64 0)) (s_pure (p_mv rfl)) ?_
      refine wo_nil ?_
      refine nx_norm ?_
      refine w_block ?_
      have hq := bindO_inv hr
      clear hr
      obtain ⟨o_1, hl_1, hr⟩ := hq
      obtain ⟨n_1, hl_1⟩ := hM.loop _ _ _ hl_1
      refine jp_mono (w_loop _ (g57_I1 v1 v13 x16 v20 v0 x15 x33) (g57_J1 v1 v13 x16 v20 v0 x15 x33) ?_ n_1 _ _ _ _ hl_1 ⟨rfl, gl rfl, gl g1, gl g5, gl rfl, gl rfl, gl g14, gl g15, gl g16, gl rfl⟩) ?_
      · clear hr hl_1
        intro s mm_3 t_2 o hi hr
        obtain ⟨x34, m_5⟩ := s
        obtain ⟨rfl, g34, g1, g5, g6, g7, g14, g15, g16, g33⟩ := hi
        unfold g57_b1 at hr
        refine w_seq ?_
        refine w_ops ?_
        have hq := forceB_inv hr
        clear hr
        obtain ⟨c35, e35, hr⟩ := hq
        refine wo_step (v := (.b c35)) (s_pure (p_bin g34 g33 (b_lss.trans (cb e35)))) ?_
        refine wo_nil ?_
        refine nx_norm ?_
        refine w_seq ?_
        have hq := cond_inv hr
        clear hr
        rcases hq with ⟨rfl, hr⟩ | ⟨rfl, hr⟩
        · refine w_condT rfl ?_
          refine w_skip ?_
          refine nx_norm ?_
          refine w_seq ?_
          refine w_block ?_
          refine w_seq ?_
          refine w_ops ?_
          refine wo_step (v := (.i .i64 x34)) (s_pure (p_mv g34)) ?_
          refine wo_step (v := (.i .i64 x34)) (s_pure (p_mv rfl)) ?_
          refine wo_nil ?_
          refine nx_norm ?_
          refine w_seq ?_
          refine w_ops ?_
          refine wo_step (v := v20) (s_pure (p_mv g7)) ?_
          have hq := bindO_inv hr
          clear hr
          obtain ⟨v38, e38, hr⟩ := hq
          have hq := asI_inv hr
          clear hr
          obtain ⟨x38, rfl, hr⟩ := hq
          refine wo_step (v := (.i .i64 x38)) (s_pure (o_len rfl e38)) ?_
          refine wo_step (v := (.i .i64 0)) (s_pure (p_mv rfl)) ?_
          refine wo_nil ?_
          refine nx_norm ?_
          refine w_block ?_
          have hq := bindO_inv hr
          clear hr
          obtain ⟨o, hl, hr⟩ := hq
          obtain ⟨n, hl⟩ := hM.loop _ _ _ hl
          refine jp_mono (w_loop _ (g57_I2 v1 v13 x16 v20 x34 v0 x15 x33 x38) (g57_J2 v1 v13 x16 v20 x34 v0 x15 x33 x38) ?_ n _ _ _ _ hl ⟨rfl, gl rfl, gl g1, gl g5, gl g6, gl g7, gl rfl, gl g14, gl g15, gl g16, gl g33, gl g34, gl rfl, gl rfl⟩) ?_
          · clear hr hl
            intro s mm_1 t_3 o hi hr
            obtain ⟨x39, m_6⟩ := s
            obtain ⟨rfl, g39, g1, g5, g6, g7, g8, g14, g15, g16, g33, g34, g37, g38⟩ := hi
            unfold g57_b2 at hr
            refine w_seq ?_
            refine w_ops ?_
            have hq := forceB_inv hr
            clear hr
            obtain ⟨c40, e40, hr⟩ := hq
            refine wo_step (v := (.b c40)) (s_pure (p_bin g39 g38 (b_lss.trans (cb e40)))) ?_
            refine wo_nil ?_
            refine nx_norm ?_
            refine w_seq ?_
            have hq := cond_inv hr
            clear hr
            rcases hq with ⟨rfl, hr⟩ | ⟨rfl, hr⟩
            · refine w_condT rfl ?_
              refine w_skip ?_
              refine nx_norm ?_
              refine w_seq ?_
              refine w_block ?_
              refine w_seq ?_
              refine w_ops ?_
              refine wo_step (v := (.i .i64 x39)) (s_pure (p_mv g39)) ?_
              have hq := bindO_inv hr
              clear hr
              obtain ⟨v42, e42, hr⟩ := hq
              refine wo_step (v := v42) (s_pure (o_ixS g37 g39 e42)) ?_
              have hq := bindO_inv hr
              clear hr
              obtain ⟨v43, e43, hr⟩ := hq
              have hq := asI_inv hr
              clear hr
              obtain ⟨x43, rfl, hr⟩ := hq
              refine wo_step (v := (.i .u64 x43)) (s_ld rfl e43) ?_
              refine wo_step (v := (.i .i64 x39)) (s_pure (p_mv rfl)) ?_
              refine wo_step (v := (.i .u64 x43)) (s_pure (p_mv rfl)) ?_
              refine wo_nil ?_
              refine nx_norm ?_
              have hq := bindO_inv hr
              clear hr
              obtain ⟨m_7, ef, hr⟩ := hq
              refine w_flt (af := true) rfl ef ?_
              refine wf_step (v := v13) (f_P rfl (s_pure (p_mv g5))) ?_
              refine wf_step (v := (.i .i64 x16)) (f_P rfl (s_pure (p_mv g6))) ?_
              have hq := bindO_inv hr
              clear hr
              obtain ⟨v46, e46, hr⟩ := hq
              refine wf_step (v := v46) (f_P rfl (s_pure (o_ixS rfl rfl e46))) ?_
              have hq := bindO_inv hr
              clear hr
              obtain ⟨v47, e47, hr⟩ := hq
              refine wf_step (v := v47) (f_ld rfl e47) ?_
              refine wf_step (v := (.i .i64 x34)) (f_P rfl (s_pure (p_mv g8))) ?_
              refine wf_step (v := v13) (f_P rfl (s_pure (p_mv g5))) ?_
              refine wf_step (v := (.i .i64 x16)) (f_P rfl (s_pure (p_mv g6))) ?_
              have hq := bindO_inv hr
              clear hr
              obtain ⟨v51, e51, hr⟩ := hq
              refine wf_step (v := v51) (f_P rfl (s_pure (o_ixS rfl rfl e51))) ?_
              have hq := bindO_inv hr
              clear hr
              obtain ⟨v52, e52, hr⟩ := hq
              refine wf_step (v := v52) (f_ld rfl e52) ?_
              refine wf_step (v := (.i .i64 x34)) (f_P rfl (s_pure (p_mv g8))) ?_
              have hq := bindO_inv hr
              clear hr
              obtain ⟨v54, e54, hr⟩ := hq
              refine wf_step (v := v54) (f_P rfl (s_pure (o_ixS rfl rfl e54))) ?_
              have hq := bindO_inv hr
              clear hr
              obtain ⟨v55, e55, hr⟩ := hq
              have hq := asI_inv hr
              clear hr
              obtain ⟨x55, rfl, hr⟩ := hq
              refine wf_step (v := (.i .u64 x55)) (f_ld rfl e55) ?_
              have hq := bindO_inv hr
              clear hr
              obtain ⟨v56, e56, hr⟩ := hq
              refine wf_step (v := v56) (f_P rfl (s_pure (o_mki rfl e56))) ?_
              refine wf_step (v := (.i .u64 x43)) (f_P rfl (s_pure (p_mv rfl))) ?_
              have hq := bindO_inv hr
              clear hr
              obtain ⟨v58, e58, hr⟩ := hq
              refine wf_step (v := v58) (f_P rfl (s_pure (o_mki rfl e58))) ?_
              refine wf_step (v := v1) (f_P rfl (s_pure (p_mv g1))) ?_
              refine wf_step (v := (.i .i64 x39)) (f_P rfl (s_pure (p_mv rfl))) ?_
              have hq := bindO_inv hr
              clear hr
              obtain ⟨v61, e61, hr⟩ := hq
              refine wf_step (v := v61) (f_P rfl (s_pure (o_ixS rfl rfl e61))) ?_
              have hq := bindO_inv hr
              clear hr
              obtain ⟨v62, e62, hr⟩ := hq
              refine wf_step (v := v62) (f_P rfl (s_ld rfl e62)) ?_
              refine wf_step (v := (.i .i64 x34)) (f_P rfl (s_pure (p_mv g8))) ?_
              have hq := bindO_inv hr
              clear hr
              obtain ⟨v64, e64, hr⟩ := hq
              refine wf_step (v := v64) (f_P rfl (s_pure (o_ixS rfl rfl e64))) ?_
              have hq := bindO_inv hr
              clear hr
              obtain ⟨v65, e65, hr⟩ := hq
              have hq := asI_inv hr
              clear hr
              obtain ⟨x65, rfl, hr⟩ := hq
              refine wf_step (v := (.i .u64 x65)) (f_P rfl (s_ld rfl e65)) ?_
              have hq := bindP_inv hr
              clear hr
              obtain ⟨v66, m_8, e66, hr⟩ := hq
              have hq := asI_inv hr
              clear hr
              obtain ⟨x66, rfl, hr⟩ := hq
              have hq := chk_inv hr
              clear hr
              obtain ⟨hc66, hr⟩ := hq
              refine wf_step (v := (.i .u64 x66)) (f_M hc66 (s_calli rfl (mc rfl mn) (calliM_le hM.call e66))) ?_
              have hq := bindP_inv hr
              clear hr
              obtain ⟨v67, m_9, e67, hr⟩ := hq
              have hq := asI_inv hr
              clear hr
              obtain ⟨x67, rfl, hr⟩ := hq
              have hq := chk_inv hr
              clear hr
              obtain ⟨hc67, hr⟩ := hq
              refine wf_step (v := (.i .u64 x67)) (f_M hc67 (s_calli rfl (mc rfl mn) (calliM_le hM.call e67))) ?_
              have hq := bindO_inv hr
              clear hr
              obtain ⟨v68, e68, hr⟩ := hq
              refine wf_step (v := v68) (f_P rfl (s_pure (o_ixS rfl rfl e68))) ?_
              have hq := bindP_inv hr
              clear hr
              obtain ⟨vn_1, m_10, en_1, hr⟩ := hq
              refine wf_stepN (f_F rfl (s_st rfl rfl en_1)) ?_
              have hq := bindO_inv hr
              clear hr
              obtain ⟨m_11, ef_1, hr⟩ := hq
              refine wf_end ef_1 ?_
              refine bk_norm ?_
              refine nx_norm ?_
              refine w_ops ?_
              have hq := forceI_inv hr
              clear hr
              obtain ⟨x69, e69, hr⟩ := hq
              refine wo_step (v := (.i .i64 x69)) (s_pure (p_bin g39 rfl (b_add.trans (ci e69)))) ?_
              refine wo_step (v := (.i .i64 x69)) (s_pure (p_mv rfl)) ?_
              refine wo_nil ?_
              cases hr
              exact ⟨_, _, rfl, rfl, rfl, gl rfl, gl g1, gl g5, gl g6, gl g7, gl g8, gl g14, gl g15, gl g16, gl g33, gl g34, gl g37, gl g38⟩
            · refine w_condF rfl ?_
              refine w_exit ?_
              refine nx_exit ?_
              cases hr
              exact ⟨_, _, rfl, ne_norm_exit, rfl, rfl, gl g1, gl g5, gl g6, gl g7, gl g14, gl g15, gl g16, gl g33, gl g34⟩
          · obtain ⟨m_12, ho⟩ : ∃ z, z = o := ⟨_, rfl⟩
            subst ho
            rintro _ mm t_4 ⟨rfl, rfl, g1, g5, g6, g7, g14, g15, g16, g33, g34⟩
            refine bk_hit ?_
            refine bk_norm ?_
            refine nx_norm ?_
            refine w_ops ?_
            have hq := forceI_inv hr
            clear hr
            obtain ⟨x70, e70, hr⟩ := hq
            refine wo_step (v := (.i .i64 x70)) (s_pure (p_bin g34 rfl (b_add.trans (ci e70)))) ?_
            refine wo_step (v := (.i .i64 x70)) (s_pure (p_mv rfl)) ?_
            refine wo_nil ?_
            cases hr
            exact ⟨_, _, rfl, rfl, rfl, gl rfl, gl g1, gl g5, gl g6, gl g7, gl g14, gl g15, gl g16, gl g33⟩
        · refine w_condF rfl ?_
          refine w_exit ?_
          refine nx_exit ?_
          cases hr
          exact ⟨_, _, rfl, ne_norm_exit, rfl, rfl, gl g1, gl g5, gl g14, gl g15, gl g16⟩
      · obtain ⟨m_13, ho⟩ : ∃ z, z = o_1 := ⟨_, rfl⟩
        subst ho
        rintro _ mm_2 t_5 ⟨rfl, rfl, g1, g5, g14, g15, g16⟩
        refine bk_hit ?_
        refine bk_norm ?_
        refine nx_norm ?_
        refine w_ops ?_
        have hq := forceI_inv hr
        clear hr
        obtain ⟨x71, e71, hr⟩ := hq
        refine wo_step (v := (.i .i64 x71)) (s_pure (p_bin g16 rfl (b_add.trans (ci e71)))) ?_
        refine wo_step (v := (.i .i64 x71)) (s_pure (p_mv rfl)) ?_
        refine wo_nil ?_
        cases hr
        exact ⟨_, _, rfl, rfl, rfl, gl rfl, gl g1, gl g5, gl g14, gl g15⟩
    · refine w_condF rfl ?_
      refine w_exit ?_
      refine nx_exit ?_
      cases hr
      exact ⟨_, _, rfl, ne_norm_exit, rfl, rfl, gl g5⟩
  · obtain ⟨m_14, ho⟩ : ∃ z, z = o_2 := ⟨_, rfl⟩
    subst ho
    rintro _ mm_4 t_6 ⟨rfl, rfl, g5⟩
    refine bk_hit ?_
    refine nx_norm ?_
    refine w_seq ?_
    refine w_ops ?_
    refine wo_step (v := v13) (s_pure (p_mv g5)) ?_
    refine wo_step (v := v13) (s_pure (p_mv rfl)) ?_
    refine wo_nil ?_
    refine nx_norm ?_
    refine w_ret ?_
    exact qf ret_ok (rt rfl rn) hr

/- dibber/dibberref03.counts -/
abbrev g58_I0 (v0 : AVal) (s1 : List UInt8) (x2 : Int) (v16 : AVal) (s : Int × Mm) (m1 : Mm) (t1 : Tr) : Prop :=
  match s with
  | (x8, m_2) => m_2 = m1 ∧ t1.get 8 = (.i .i64 x8) ∧ t1.get 0 = v0 ∧ t1.get 1 = (.s s1) ∧ t1.get 2 = (.i .i64 x2) ∧ t1.get 7 = v16
abbrev g58_J0 (v0 : AVal) (s1 : List UInt8) (x2 : Int) (v16 : AVal) (o : Mm) (e : AExit) (m1 : Mm) (t1 : Tr) : Prop :=
  match o with
  | mo => e = (.exit 0) ∧ mo = m1 ∧ t1.get 0 = v0 ∧ t1.get 2 = (.i .i64 x2) ∧ t1.get 7 = v16
def g58_b0 (M : Means) (ro : List ABlk) (v0 : AVal) (s1 : List UInt8) (x2 : Int) (v16 : AVal) (x8 : Int) (m_2 : Mm) : Option ((Int × Mm) ⊕ (Mm)) :=
  bindO (evP .e (.len true (.c (.s s1)))) fun v19 =>
  asI .i64 v19 fun x19 =>
  forceB (ltI x8 x19) fun c20 =>
  cond c20 (
    bindO (evP .e (.ixStr (.c (.s s1)) (.c (.i .i64 x8)))) fun v26 =>
    asI .u8 v26 fun x26 =>
    forceI (wr .u8 (x26 - 97)) fun x27 =>
    forceI (wr .i64 x27) fun x28 =>
    bindO (evP .e (.ixS 1 (.c v16) (.c (.i .i64 x28)))) fun v29 =>
    bindO (ldM ro m_2 true 1 v29) fun v30 =>
    asI .u64 v30 fun x30 =>
    forceI (wr .u64 (x30 + 1)) fun x31 =>
    bindO (evP .e (.ixS 1 (.c v16) (.c (.i .i64 x28)))) fun v32 =>
    bindP (stepM ro m_2 (.st 1 (.c v32) (.c (.i .u64 x31)))) fun vn m_3 =>
    forceI (wr .i64 (x8 + 1)) fun x22 =>
    some (.inl (x22, m_3))) (
    some (.inr m_2))
abbrev g58_I1 (v0 : AVal) (x2 : Int) (s : AVal × Int × Mm) (m1 : Mm) (t1 : Tr) : Prop :=
  match s with
  | (v7, x9, m_5) => m_5 = m1 ∧ t1.get 7 = v7 ∧ t1.get 9 = (.i .i64 x9) ∧ t1.get 0 = v0 ∧ t1.get 2 = (.i .i64 x2)
abbrev g58_J1 (v0 : AVal) (x2 : Int) (o : (AVal × Mm)) (e : AExit) (m1 : Mm) (t1 : Tr) : Prop :=
  match o with
  | (y7, mo) => e = (.exit 2) ∧ mo = m1 ∧ t1.get 7 = y7
abbrev g58_I2 (v0 : AVal) (x2 : Int) (v7 : AVal) (x9 : Int) (v40 : AVal) (s : Int × Mm) (m1 : Mm) (t1 : Tr) : Prop :=
  match s with
  | (x11, m_7) => m_7 = m1 ∧ t1.get 11 = (.i .i64 x11) ∧ t1.get 0 = v0 ∧ t1.get 2 = (.i .i64 x2) ∧ t1.get 7 = v7 ∧ t1.get 9 = (.i .i64 x9) ∧ t1.get 10 = v40
abbrev g58_J2 (v0 : AVal) (x2 : Int) (v7 : AVal) (x9 : Int) (v40 : AVal) (o : Mm) (e : AExit) (m1 : Mm) (t1 : Tr) : Prop :=
  match o with
  | mo => e = (.exit 4) ∧ mo = m1 ∧ t1.get 0 = v0 ∧ t1.get 2 = (.i .i64 x2) ∧ t1.get 9 = (.i .i64 x9) ∧ t1.get 10 = v40
abbrev g58_I3 (v0 : AVal) (x2 : Int) (v7 : AVal) (x9 : Int) (v40 : AVal) (x11 : Int) (s : Int × Mm) (m1 : Mm) (t1 : Tr) : Prop :=
  match s with
  | (x12, m_8) => m_8 = m1 ∧ t1.get 12 = (.i .i64 x12) ∧ t1.get 0 = v0 ∧ t1.get 2 = (.i .i64 x2) ∧ t1.get 7 = v7 ∧ t1.get 9 = (.i .i64 x9) ∧ t1.get 10 = v40 ∧ t1.get 11 = (.i .i64 x11)
abbrev g58_J3 (v0 : AVal) (x2 : Int) (v7 : AVal) (x9 : Int) (v40 : AVal) (x11 : Int) (o : Mm) (e : AExit) (m1 : Mm) (t1 : Tr) : Prop :=
  match o with
  | mo => e = (.exit 6) ∧ mo = m1 ∧ t1.get 0 = v0 ∧ t1.get 2 = (.i .i64 x2) ∧ t1.get 7 = v7 ∧ t1.get 9 = (.i .i64 x9) ∧ t1.get 10 = v40 ∧ t1.get 11 = (.i .i64 x11)
def g58_b3 (M : Means) (ro : List ABlk) (v0 : AVal) (x2 : Int) (v7 : AVal) (x9 : Int) (v40 : AVal) (x11 : Int) (x12 : Int) (m_8 : Mm) : Option ((Int × Mm) ⊕ (Mm)) :=
  bindO (evP .e (.ixS 1 (.c v0) (.c (.i .i64 x11)))) fun v50 =>
  bindO (ldM ro m_8 true 1 v50) fun v51 =>
  asS v51 fun s51 =>
  bindO (evP .e (.len true (.c (.s s51)))) fun v52 =>
  asI .i64 v52 fun x52 =>
  forceB (ltI x12 x52) fun c53 =>
  cond c53 (
    bindO (evP .e (.ixS 1 (.c v0) (.c (.i .i64 x11)))) fun v58 =>
    bindO (ldM ro m_8 true 1 v58) fun v59 =>
    asS v59 fun s59 =>
    bindO (evP .e (.ixStr (.c (.s s59)) (.c (.i .i64 x12)))) fun v61 =>
    asI .u8 v61 fun x61 =>
    forceI (wr .u8 (x61 - 97)) fun x62 =>
    forceI (wr .i64 x62) fun x63 =>
    bindO (some (Mm.base m_8)) fun m_9 =>
    bindO (evP .e (.ixS 1 (.c v40) (.c (.i .i64 x63)))) fun v68 =>
    bindO (ldM ro m_9 true 1 v68) fun v69 =>
    asI .u64 v69 fun x69 =>
    bindO (evP .e (.ixS 1 (.c v7) (.c (.i .i64 x11)))) fun v72 =>
    bindO (ldM ro m_9 true 1 v72) fun v73 =>
    asI .u64 v73 fun x73 =>
    bindP (callM M.call m_9 87 [(.i .u64 x69), (.i .u64 x73)]) fun v74 m_10 =>
    asI .u64 v74 fun x74 =>
    bindO (evP .e (.ixS 1 (.c v40) (.c (.i .i64 x63)))) fun v75 =>
    bindP (stepM ro m_10 (.st 1 (.c v75) (.c (.i .u64 x74)))) fun vn_1 m_11 =>
    bindO (some (Mm.join m_8 m_11)) fun m_12 =>
    forceI (wr .i64 (x12 + 1)) fun x55 =>
    some (.inl (x55, m_12))) (
    some (.inr m_8))
def g58_b2 (M : Means) (ro : List ABlk) (v0 : AVal) (x2 : Int) (v7 : AVal) (x9 : Int) (v40 : AVal) (x11 : Int) (m_7 : Mm) : Option ((Int × Mm) ⊕ (Mm)) :=
  bindO (evP .e (.len false (.c v0))) fun v43 =>
  asI .i64 v43 fun x43 =>
  forceB (ltI x11 x43) fun c44 =>
  cond c44 (
    bindO (M.loop (S := Int × Mm) (R := Mm) (fun s => g58_b3 M ro v0 x2 v7 x9 v40 x11 s.1 s.2) (0, m_7)) fun m_13 =>
    forceI (wr .i64 (x11 + 1)) fun x46 =>
    some (.inl (x46, m_13))) (
    some (.inr m_7))
def g58_b1 (M : Means) (ro : List ABlk) (v0 : AVal) (x2 : Int) (v7 : AVal) (x9 : Int) (m_5 : Mm) : Option ((AVal × Int × Mm) ⊕ ((AVal × Mm))) :=
  forceB (ltI x9 x2) fun c35 =>
  cond c35 (
    bindO (evP .e (.len false (.c v0))) fun v39 =>
    asI .i64 v39 fun x39 =>
    bindP (stepM ro m_5 (.mk 60 1 8 [(AVal.i IntKind.u64 0)] (.c (.i .i64 x39)) (.c (.i .i64 x39)))) fun v40 m_6 =>
    bindO (M.loop (S := Int × Mm) (R := Mm) (fun s => g58_b2 M ro v0 x2 v7 x9 v40 s.1 s.2) (0, m_6)) fun m_14 =>
    forceI (wr .i64 (x9 + 1)) fun x37 =>
    some (.inl (v40, x37, m_14))) (
    some (.inr (v7, m_5)))
def g58 (M : Means) (ro : List ABlk) (v0 : AVal) (s1 : List UInt8) (x2 : Int) (m0 : Mm) : Option (AVal × Heap × Nat × Nat) :=
  bindO (evP .e (.len false (.c v0))) fun v15 =>
  asI .i64 v15 fun x15 =>
  bindP (stepM ro m0 (.mk 60 1 8 [(AVal.i IntKind.u64 0)] (.c (.i .i64 x15)) (.c (.i .i64 x15)))) fun v16 m_1 =>
  bindO (M.loop (S := Int × Mm) (R := Mm) (fun s => g58_b0 M ro v0 s1 x2 v16 s.1 s.2) (0, m_1)) fun m_4 =>
  bindO (M.loop (S := AVal × Int × Mm) (R := (AVal × Mm)) (fun s => g58_b1 M ro v0 x2 s.1 s.2.1 s.2.2) (v16, 0, m_4)) fun ⟨v7_1, m_15⟩ =>
  finM m0.h.length (tupA [v7_1]) m_15

theorem g58_ok {ro : List ABlk} {O : Caller} {M : Means} (hM : M.Ok ⟨F, O⟩ ro) {v0 s1 x2 h r} (ho : O 58 [v0, (.s s1), (.i .i64 x2)] h = none) (hr : g58 M ro v0 s1 x2 ⟨h, h.length, h.length⟩ = some r) : callX ⟨F, O⟩ ro 58 [v0, (.s s1), (.i .i64 x2)] h = some r := by
  refine callX_of (F := ⟨F, O⟩) (fn := fn58) (g := g58 M ro v0 s1 x2) ho rfl rfl hr ?_
  clear ho
  clear hr
  intro m0 t0 ht hr
  have g0 : t0.get 0 = v0 := ht 0
  have g1 : t0.get 1 = (.s s1) := ht 1
  have g2 : t0.get 2 = (.i .i64 x2) := ht 2
  clear ht
  unfold g58 at hr
  refine w_seq ?_
  refine w_ops ?_
  refine wo_step (v := AVal.nsl) (s_pure (p_mv rfl)) ?_
  refine wo_nil ?_
  refine nx_norm ?_
  refine w_seq ?_
  refine w_ops ?_
  refine wo_step (v := v0) (s_pure (p_mv g0)) ?_
  have hq := bindO_inv hr
  clear hr
  obtain ⟨v15, e15, hr⟩ := hq
  have hq := asI_inv hr
  clear hr
  obtain ⟨x15, rfl, hr⟩ := hq
  refine wo_step (v := (.i .i64 x15)) (s_pure (o_len rfl e15)) ?_
  have hq := bindP_inv hr
  clear hr
  obtain ⟨v16, m_1, e16, hr⟩ := hq
  refine wo_step (v := v16) (s_mk rfl rfl e16) ?_
  refine wo_step (v := v16) (s_pure (p_mv rfl)) ?_
  refine wo_nil ?_
  refine nx_norm ?_
  refine w_seq ?_
  refine w_seq ?_
  refine w_ops ?_
  refine wo_step (v := (.i .i64 0)) (s_pure (p_mv rfl)) ?_
  refine wo_nil ?_
  refine nx_norm ?_
  refine w_block ?_
  have hq := bindO_inv hr
  clear hr
  obtain ⟨o, hl_3, hr⟩ := hq
  obtain ⟨n_3, hl_3⟩ := hM.loop _ _ _ hl_3
  refine jp_mono (w_loop _ (g58_I0 v0 s1 x2 v16) (g58_J0 v0 s1 x2 v16) ?_ n_3 _ _ _ _ hl_3 ⟨rfl, gl rfl, gl g0, gl g1, gl g2, gl rfl⟩) ?_
  · clear hr hl_3
    intro s mm_7 t_1 o hi hr
    obtain ⟨x8, m_2⟩ := s
    obtain ⟨rfl, g8, g0, g1, g2, g7⟩ := hi
    unfold g58_b0 at hr
    refine w_seq ?_
    refine w_seq ?_
    refine w_ops ?_
    refine wo_step (v := (.i .i64 x8)) (s_pure (p_mv g8)) ?_
    refine wo_step (v := (.s s1)) (s_pure (p_mv g1)) ?_
    have hq := bindO_inv hr
    clear hr
    obtain ⟨v19, e19, hr⟩ := hq
    have hq := asI_inv hr
    clear hr
    obtain ⟨x19, rfl, hr⟩ := hq
    refine wo_step (v := (.i .i64 x19)) (s_pure (o_len rfl e19)) ?_
    have hq := forceB_inv hr
    clear hr
    obtain ⟨c20, e20, hr⟩ := hq
    refine wo_step (v := (.b c20)) (s_pure (p_bin rfl rfl (b_lss.trans (cb e20)))) ?_
    refine wo_nil ?_
    refine nx_norm ?_
    have hq := cond_inv hr
    clear hr
    rcases hq with ⟨rfl, hr⟩ | ⟨rfl, hr⟩
    · refine w_condT rfl ?_
      refine w_skip ?_
      refine nx_norm ?_
      refine w_seq ?_
      refine w_block ?_
      refine w_ops ?_
      refine wo_step (v := v16) (s_pure (p_mv g7)) ?_
      refine wo_step (v := (.s s1)) (s_pure (p_mv g1)) ?_
      refine wo_step (v := (.i .i64 x8)) (s_pure (p_mv g8)) ?_
      have hq := bindO_inv hr
      clear hr
      obtain ⟨v26, e26, hr⟩ := hq
      have hq := asI_inv hr
      clear hr
      obtain ⟨x26, rfl, hr⟩ := hq
      refine wo_step (v := (.i .u8 x26)) (s_pure (o_ixStr rfl rfl e26)) ?_
      have hq := forceI_inv hr
      clear hr
      obtain ⟨x27, e27, hr⟩ := hq
      refine wo_step (v := (.i .u8 x27)) (s_pure (p_bin rfl rfl (b_sub.trans (ci e27)))) ?_
      have hq := forceI_inv hr
      clear hr
      obtain ⟨x28, e28, hr⟩ := hq
      refine wo_step (v := (.i .i64 x28)) (s_pure ((p_conv rfl).trans (ci e28))) ?_
      have hq := bindO_inv hr
      clear hr
      obtain ⟨v29, e29, hr⟩ := hq
      refine wo_step (v := v29) (s_pure (o_ixS rfl rfl e29)) ?_
      have hq := bindO_inv hr
      clear hr
      obtain ⟨v30, e30, hr⟩ := hq
      have hq := asI_inv hr
      clear hr
      obtain ⟨x30, rfl, hr⟩ := hq
      refine wo_step (v := (.i .u64 x30)) (s_ld rfl e30) ?_
      have hq := forceI_inv hr
      clear hr
      obtain ⟨x31, e31, hr⟩ := hq
      refine wo_step (v := (.i .u64 x31)) (s_pure (p_bin rfl rfl (b_add.trans (ci e31)))) ?_
      have hq := bindO_inv hr
      clear hr
      obtain ⟨v32, e32, hr⟩ := hq
      refine wo_step (v := v32) (s_pure (o_ixS rfl rfl e32)) ?_
      have hq := bindP_inv hr
      clear hr
      obtain ⟨vn, m_3, en, hr⟩ := hq
      refine wo_stepN (s_st rfl rfl en) ?_
      refine wo_nil ?_
      refine bk_norm ?_
      refine nx_norm ?_
      refine w_ops ?_
      refine wo_step (v := (.i .i64 x8)) (s_pure (p_mv g8)) ?_
      have hq := forceI_inv hr
      clear hr
      obtain ⟨x22, e22, hr⟩ := hq
      refine wo_step (v := (.i .i64 x22)) (s_pure (p_bin rfl rfl (b_add.trans (ci e22)))) ?_
      refine wo_step (v := (.i .i64 x22)) (s_pure (p_mv rfl)) ?_
      refine wo_nil ?_
      cases hr
      exact ⟨_, _, rfl, rfl, rfl, gl rfl, gl g0, gl g1, gl g2, gl g7⟩
    · refine w_condF rfl ?_
      refine w_exit ?_
      refine nx_exit ?_
      cases hr
      exact ⟨_, _, rfl, ne_norm_exit, rfl, rfl, gl g0, gl g2, gl g7⟩
  · obtain ⟨m_4, ho⟩ : ∃ z, z = o := ⟨_, rfl⟩
    subst ho
    rintro _ mm_6 t_2 ⟨rfl, rfl, g0, g2, g7⟩
    refine bk_hit ?_
    refine nx_norm ?_
    refine w_seq ?_
    refine w_seq ?_
    refine w_ops ?_
    refine wo_step (v := (.i .i64 0)) (s_pure (p_mv rfl)) ?_
    refine wo_nil ?_
    refine nx_norm ?_
    refine w_block ?_
    have hq := bindO_inv hr
    clear hr
    obtain ⟨o_3, hl_2, hr⟩ := hq
    obtain ⟨n_2, hl_2⟩ := hM.loop _ _ _ hl_2
    refine jp_mono (w_loop _ (g58_I1 v0 x2) (g58_J1 v0 x2) ?_ n_2 _ _ _ _ hl_2 ⟨rfl, gl g7, gl rfl, gl g0, gl g2⟩) ?_
    · clear hr hl_2
      intro s mm_5 t_3 o hi hr
      obtain ⟨v7, x9, m_5⟩ := s
      obtain ⟨rfl, g7, g9, g0, g2⟩ := hi
      unfold g58_b1 at hr
      refine w_seq ?_
      refine w_seq ?_
      refine w_ops ?_
      refine wo_step (v := (.i .i64 x9)) (s_pure (p_mv g9)) ?_
      refine wo_step (v := (.i .i64 x2)) (s_pure (p_mv g2)) ?_
      have hq := forceB_inv hr
      clear hr
      obtain ⟨c35, e35, hr⟩ := hq
      refine wo_step (v := (.b c35)) (s_pure (p_bin rfl rfl (b_lss.trans (cb e35)))) ?_
      refine wo_nil ?_
      refine nx_norm ?_
      have hq := cond_inv hr
      clear hr
      rcases hq with ⟨rfl, hr⟩ | ⟨rfl, hr⟩
      · refine w_condT rfl ?_
        refine w_skip ?_
        refine nx_norm ?_
        refine w_seq ?_
        refine w_block ?_
        refine w_seq ?_
        refine w_ops ?_
        refine wo_step (v := v0) (s_pure (p_mv g0)) ?_
        have hq := bindO_inv hr
        clear hr
        obtain ⟨v39, e39, hr⟩ := hq
        have hq := asI_inv hr
        clear hr
        obtain ⟨x39, rfl, hr⟩ := hq
        refine wo_step (v := (.i .i64 x39)) (s_pure (o_len rfl e39)) ?_
        have hq := bindP_inv hr
        clear hr
        obtain ⟨v40, m_6, e40, hr⟩ := hq
        refine wo_step (v := v40) (s_mk rfl rfl e40) ?_
        refine wo_step (v := v40) (s_pure (p_mv rfl)) ?_
        refine wo_nil ?_
        refine nx_norm ?_
        refine w_seq ?_
        refine w_seq ?_
        refine w_ops ?_
        refine wo_step (v := (.i .i64 0)) (s_pure (p_mv rfl)) ?_
        refine wo_nil ?_
        refine nx_norm ?_
        refine w_block ?_
        have hq := bindO_inv hr
        clear hr
        obtain ⟨o_2, hl_1, hr⟩ := hq
        obtain ⟨n_1, hl_1⟩ := hM.loop _ _ _ hl_1
        refine jp_mono (w_loop _ (g58_I2 v0 x2 v7 x9 v40) (g58_J2 v0 x2 v7 x9 v40) ?_ n_1 _ _ _ _ hl_1 ⟨rfl, gl rfl, gl g0, gl g2, gl g7, gl g9, gl rfl⟩) ?_
        · clear hr hl_1
          intro s mm_3 t_4 o hi hr
          obtain ⟨x11, m_7⟩ := s
          obtain ⟨rfl, g11, g0, g2, g7, g9, g10⟩ := hi
          unfold g58_b2 at hr
          refine w_seq ?_
          refine w_seq ?_
          refine w_ops ?_
          refine wo_step (v := (.i .i64 x11)) (s_pure (p_mv g11)) ?_
          refine wo_step (v := v0) (s_pure (p_mv g0)) ?_
          have hq := bindO_inv hr
          clear hr
          obtain ⟨v43, e43, hr⟩ := hq
          have hq := asI_inv hr
          clear hr
          obtain ⟨x43, rfl, hr⟩ := hq
          refine wo_step (v := (.i .i64 x43)) (s_pure (o_len rfl e43)) ?_
          have hq := forceB_inv hr
          clear hr
          obtain ⟨c44, e44, hr⟩ := hq
          refine wo_step (v := (.b c44)) (s_pure (p_bin rfl rfl (b_lss.trans (cb e44)))) ?_
          refine wo_nil ?_
          refine nx_norm ?_
          have hq := cond_inv hr
          clear hr
          rcases hq with ⟨rfl, hr⟩ | ⟨rfl, hr⟩
          · refine w_condT rfl ?_
            refine w_skip ?_
            refine nx_norm ?_
            refine w_seq ?_
            refine w_block ?_
            refine w_seq ?_
            refine w_ops ?_
            refine wo_step (v := (.i .i64 0)) (s_pure (p_mv rfl)) ?_
            refine wo_nil ?_
            refine nx_norm ?_
            refine w_block ?_
            have hq := bindO_inv hr
            clear hr
            obtain ⟨o_1, hl, hr⟩ := hq
            obtain ⟨n, hl⟩ := hM.loop _ _ _ hl
            refine jp_mono (w_loop _ (g58_I3 v0 x2 v7 x9 v40 x11) (g58_J3 v0 x2 v7 x9 v40 x11) ?_ n _ _ _ _ hl ⟨rfl, gl rfl, gl g0, gl g2, gl g7, gl g9, gl g10, gl g11⟩) ?_
            · clear hr hl
              intro s mm_1 t_5 o hi hr
              obtain ⟨x12, m_8⟩ := s
              obtain ⟨rfl, g12, g0, g2, g7, g9, g10, g11⟩ := hi
              unfold g58_b3 at hr
              refine w_seq ?_
              refine w_seq ?_
              refine w_ops ?_
              refine wo_step (v := (.i .i64 x12)) (s_pure (p_mv g12)) ?_
              refine wo_step (v := v0) (s_pure (p_mv g0)) ?_
              refine wo_step (v := (.i .i64 x11)) (s_pure (p_mv g11)) ?_
              have hq := bindO_inv hr
              clear hr
              obtain ⟨v50, e50, hr⟩ := hq
              refine wo_step (v := v50) (s_pure (o_ixS rfl rfl e50)) ?_
              have hq := bindO_inv hr
              clear hr
              obtain ⟨v51, e51, hr⟩ := hq
              have hq := asS_inv hr
              clear hr
              obtain ⟨s51, rfl, hr⟩ := hq
              refine wo_step (v := (.s s51)) (s_ld rfl e51) ?_
              have hq := bindO_inv hr
              clear hr
              obtain ⟨v52, e52, hr⟩ := hq
              have hq := asI_inv hr
              clear hr
              obtain ⟨x52, rfl, hr⟩ := hq
              refine wo_step (v := (.i .i64 x52)) (s_pure (o_len rfl e52)) ?_
              have hq := forceB_inv hr
              clear hr
              obtain ⟨c53, e53, hr⟩ := hq
              refine wo_step (v := (.b c53)) (s_pure (p_bin rfl rfl (b_lss.trans (cb e53)))) ?_
              refine wo_nil ?_
              refine nx_norm ?_
              have hq := cond_inv hr
              clear hr
              rcases hq with ⟨rfl, hr⟩ | ⟨rfl, hr⟩
              · refine w_condT rfl ?_
                refine w_skip ?_
                refine nx_norm ?_
                refine w_seq ?_
                refine w_block ?_
                refine w_seq ?_
                refine w_ops ?_
                refine wo_step (v := v0) (s_pure (p_mv g0)) ?_
                refine wo_step (v := (.i .i64 x11)) (s_pure (p_mv g11)) ?_
                have hq := bindO_inv hr
                clear hr
                obtain ⟨v58, e58, hr⟩ := hq
                refine wo_step (v := v58) (s_pure (o_ixS rfl rfl e58)) ?_
                have hq := bindO_inv hr
                clear hr
                obtain ⟨v59, e59, hr⟩ := hq
                have hq := asS_inv hr
                clear hr
                obtain ⟨s59, rfl, hr⟩ := hq
                refine wo_step (v := (.s s59)) (s_ld rfl e59) ?_
                refine wo_step (v := (.i .i64 x12)) (s_pure (p_mv g12)) ?_
                have hq := bindO_inv hr
                clear hr
                obtain ⟨v61, e61, hr⟩ := hq
                have hq := asI_inv hr
                clear hr
                obtain ⟨x61, rfl, hr⟩ := hq
                refine wo_step (v := (.i .u8 x61)) (s_pure (o_ixStr rfl rfl e61)) ?_
                have hq := forceI_inv hr
                clear hr
                obtain ⟨x62, e62, hr⟩ := hq
                refine wo_step (v := (.i .u8 x62)) (s_pure (p_bin rfl rfl (b_sub.trans (ci e62)))) ?_
                have hq := forceI_inv hr
                clear hr
                obtain ⟨x63, e63, hr⟩ := hq
                refine wo_step (v := (.i .i64 x63)) (s_pure ((p_conv rfl).trans (ci e63))) ?_
                refine wo_step (v := (.i .i64 x63)) (s_pure (p_mv rfl)) ?_
                refine wo_nil ?_
                refine nx_norm ?_
                have hq := bindO_inv hr
                clear hr
                obtain ⟨m_9, ef, hr⟩ := hq
                refine w_flt (af := false) rfl ef ?_
                refine wf_step (v := v40) (f_P rfl (s_pure (p_mv g10))) ?_
                refine wf_step (v := (.i .i64 x63)) (f_P rfl (s_pure (p_mv rfl))) ?_
                refine wf_step (v := v40) (f_P rfl (s_pure (p_mv g10))) ?_
                refine wf_step (v := (.i .i64 x63)) (f_P rfl (s_pure (p_mv rfl))) ?_
                have hq := bindO_inv hr
                clear hr
                obtain ⟨v68, e68, hr⟩ := hq
                refine wf_step (v := v68) (f_P rfl (s_pure (o_ixS rfl rfl e68))) ?_
                have hq := bindO_inv hr
                clear hr
                obtain ⟨v69, e69, hr⟩ := hq
                have hq := asI_inv hr
                clear hr
                obtain ⟨x69, rfl, hr⟩ := hq
                refine wf_step (v := (.i .u64 x69)) (f_P rfl (s_ld rfl e69)) ?_
                refine wf_step (v := v7) (f_P rfl (s_pure (p_mv g7))) ?_
                refine wf_step (v := (.i .i64 x11)) (f_P rfl (s_pure (p_mv g11))) ?_
                have hq := bindO_inv hr
                clear hr
                obtain ⟨v72, e72, hr⟩ := hq
                refine wf_step (v := v72) (f_P rfl (s_pure (o_ixS rfl rfl e72))) ?_
                have hq := bindO_inv hr
                clear hr
                obtain ⟨v73, e73, hr⟩ := hq
                have hq := asI_inv hr
                clear hr
                obtain ⟨x73, rfl, hr⟩ := hq
                refine wf_step (v := (.i .u64 x73)) (f_P rfl (s_ld rfl e73)) ?_
                have hq := bindP_inv hr
                clear hr
                obtain ⟨v74, m_10, e74, hr⟩ := hq
                have hq := asI_inv hr
                clear hr
                obtain ⟨x74, rfl, hr⟩ := hq
                refine wf_step (v := (.i .u64 x74)) (f_N (s_call (mc rfl (mc rfl mn)) (callM_le hM.call e74))) ?_
                have hq := bindO_inv hr
                clear hr
                obtain ⟨v75, e75, hr⟩ := hq
                refine wf_step (v := v75) (f_P rfl (s_pure (o_ixS rfl rfl e75))) ?_
                have hq := bindP_inv hr
                clear hr
                obtain ⟨vn_1, m_11, en_1, hr⟩ := hq
                refine wf_stepN (f_N (s_st rfl rfl en_1)) ?_
                have hq := bindO_inv hr
                clear hr
                obtain ⟨m_12, ef_1, hr⟩ := hq
                refine wf_end ef_1 ?_
                refine bk_norm ?_
                refine nx_norm ?_
                refine w_ops ?_
                refine wo_step (v := (.i .i64 x12)) (s_pure (p_mv g12)) ?_
                have hq := forceI_inv hr
                clear hr
                obtain ⟨x55, e55, hr⟩ := hq
                refine wo_step (v := (.i .i64 x55)) (s_pure (p_bin rfl rfl (b_add.trans (ci e55)))) ?_
                refine wo_step (v := (.i .i64 x55)) (s_pure (p_mv rfl)) ?_
                refine wo_nil ?_
                cases hr
                exact ⟨_, _, rfl, rfl, rfl, gl rfl, gl g0, gl g2, gl g7, gl g9, gl g10, gl g11⟩
              · refine w_condF rfl ?_
                refine w_exit ?_
                refine nx_exit ?_
                cases hr
                exact ⟨_, _, rfl, ne_norm_exit, rfl, rfl, gl g0, gl g2, gl g7, gl g9, gl g10, gl g11⟩
            · obtain ⟨m_13, ho⟩ : ∃ z, z = o_1 := ⟨_, rfl⟩
              subst ho
              rintro _ mm t_6 ⟨rfl, rfl, g0, g2, g7, g9, g10, g11⟩
              refine bk_hit ?_
              refine bk_norm ?_
              refine nx_norm ?_
              refine w_ops ?_
              refine wo_step (v := (.i .i64 x11)) (s_pure (p_mv g11)) ?_
              have hq := forceI_inv hr
              clear hr
              obtain ⟨x46, e46, hr⟩ := hq
              refine wo_step (v := (.i .i64 x46)) (s_pure (p_bin rfl rfl (b_add.trans (ci e46)))) ?_
              refine wo_step (v := (.i .i64 x46)) (s_pure (p_mv rfl)) ?_
              refine wo_nil ?_
              cases hr
              exact ⟨_, _, rfl, rfl, rfl, gl rfl, gl g0, gl g2, gl g7, gl g9, gl g10⟩
          · refine w_condF rfl ?_
            refine w_exit ?_
            refine nx_exit ?_
            cases hr
            exact ⟨_, _, rfl, ne_norm_exit, rfl, rfl, gl g0, gl g2, gl g9, gl g10⟩
        · obtain ⟨m_14, ho⟩ : ∃ z, z = o_2 := ⟨_, rfl⟩
          subst ho
          rintro _ mm_2 t_7 ⟨rfl, rfl, g0, g2, g9, g10⟩
          refine bk_hit ?_
          refine nx_norm ?_
          refine w_ops ?_
          refine wo_step (v := v40) (s_pure (p_mv g10)) ?_
          refine wo_step (v := v40) (s_pure (p_mv rfl)) ?_
          refine wo_nil ?_
          refine bk_norm ?_
          refine nx_norm ?_
          refine w_ops ?_
          refine wo_step (v := (.i .i64 x9)) (s_pure (p_mv g9)) ?_
          have hq := forceI_inv hr
          clear hr
          obtain ⟨x37, e37, hr⟩ := hq
          refine wo_step (v := (.i .i64 x37)) (s_pure (p_bin rfl rfl (b_add.trans (ci e37)))) ?_
          refine wo_step (v := (.i .i64 x37)) (s_pure (p_mv rfl)) ?_
          refine wo_nil ?_
          cases hr
          exact ⟨_, _, rfl, rfl, rfl, gl rfl, gl rfl, gl g0, gl g2⟩
      · refine w_condF rfl ?_
        refine w_exit ?_
        refine nx_exit ?_
        cases hr
        exact ⟨_, _, rfl, ne_norm_exit, rfl, rfl, gl g7⟩
    · obtain ⟨v7_1, m_15⟩ := o_3
      rintro _ mm_4 t_8 ⟨rfl, rfl, g7⟩
      refine bk_hit ?_
      refine nx_norm ?_
      refine w_seq ?_
      refine w_ops ?_
      refine wo_step (v := v7_1) (s_pure (p_mv g7)) ?_
      refine wo_step (v := v7_1) (s_pure (p_mv rfl)) ?_
      refine wo_nil ?_
      refine nx_norm ?_
      refine w_ret ?_
      exact qf ret_ok (rt rfl rn) hr

/- (dibber/vine.rules).dies -/
abbrev g61_I0 (s1 : List UInt8) (v11 : AVal) (x12 : Int) (s : Int × Mm) (m1 : Mm) (t1 : Tr) : Prop :=
  match s with
  | (x13, m_2) => m_2 = m1 ∧ t1.get 13 = (.i .i64 x13) ∧ t1.get 1 = (.s s1) ∧ t1.get 11 = v11 ∧ t1.get 12 = (.i .i64 x12)
abbrev g61_J0 (s1 : List UInt8) (v11 : AVal) (x12 : Int) (o : (Mm ⊕ (Int × Bool × Mm))) (e : AExit) (m1 : Mm) (t1 : Tr) : Prop :=
  match o with
  | (.inl mo) => e = (.exit 0) ∧ mo = m1
  | (.inr (y4, y5, mo)) => e = .ret ∧ mo = m1 ∧ t1.get 4 = (.i .i64 y4) ∧ t1.get 5 = (.b y5)
def g61_b0 (M : Means) (ro : List ABlk) (s1 : List UInt8) (v11 : AVal) (x12 : Int) (x13 : Int) (m_2 : Mm) : Option ((Int × Mm) ⊕ ((Mm ⊕ (Int × Bool × Mm)))) :=
  forceB (ltI x13 x12) fun c14 =>
  cond c14 (
    bindO (evP .e (.ixS 1 (.c v11) (.c (.i .i64 x13)))) fun v16 =>
    bindO (ldM ro m_2 true 1 v16) fun v17 =>
    bindP (callM M.call m_2 49 [v17, (.s s1)]) fun v20 m_3 =>
    asI .u64 v20 fun x20 =>
    forceB (eqI x20 0) fun c21 =>
    cond c21 (
      some (.inr (.inr (x13, true, m_3)))) (
      forceI (wr .i64 (x13 + 1)) fun x23 =>
      some (.inl (x23, m_3)))) (
    some (.inr (.inl m_2)))
def g61 (M : Means) (ro : List ABlk) (v0 : AVal) (s1 : List UInt8) (m0 : Mm) : Option (AVal × Heap × Nat × Nat) :=
  bindO (evP .e (.len false (.c v0))) fun v10 =>
  asI .i64 v10 fun x10 =>
  bindP (callM M.call m0 48 [v0, (.i .i64 x10)]) fun v11 m_1 =>
  bindO (evP .e (.len false (.c v11))) fun v12 =>
  asI .i64 v12 fun x12 =>
  bindO (M.loop (S := Int × Mm) (R := (Mm ⊕ (Int × Bool × Mm))) (fun s => g61_b0 M ro s1 v11 x12 s.1 s.2) (0, m_1)) fun o => match o with
  | (.inl m_4) =>
    finM m0.h.length (tupA [(.i .i64 0), (.b false)]) m_4
  | (.inr (x4, c5, m_5)) =>
    finM m0.h.length (tupA [(.i .i64 x4), (.b c5)]) m_5

theorem g61_ok {ro : List ABlk} {O : Caller} {M : Means} (hM : M.Ok ⟨F, O⟩ ro) {v0 s1 h r} (ho : O 61 [v0, (.s s1)] h = none) (hr : g61 M ro v0 s1 ⟨h, h.length, h.length⟩ = some r) : callX ⟨F, O⟩ ro 61 [v0, (.s s1)] h = some r := by
  refine callX_of (F := ⟨F, O⟩) (fn := fn61) (g := g61 M ro v0 s1) ho rfl rfl hr ?_
  clear ho
  clear hr
  intro m0 t0 ht hr
  have g0 : t0.get 0 = v0 := ht 0
  have g1 : t0.get 1 = (.s s1) := ht 1
  clear ht
  unfold g61 at hr
  refine w_seq ?_
  refine w_ops ?_
  refine wo_step (v := (.i .i64 0)) (s_pure (p_mv rfl)) ?_
  refine wo_step (v := (.b false)) (s_pure (p_mv rfl)) ?_
  refine wo_nil ?_
  refine nx_norm ?_
  refine w_seq ?_
  refine w_seq ?_
  refine w_ops ?_
  refine wo_step (v := v0) (s_pure (p_mv g0)) ?_
  refine wo_step (v := v0) (s_pure (p_mv g0)) ?_
  have hq := bindO_inv hr
  clear hr
  obtain ⟨v10, e10, hr⟩ := hq
  have hq := asI_inv hr
  clear hr
  obtain ⟨x10, rfl, hr⟩ := hq
  refine wo_step (v := (.i .i64 x10)) (s_pure (o_len rfl e10)) ?_
  have hq := bindP_inv hr
  clear hr
  obtain ⟨v11, m_1, e11, hr⟩ := hq
  refine wo_step (v := v11) (s_call (mc rfl (mc rfl mn)) (callM_le hM.call e11)) ?_
  have hq := bindO_inv hr
  clear hr
  obtain ⟨v12, e12, hr⟩ := hq
  have hq := asI_inv hr
  clear hr
  obtain ⟨x12, rfl, hr⟩ := hq
  refine wo_step (v := (.i .i64 x12)) (s_pure (o_len rfl e12)) ?_
  refine wo_step (v := (.i .i64 0)) (s_pure (p_mv rfl)) ?_
  refine wo_nil ?_
  refine nx_norm ?_
  refine w_block ?_
  have hq := bindO_inv hr
  clear hr
  obtain ⟨o, hl, hr⟩ := hq
  obtain ⟨n, hl⟩ := hM.loop _ _ _ hl
  refine jp_mono (w_loop _ (g61_I0 s1 v11 x12) (g61_J0 s1 v11 x12) ?_ n _ _ _ _ hl ⟨rfl, gl rfl, gl g1, gl rfl, gl rfl⟩) ?_
  · clear hr hl
    intro s mm_2 t_1 o hi hr
    obtain ⟨x13, m_2⟩ := s
    obtain ⟨rfl, g13, g1, g11, g12⟩ := hi
    unfold g61_b0 at hr
    refine w_seq ?_
    refine w_ops ?_
    have hq := forceB_inv hr
    clear hr
    obtain ⟨c14, e14, hr⟩ := hq
    refine wo_step (v := (.b c14)) (s_pure (p_bin g13 g12 (b_lss.trans (cb e14)))) ?_
    refine wo_nil ?_
    refine nx_norm ?_
    refine w_seq ?_
    have hq := cond_inv hr
    clear hr
    rcases hq with ⟨rfl, hr⟩ | ⟨rfl, hr⟩
    · refine w_condT rfl ?_
      refine w_skip ?_
      refine nx_norm ?_
      refine w_seq ?_
      refine w_block ?_
      refine w_seq ?_
      refine w_ops ?_
      refine wo_step (v := (.i .i64 x13)) (s_pure (p_mv g13)) ?_
      have hq := bindO_inv hr
      clear hr
      obtain ⟨v16, e16, hr⟩ := hq
      refine wo_step (v := v16) (s_pure (o_ixS g11 g13 e16)) ?_
      have hq := bindO_inv hr
      clear hr
      obtain ⟨v17, e17, hr⟩ := hq
      refine wo_step (v := v17) (s_ld rfl e17) ?_
      refine wo_step (v := (.i .i64 x13)) (s_pure (p_mv rfl)) ?_
      refine wo_step (v := v17) (s_pure (p_mv rfl)) ?_
      refine wo_nil ?_
      refine nx_norm ?_
      refine w_seq ?_
      refine w_ops ?_
      refine wo_step (v := v17) (s_pure (p_mv rfl)) ?_
      refine wo_step (v := (.s s1)) (s_pure (p_mv g1)) ?_
      have hq := bindP_inv hr
      clear hr
      obtain ⟨v20, m_3, e20, hr⟩ := hq
      have hq := asI_inv hr
      clear hr
      obtain ⟨x20, rfl, hr⟩ := hq
      refine wo_step (v := (.i .u64 x20)) (s_call (mc rfl (mc rfl mn)) (callM_le hM.call e20)) ?_
      have hq := forceB_inv hr
      clear hr
      obtain ⟨c21, e21, hr⟩ := hq
      refine wo_step (v := (.b c21)) (s_pure (p_bin rfl rfl (b_eql.trans (cb e21)))) ?_
      refine wo_nil ?_
      refine nx_norm ?_
      have hq := cond_inv hr
      clear hr
      rcases hq with ⟨rfl, hr⟩ | ⟨rfl, hr⟩
      · refine w_condT rfl ?_
        refine w_seq ?_
        refine w_ops ?_
        refine wo_step (v := (.i .i64 x13)) (s_pure (p_mv rfl)) ?_
        refine wo_step (v := (.i .i64 x13)) (s_pure (p_mv rfl)) ?_
        refine wo_step (v := (.b true)) (s_pure (p_mv rfl)) ?_
        refine wo_nil ?_
        refine nx_norm ?_
        refine w_ret ?_
        refine bk_ret ?_
        refine nx_ret ?_
        cases hr
        exact ⟨_, _, rfl, ne_norm_ret, rfl, rfl, gl rfl, gl rfl⟩
      · refine w_condF rfl ?_
        refine w_skip ?_
        refine bk_norm ?_
        refine nx_norm ?_
        refine w_ops ?_
        have hq := forceI_inv hr
        clear hr
        obtain ⟨x23, e23, hr⟩ := hq
        refine wo_step (v := (.i .i64 x23)) (s_pure (p_bin g13 rfl (b_add.trans (ci e23)))) ?_
        refine wo_step (v := (.i .i64 x23)) (s_pure (p_mv rfl)) ?_
        refine wo_nil ?_
        cases hr
        exact ⟨_, _, rfl, rfl, rfl, gl rfl, gl g1, gl g11, gl g12⟩
    · refine w_condF rfl ?_
      refine w_exit ?_
      refine nx_exit ?_
      cases hr
      exact ⟨_, _, rfl, ne_norm_exit, rfl, rfl⟩
  · rcases o with o | o
    · obtain ⟨m_4, ho⟩ : ∃ z, z = o := ⟨_, rfl⟩
      subst ho
      rintro _ mm t_2 ⟨rfl, rfl⟩
      refine bk_hit ?_
      refine nx_norm ?_
      refine w_seq ?_
      refine w_ops ?_
      refine wo_step (v := (.i .i64 0)) (s_pure (p_mv rfl)) ?_
      refine wo_step (v := (.b false)) (s_pure (p_mv rfl)) ?_
      refine wo_nil ?_
      refine nx_norm ?_
      refine w_ret ?_
      exact qf ret_ok (rt rfl (rt rfl rn)) hr
    · obtain ⟨x4, c5, m_5⟩ := o
      rintro _ mm_1 t_3 ⟨rfl, rfl, g4, g5⟩
      refine bk_ret ?_
      refine nx_ret ?_
      exact qf ret_ok (rt g4 (rt g5 rn)) hr

/- dibber/dibberref03.dies -/
abbrev g62_I0 (v0 : AVal) (s1 : List UInt8) (s : Int × Mm) (m1 : Mm) (t1 : Tr) : Prop :=
  match s with
  | (x5, m_1) => m_1 = m1 ∧ t1.get 5 = (.i .i64 x5) ∧ t1.get 0 = v0 ∧ t1.get 1 = (.s s1)
abbrev g62_J0 (v0 : AVal) (s1 : List UInt8) (o : (Mm ⊕ (Int × Mm))) (e : AExit) (m1 : Mm) (t1 : Tr) : Prop :=
  match o with
  | (.inl mo) => e = (.exit 0) ∧ mo = m1
  | (.inr (y4, mo)) => e = .ret ∧ mo = m1 ∧ t1.get 4 = (.i .i64 y4)
abbrev g62_I1 (v0 : AVal) (s1 : List UInt8) (x5 : Int) (v18 : AVal) (m_2 : Mm) (s : Bool × Int) (m1 : Mm) (t1 : Tr) : Prop :=
  match s with
  | (c7, x8) => m_2 = m1 ∧ t1.get 7 = (.b c7) ∧ t1.get 8 = (.i .i64 x8) ∧ t1.get 0 = v0 ∧ t1.get 1 = (.s s1) ∧ t1.get 5 = (.i .i64 x5) ∧ t1.get 6 = v18
abbrev g62_J1 (v0 : AVal) (s1 : List UInt8) (x5 : Int) (v18 : AVal) (m_2 : Mm) (o : Bool) (e : AExit) (m1 : Mm) (t1 : Tr) : Prop :=
  match o with
  | y7 => e = (.exit 2) ∧ m_2 = m1 ∧ t1.get 7 = (.b y7) ∧ t1.get 0 = v0 ∧ t1.get 1 = (.s s1) ∧ t1.get 5 = (.i .i64 x5)
abbrev g62_J2 (v0 : AVal) (s1 : List UInt8) (x5 : Int) (v18 : AVal) (x8 : Int) (m_2 : Mm) (o : Bool) (m1 : Mm) (t1 : Tr) : Prop :=
  match o with
  | c32 => m_2 = m1 ∧ t1.get 32 = (.b c32) ∧ t1.get 0 = v0 ∧ t1.get 1 = (.s s1) ∧ t1.get 5 = (.i .i64 x5) ∧ t1.get 6 = v18 ∧ t1.get 8 = (.i .i64 x8)
def g62_b1 (M : Means) (ro : List ABlk) (v0 : AVal) (s1 : List UInt8) (x5 : Int) (v18 : AVal) (m_2 : Mm) (c7 : Bool) (x8 : Int) : Option ((Bool × Int) ⊕ (Bool)) :=
  bindO (evP .e (.len false (.c v18))) fun v21 =>
  asI .i64 v21 fun x21 =>
  forceB (ltI x8 x21) fun c22 =>
  cond c22 (
    bindO (cond c7 (
      some true) (
      bindO (evP .e (.ixS 1 (.c v18) (.c (.i .i64 x8)))) fun v29 =>
      bindO (ldM ro m_2 true 1 v29) fun v30 =>
      asI .u64 v30 fun x30 =>
      forceB (ltI 0 x30) fun c31 =>
      some c31)) fun c32 =>
    forceI (wr .i64 (x8 + 1)) fun x24 =>
    some (.inl (c32, x24))) (
    some (.inr c7))
def g62_b0 (M : Means) (ro : List ABlk) (v0 : AVal) (s1 : List UInt8) (x5 : Int) (m_1 : Mm) : Option ((Int × Mm) ⊕ ((Mm ⊕ (Int × Mm)))) :=
  bindO (evP .e (.len false (.c v0))) fun v11 =>
  asI .i64 v11 fun x11 =>
  forceB (!ltI x11 x5) fun c12 =>
  cond c12 (
    bindP (callM M.call m_1 58 [v0, (.s s1), (.i .i64 x5)]) fun v18 m_2 =>
    bindO (M.loop (S := Bool × Int) (R := Bool) (fun s => g62_b1 M ro v0 s1 x5 v18 m_2 s.1 s.2) (false, 0)) fun c7_1 =>
    forceB (!c7_1) fun c34 =>
    cond c34 (
      some (.inr (.inr (x5, m_2)))) (
      forceI (wr .i64 (x5 + 1)) fun x14 =>
      some (.inl (x14, m_2)))) (
    some (.inr (.inl m_1)))
def g62 (M : Means) (ro : List ABlk) (v0 : AVal) (s1 : List UInt8) (m0 : Mm) : Option (AVal × Heap × Nat × Nat) :=
  bindO (M.loop (S := Int × Mm) (R := (Mm ⊕ (Int × Mm))) (fun s => g62_b0 M ro v0 s1 s.1 s.2) (0, m0)) fun o_2 => match o_2 with
  | (.inl m_3) =>
    finM m0.h.length (tupA [(.i .i64 (-1))]) m_3
  | (.inr (x4, m_4)) =>
    finM m0.h.length (tupA [(.i .i64 x4)]) m_4

theorem g62_ok {ro : List ABlk} {O : Caller} {M : Means} (hM : M.Ok ⟨F, O⟩ ro) {v0 s1 h r} (ho : O 62 [v0, (.s s1)] h = none) (hr : g62 M ro v0 s1 ⟨h, h.length, h.length⟩ = some r) : callX ⟨F, O⟩ ro 62 [v0, (.s s1)] h = some r := by
  refine callX_of (F := ⟨F, O⟩) (fn := fn62) (g := g62 M ro v0 s1) ho rfl rfl hr ?_
  clear ho
  clear hr
  intro m0 t0 ht hr
  have g0 : t0.get 0 = v0 := ht 0
  have g1 : t0.get 1 = (.s s1) := ht 1
  clear ht
  unfold g62 at hr
  refine w_seq ?_
  refine w_ops ?_
  refine wo_step (v := (.i .i64 0)) (s_pure (p_mv rfl)) ?_
  refine wo_nil ?_
  refine nx_norm ?_
  refine w_seq ?_
  refine w_seq ?_
  refine w_ops ?_
  refine wo_step (v := (.i .i64 0)) (s_pure (p_mv rfl)) ?_
  refine wo_nil ?_
  refine nx_norm ?_
  refine w_block ?_
  have hq := bindO_inv hr
  clear hr
  obtain ⟨o_2, hl_1, hr⟩ := hq
  obtain ⟨n_1, hl_1⟩ := hM.loop _ _ _ hl_1
  refine jp_mono (w_loop _ (g62_I0 v0 s1) (g62_J0 v0 s1) ?_ n_1 _ _ _ _ hl_1 ⟨rfl, gl rfl, gl g0, gl g1⟩) ?_
  · clear hr hl_1
    intro s mm_5 t_1 o hi hr
    obtain ⟨x5, m_1⟩ := s
    obtain ⟨rfl, g5, g0, g1⟩ := hi
    unfold g62_b0 at hr
    refine w_seq ?_
    refine w_seq ?_
    refine w_ops ?_
    refine wo_step (v := (.i .i64 x5)) (s_pure (p_mv g5)) ?_
    refine wo_step (v := v0) (s_pure (p_mv g0)) ?_
    have hq := bindO_inv hr
    clear hr
    obtain ⟨v11, e11, hr⟩ := hq
    have hq := asI_inv hr
    clear hr
    obtain ⟨x11, rfl, hr⟩ := hq
    refine wo_step (v := (.i .i64 x11)) (s_pure (o_len rfl e11)) ?_
    have hq := forceB_inv hr
    clear hr
    obtain ⟨c12, e12, hr⟩ := hq
    refine wo_step (v := (.b c12)) (s_pure (p_bin rfl rfl (b_leq.trans (cb e12)))) ?_
    refine wo_nil ?_
    refine nx_norm ?_
    have hq := cond_inv hr
    clear hr
    rcases hq with ⟨rfl, hr⟩ | ⟨rfl, hr⟩
    · refine w_condT rfl ?_
      refine w_skip ?_
      refine nx_norm ?_
      refine w_seq ?_
      refine w_block ?_
      refine w_seq ?_
      refine w_ops ?_
      refine wo_step (v := v0) (s_pure (p_mv g0)) ?_
      refine wo_step (v := (.s s1)) (s_pure (p_mv g1)) ?_
      refine wo_step (v := (.i .i64 x5)) (s_pure (p_mv g5)) ?_
      have hq := bindP_inv hr
      clear hr
      obtain ⟨v18, m_2, e18, hr⟩ := hq
      refine wo_step (v := v18) (s_call (mc rfl (mc rfl (mc rfl mn))) (callM_le hM.call e18)) ?_
      refine wo_step (v := v18) (s_pure (p_mv rfl)) ?_
      refine wo_nil ?_
      refine nx_norm ?_
      refine w_seq ?_
      refine w_ops ?_
      refine wo_step (v := (.b false)) (s_pure (p_mv rfl)) ?_
      refine wo_nil ?_
      refine nx_norm ?_
      refine w_seq ?_
      refine w_seq ?_
      refine w_ops ?_
      refine wo_step (v := (.i .i64 0)) (s_pure (p_mv rfl)) ?_
      refine wo_nil ?_
      refine nx_norm ?_
      refine w_block ?_
      have hq := bindO_inv hr
      clear hr
      obtain ⟨o_1, hl, hr⟩ := hq
      obtain ⟨n, hl⟩ := hM.loop _ _ _ hl
      refine jp_mono (w_loop _ (g62_I1 v0 s1 x5 v18 m_2) (g62_J1 v0 s1 x5 v18 m_2) ?_ n _ _ _ _ hl ⟨rfl, gl rfl, gl rfl, gl g0, gl g1, gl g5, gl rfl⟩) ?_
      · clear hr hl
        intro s mm_2 t_2 o hi hr
        obtain ⟨c7, x8⟩ := s
        obtain ⟨rfl, g7, g8, g0, g1, g5, g6⟩ := hi
        unfold g62_b1 at hr
        refine w_seq ?_
        refine w_seq ?_
        refine w_ops ?_
        refine wo_step (v := (.i .i64 x8)) (s_pure (p_mv g8)) ?_
        refine wo_step (v := v18) (s_pure (p_mv g6)) ?_
        have hq := bindO_inv hr
        clear hr
        obtain ⟨v21, e21, hr⟩ := hq
        have hq := asI_inv hr
        clear hr
        obtain ⟨x21, rfl, hr⟩ := hq
        refine wo_step (v := (.i .i64 x21)) (s_pure (o_len rfl e21)) ?_
        have hq := forceB_inv hr
        clear hr
        obtain ⟨c22, e22, hr⟩ := hq
        refine wo_step (v := (.b c22)) (s_pure (p_bin rfl rfl (b_lss.trans (cb e22)))) ?_
        refine wo_nil ?_
        refine nx_norm ?_
        have hq := cond_inv hr
        clear hr
        rcases hq with ⟨rfl, hr⟩ | ⟨rfl, hr⟩
        · refine w_condT rfl ?_
          refine w_skip ?_
          refine nx_norm ?_
          refine w_seq ?_
          refine w_block ?_
          refine w_ops ?_
          refine wo_step (v := (.b c7)) (s_pure (p_mv g7)) ?_
          refine wo_step (v := (.b c7)) (s_pure (p_mv rfl)) ?_
          have hq := bindO_inv hr
          clear hr
          obtain ⟨o, hr, hk⟩ := hq
          refine wo_join 6 (g62_J2 v0 s1 x5 v18 x8 m_2 o) ?_ ?_
          · clear hk
            have hq := cond_inv hr
            clear hr
            rcases hq with ⟨rfl, hr⟩ | ⟨rfl, hr⟩
            · refine wo_skip (v := (.b true)) rfl rfl ?_
              refine wo_skip (v := (.b true)) rfl rfl ?_
              refine wo_skip (v := (.b true)) rfl rfl ?_
              refine wo_skip (v := (.b true)) rfl rfl ?_
              refine wo_skip (v := (.b true)) rfl rfl ?_
              refine wo_step (v := (.b true)) (s_pure (p_pickT rfl rfl)) ?_
              refine wo_nil ?_
              cases hr
              exact ⟨_, _, rfl, rfl, gl rfl, gl g0, gl g1, gl g5, gl g6, gl g8⟩
            · refine wo_take (v := v18) rfl (s_pure (p_mv g6)) ?_
              refine wo_take (v := (.i .i64 x8)) rfl (s_pure (p_mv g8)) ?_
              have hq := bindO_inv hr
              clear hr
              obtain ⟨v29, e29, hr⟩ := hq
              refine wo_take (v := v29) rfl (s_pure (o_ixS rfl rfl e29)) ?_
              have hq := bindO_inv hr
              clear hr
              obtain ⟨v30, e30, hr⟩ := hq
              have hq := asI_inv hr
              clear hr
              obtain ⟨x30, rfl, hr⟩ := hq
              refine wo_take (v := (.i .u64 x30)) rfl (s_ld rfl e30) ?_
              have hq := forceB_inv hr
              clear hr
              obtain ⟨c31, e31, hr⟩ := hq
              refine wo_take (v := (.b c31)) rfl (s_pure (p_bin rfl rfl (b_gtr.trans (cb e31)))) ?_
              refine wo_step (v := (.b c31)) (s_pure (p_pickF rfl rfl)) ?_
              refine wo_nil ?_
              cases hr
              exact ⟨_, _, rfl, rfl, gl rfl, gl g0, gl g1, gl g5, gl g6, gl g8⟩
          · clear hr
            have hr := hk
            clear hk
            obtain ⟨c32, ho⟩ : ∃ z, z = o := ⟨_, rfl⟩
            subst ho
            rintro mm t_3 ⟨rfl, g32, g0, g1, g5, g6, g8⟩
            refine wo_step (v := (.b c32)) (s_pure (p_mv g32)) ?_
            refine wo_nil ?_
            refine bk_norm ?_
            refine nx_norm ?_
            refine w_ops ?_
            refine wo_step (v := (.i .i64 x8)) (s_pure (p_mv g8)) ?_
            have hq := forceI_inv hr
            clear hr
            obtain ⟨x24, e24, hr⟩ := hq
            refine wo_step (v := (.i .i64 x24)) (s_pure (p_bin rfl rfl (b_add.trans (ci e24)))) ?_
            refine wo_step (v := (.i .i64 x24)) (s_pure (p_mv rfl)) ?_
            refine wo_nil ?_
            cases hr
            exact ⟨_, _, rfl, rfl, rfl, gl rfl, gl rfl, gl g0, gl g1, gl g5, gl g6⟩
        · refine w_condF rfl ?_
          refine w_exit ?_
          refine nx_exit ?_
          cases hr
          exact ⟨_, _, rfl, ne_norm_exit, rfl, rfl, gl g7, gl g0, gl g1, gl g5⟩
      · obtain ⟨c7_1, ho⟩ : ∃ z, z = o_1 := ⟨_, rfl⟩
        subst ho
        rintro _ mm_1 t_4 ⟨rfl, rfl, g7, g0, g1, g5⟩
        refine bk_hit ?_
        refine nx_norm ?_
        refine w_seq ?_
        refine w_ops ?_
        refine wo_step (v := (.b c7_1)) (s_pure (p_mv g7)) ?_
        have hq := forceB_inv hr
        clear hr
        obtain ⟨c34, e34, hr⟩ := hq
        refine wo_step (v := (.b c34)) (s_pure ((p_not rfl).trans (cb e34))) ?_
        refine wo_nil ?_
        refine nx_norm ?_
        have hq := cond_inv hr
        clear hr
        rcases hq with ⟨rfl, hr⟩ | ⟨rfl, hr⟩
        · refine w_condT rfl ?_
          refine w_seq ?_
          refine w_ops ?_
          refine wo_step (v := (.i .i64 x5)) (s_pure (p_mv g5)) ?_
          refine wo_step (v := (.i .i64 x5)) (s_pure (p_mv rfl)) ?_
          refine wo_nil ?_
          refine nx_norm ?_
          refine w_ret ?_
          refine bk_ret ?_
          refine nx_ret ?_
          cases hr
          exact ⟨_, _, rfl, ne_norm_ret, rfl, rfl, gl rfl⟩
        · refine w_condF rfl ?_
          refine w_skip ?_
          refine bk_norm ?_
          refine nx_norm ?_
          refine w_ops ?_
          refine wo_step (v := (.i .i64 x5)) (s_pure (p_mv g5)) ?_
          have hq := forceI_inv hr
          clear hr
          obtain ⟨x14, e14, hr⟩ := hq
          refine wo_step (v := (.i .i64 x14)) (s_pure (p_bin rfl rfl (b_add.trans (ci e14)))) ?_
          refine wo_step (v := (.i .i64 x14)) (s_pure (p_mv rfl)) ?_
          refine wo_nil ?_
          cases hr
          exact ⟨_, _, rfl, rfl, rfl, gl rfl, gl g0, gl g1⟩
    · refine w_condF rfl ?_
      refine w_exit ?_
      refine nx_exit ?_
      cases hr
      exact ⟨_, _, rfl, ne_norm_exit, rfl, rfl⟩
  · rcases o_2 with o_2 | o_2
    · obtain ⟨m_3, ho⟩ : ∃ z, z = o_2 := ⟨_, rfl⟩
      subst ho
      rintro _ mm_3 t_5 ⟨rfl, rfl⟩
      refine bk_hit ?_
      refine nx_norm ?_
      refine w_seq ?_
      refine w_ops ?_
      refine wo_step (v := (.i .i64 (-1))) (s_pure (p_mv rfl)) ?_
      refine wo_nil ?_
      refine nx_norm ?_
      refine w_ret ?_
      exact qf ret_ok (rt rfl rn) hr
    · obtain ⟨x4, m_4⟩ := o_2
      rintro _ mm_4 t_6 ⟨rfl, rfl, g4⟩
      refine bk_ret ?_
      refine nx_ret ?_
      exact qf ret_ok (rt g4 rn) hr

/- dibber/vine.readVine -/
abbrev g71_J0 (v0 : AVal) (m0 : Mm) (o : Bool) (m1 : Mm) (t1 : Tr) : Prop :=
  match o with
  | c14 => m0 = m1 ∧ t1.get 14 = (.b c14) ∧ t1.get 0 = v0
abbrev g71_I1 (v0 : AVal) (x17 : Int) (s : Int × Mm) (m1 : Mm) (t1 : Tr) : Prop :=
  match s with
  | (x18, m_1) => m_1 = m1 ∧ t1.get 18 = (.i .i64 x18) ∧ t1.get 4 = v0 ∧ t1.get 16 = v0 ∧ t1.get 17 = (.i .i64 x17)
abbrev g71_J1 (v0 : AVal) (x17 : Int) (o : (Mm ⊕ (AVal × Int × Mm))) (e : AExit) (m1 : Mm) (t1 : Tr) : Prop :=
  match o with
  | (.inl mo) => e = (.exit 0) ∧ mo = m1 ∧ t1.get 4 = v0
  | (.inr (y2, y3, mo)) => e = .ret ∧ mo = m1 ∧ t1.get 2 = y2 ∧ t1.get 3 = (.i .i64 y3)
abbrev g71_J2 (v0 : AVal) (x17 : Int) (x18 : Int) (o : Bool × Mm) (m1 : Mm) (t1 : Tr) : Prop :=
  match o with
  | (c30, m_2) => m_2 = m1 ∧ t1.get 30 = (.b c30) ∧ t1.get 4 = v0 ∧ t1.get 16 = v0 ∧ t1.get 17 = (.i .i64 x17) ∧ t1.get 18 = (.i .i64 x18)
def g71_b1 (M : Means) (ro : List ABlk) (v0 : AVal) (x17 : Int) (x18 : Int) (m_1 : Mm) : Option ((Int × Mm) ⊕ ((Mm ⊕ (AVal × Int × Mm)))) :=
  forceB (ltI x18 x17) fun c19 =>
  cond c19 (
    bindO (evP .e (.ixS 1 (.c v0) (.c (.i .i64 x18)))) fun v20 =>
    bindO (ldM ro m_1 true 1 v20) fun v21 =>
    asS v21 fun s21 =>
    bindO (evP .e (.len true (.c (.s s21)))) fun v23 =>
    asI .i64 v23 fun x23 =>
    forceB (ltI 8 x23) fun c24 =>
    bindO (cond c24 (
      some (true, m_1)) (
      bindP (callM M.call m_1 92 [v0, (.s s21)]) fun v28 m_3 =>
      asB v28 fun c28 =>
      forceB (!c28) fun c29 =>
      some (c29, m_3))) fun ⟨c30, m_2⟩ =>
    cond c30 (
      some (.inr (.inr (AVal.nsl, 5, m_2)))) (
      forceI (wr .i64 (x18 + 1)) fun x31 =>
      some (.inl (x31, m_2)))) (
    some (.inr (.inl m_1)))
def g71 (M : Means) (ro : List ABlk) (v0 : AVal) (m0 : Mm) : Option (AVal × Heap × Nat × Nat) :=
  bindO (evP .e (.len false (.c v0))) fun v8 =>
  asI .i64 v8 fun x8 =>
  forceB (ltI x8 1) fun c9 =>
  bindO (cond c9 (
    some true) (
    bindO (evP .e (.len false (.c v0))) fun v12 =>
    asI .i64 v12 fun x12 =>
    forceB (ltI 6 x12) fun c13 =>
    some c13)) fun c14 =>
  cond c14 (
    finM m0.h.length (tupA [AVal.nsl, (.i .i64 2)]) m0) (
    bindO (evP .e (.len false (.c v0))) fun v17 =>
    asI .i64 v17 fun x17 =>
    bindO (M.loop (S := Int × Mm) (R := (Mm ⊕ (AVal × Int × Mm))) (fun s => g71_b1 M ro v0 x17 s.1 s.2) (0, m0)) fun o_2 => match o_2 with
    | (.inl m_4) =>
      finM m0.h.length (tupA [v0, (.i .i64 0)]) m_4
    | (.inr (v2, x3, m_5)) =>
      finM m0.h.length (tupA [v2, (.i .i64 x3)]) m_5)

theorem g71_ok {ro : List ABlk} {O : Caller} {M : Means} (hM : M.Ok ⟨F, O⟩ ro) {v0 h r} (ho : O 71 [v0] h = none) (hr : g71 M ro v0 ⟨h, h.length, h.length⟩ = some r) : callX ⟨F, O⟩ ro 71 [v0] h = some r := by
  refine callX_of (F := ⟨F, O⟩) (fn := fn71) (g := g71 M ro v0) ho rfl rfl hr ?_
  clear ho
  clear hr
  intro m0 t0 ht hr
  have g0 : t0.get 0 = v0 := ht 0
  clear ht
  unfold g71 at hr
  refine w_seq ?_
  refine w_ops ?_
  refine wo_step (v := AVal.nsl) (s_pure (p_mv rfl)) ?_
  refine wo_step (v := (.i .i64 0)) (s_pure (p_mv rfl)) ?_
  refine wo_nil ?_
  refine nx_norm ?_
  refine w_seq ?_
  refine w_seq ?_
  refine w_ops ?_
  refine wo_step (v := v0) (s_pure (p_mv g0)) ?_
  have hq := bindO_inv hr
  clear hr
  obtain ⟨v8, e8, hr⟩ := hq
  have hq := asI_inv hr
  clear hr
  obtain ⟨x8, rfl, hr⟩ := hq
  refine wo_step (v := (.i .i64 x8)) (s_pure (o_len rfl e8)) ?_
  have hq := forceB_inv hr
  clear hr
  obtain ⟨c9, e9, hr⟩ := hq
  refine wo_step (v := (.b c9)) (s_pure (p_bin rfl rfl (b_lss.trans (cb e9)))) ?_
  refine wo_step (v := (.b c9)) (s_pure (p_mv rfl)) ?_
  have hq := bindO_inv hr
  clear hr
  obtain ⟨o, hr, hk⟩ := hq
  refine wo_join 4 (g71_J0 v0 m0 o) ?_ ?_
  · clear hk
    have hq := cond_inv hr
    clear hr
    rcases hq with ⟨rfl, hr⟩ | ⟨rfl, hr⟩
    · refine wo_skip (v := (.b true)) rfl rfl ?_
      refine wo_skip (v := (.b true)) rfl rfl ?_
      refine wo_skip (v := (.b true)) rfl rfl ?_
      refine wo_step (v := (.b true)) (s_pure (p_pickT rfl rfl)) ?_
      refine wo_nil ?_
      cases hr
      exact ⟨_, _, rfl, rfl, gl rfl, gl g0⟩
    · refine wo_take (v := v0) rfl (s_pure (p_mv g0)) ?_
      have hq := bindO_inv hr
      clear hr
      obtain ⟨v12, e12, hr⟩ := hq
      have hq := asI_inv hr
      clear hr
      obtain ⟨x12, rfl, hr⟩ := hq
      refine wo_take (v := (.i .i64 x12)) rfl (s_pure (o_len rfl e12)) ?_
      have hq := forceB_inv hr
      clear hr
      obtain ⟨c13, e13, hr⟩ := hq
      refine wo_take (v := (.b c13)) rfl (s_pure (p_bin rfl rfl (b_gtr.trans (cb e13)))) ?_
      refine wo_step (v := (.b c13)) (s_pure (p_pickF rfl rfl)) ?_
      refine wo_nil ?_
      cases hr
      exact ⟨_, _, rfl, rfl, gl rfl, gl g0⟩
  · clear hr
    have hr := hk
    clear hk
    obtain ⟨c14, ho⟩ : ∃ z, z = o := ⟨_, rfl⟩
    subst ho
    rintro mm t_1 ⟨rfl, g14, g0⟩
    refine wo_nil ?_
    refine nx_norm ?_
    have hq := cond_inv hr
    clear hr
    rcases hq with ⟨rfl, hr⟩ | ⟨rfl, hr⟩
    · refine w_condT g14 ?_
      refine w_seq ?_
      refine w_ops ?_
      refine wo_step (v := AVal.nsl) (s_pure (p_mv rfl)) ?_
      refine wo_step (v := (.i .i64 2)) (s_pure (p_mv rfl)) ?_
      refine wo_nil ?_
      refine nx_norm ?_
      refine w_ret ?_
      refine nx_ret ?_
      exact qf ret_ok (rt rfl (rt rfl rn)) hr
    · refine w_condF g14 ?_
      refine w_skip ?_
      refine nx_norm ?_
      refine w_seq ?_
      refine w_ops ?_
      refine wo_step (v := v0) (s_pure (p_mv g0)) ?_
      refine wo_step (v := v0) (s_pure (p_mv rfl)) ?_
      refine wo_nil ?_
      refine nx_norm ?_
      refine w_seq ?_
      refine w_seq ?_
      refine w_ops ?_
      refine wo_step (v := v0) (s_pure (p_mv rfl)) ?_
      have hq := bindO_inv hr
      clear hr
      obtain ⟨v17, e17, hr⟩ := hq
      have hq := asI_inv hr
      clear hr
      obtain ⟨x17, rfl, hr⟩ := hq
      refine wo_step (v := (.i .i64 x17)) (s_pure (o_len rfl e17)) ?_
      refine wo_step (v := (.i .i64 0)) (s_pure (p_mv rfl)) ?_
      refine wo_nil ?_
      refine nx_norm ?_
      refine w_block ?_
      have hq := bindO_inv hr
      clear hr
      obtain ⟨o_2, hl, hr⟩ := hq
      obtain ⟨n, hl⟩ := hM.loop _ _ _ hl
      refine jp_mono (w_loop _ (g71_I1 v0 x17) (g71_J1 v0 x17) ?_ n _ _ _ _ hl ⟨rfl, gl rfl, gl rfl, gl rfl, gl rfl⟩) ?_
      · clear hr hl
        intro s mm_4 t_2 o hi hr
        obtain ⟨x18, m_1⟩ := s
        obtain ⟨rfl, g18, g4, g16, g17⟩ := hi
        unfold g71_b1 at hr
        refine w_seq ?_
        refine w_ops ?_
        have hq := forceB_inv hr
        clear hr
        obtain ⟨c19, e19, hr⟩ := hq
        refine wo_step (v := (.b c19)) (s_pure (p_bin g18 g17 (b_lss.trans (cb e19)))) ?_
        refine wo_nil ?_
        refine nx_norm ?_
        refine w_seq ?_
        have hq := cond_inv hr
        clear hr
        rcases hq with ⟨rfl, hr⟩ | ⟨rfl, hr⟩
        · refine w_condT rfl ?_
          refine w_skip ?_
          refine nx_norm ?_
          refine w_seq ?_
          refine w_block ?_
          refine w_seq ?_
          refine w_ops ?_
          have hq := bindO_inv hr
          clear hr
          obtain ⟨v20, e20, hr⟩ := hq
          refine wo_step (v := v20) (s_pure (o_ixS g16 g18 e20)) ?_
          have hq := bindO_inv hr
          clear hr
          obtain ⟨v21, e21, hr⟩ := hq
          have hq := asS_inv hr
          clear hr
          obtain ⟨s21, rfl, hr⟩ := hq
          refine wo_step (v := (.s s21)) (s_ld rfl e21) ?_
          refine wo_step (v := (.s s21)) (s_pure (p_mv rfl)) ?_
          refine wo_nil ?_
          refine nx_norm ?_
          refine w_seq ?_
          refine w_ops ?_
          refine wo_step (v := (.s s21)) (s_pure (p_mv rfl)) ?_
          have hq := bindO_inv hr
          clear hr
          obtain ⟨v23, e23, hr⟩ := hq
          have hq := asI_inv hr
          clear hr
          obtain ⟨x23, rfl, hr⟩ := hq
          refine wo_step (v := (.i .i64 x23)) (s_pure (o_len rfl e23)) ?_
          have hq := forceB_inv hr
          clear hr
          obtain ⟨c24, e24, hr⟩ := hq
          refine wo_step (v := (.b c24)) (s_pure (p_bin rfl rfl (b_gtr.trans (cb e24)))) ?_
          refine wo_step (v := (.b c24)) (s_pure (p_mv rfl)) ?_
          have hq := bindO_inv hr
          clear hr
          obtain ⟨o_1, hr, hk⟩ := hq
          refine wo_join 5 (g71_J2 v0 x17 x18 o_1) ?_ ?_
          · clear hk
            have hq := cond_inv hr
            clear hr
            rcases hq with ⟨rfl, hr⟩ | ⟨rfl, hr⟩
            · refine wo_skip (v := (.b true)) rfl rfl ?_
              refine wo_skip (v := (.b true)) rfl rfl ?_
              refine wo_skip (v := (.b true)) rfl rfl ?_
              refine wo_skip (v := (.b true)) rfl rfl ?_
              refine wo_step (v := (.b true)) (s_pure (p_pickT rfl rfl)) ?_
              refine wo_nil ?_
              cases hr
              exact ⟨_, _, rfl, rfl, gl rfl, gl g4, gl g16, gl g17, gl g18⟩
            · refine wo_take (v := v0) rfl (s_pure (p_mv g4)) ?_
              refine wo_take (v := (.s s21)) rfl (s_pure (p_mv rfl)) ?_
              have hq := bindP_inv hr
              clear hr
              obtain ⟨v28, m_3, e28, hr⟩ := hq
              have hq := asB_inv hr
              clear hr
              obtain ⟨c28, rfl, hr⟩ := hq
              refine wo_take (v := (.b c28)) rfl (s_call (mc rfl (mc rfl mn)) (callM_le hM.call e28)) ?_
              have hq := forceB_inv hr
              clear hr
              obtain ⟨c29, e29, hr⟩ := hq
              refine wo_take (v := (.b c29)) rfl (s_pure ((p_not rfl).trans (cb e29))) ?_
              refine wo_step (v := (.b c29)) (s_pure (p_pickF rfl rfl)) ?_
              refine wo_nil ?_
              cases hr
              exact ⟨_, _, rfl, rfl, gl rfl, gl g4, gl g16, gl g17, gl g18⟩
          · clear hr
            have hr := hk
            clear hk
            obtain ⟨c30, m_2⟩ := o_1
            rintro mm_1 t_3 ⟨rfl, g30, g4, g16, g17, g18⟩
            refine wo_nil ?_
            refine nx_norm ?_
            have hq := cond_inv hr
            clear hr
            rcases hq with ⟨rfl, hr⟩ | ⟨rfl, hr⟩
            · refine w_condT g30 ?_
              refine w_seq ?_
              refine w_ops ?_
              refine wo_step (v := AVal.nsl) (s_pure (p_mv rfl)) ?_
              refine wo_step (v := (.i .i64 5)) (s_pure (p_mv rfl)) ?_
              refine wo_nil ?_
              refine nx_norm ?_
              refine w_ret ?_
              refine bk_ret ?_
              refine nx_ret ?_
              cases hr
              exact ⟨_, _, rfl, ne_norm_ret, rfl, rfl, gl rfl, gl rfl⟩
            · refine w_condF g30 ?_
              refine w_skip ?_
              refine bk_norm ?_
              refine nx_norm ?_
              refine w_ops ?_
              have hq := forceI_inv hr
              clear hr
              obtain ⟨x31, e31, hr⟩ := hq
              refine wo_step (v := (.i .i64 x31)) (s_pure (p_bin g18 rfl (b_add.trans (ci e31)))) ?_
              refine wo_step (v := (.i .i64 x31)) (s_pure (p_mv rfl)) ?_
              refine wo_nil ?_
              cases hr
              exact ⟨_, _, rfl, rfl, rfl, gl rfl, gl g4, gl g16, gl g17⟩
        · refine w_condF rfl ?_
          refine w_exit ?_
          refine nx_exit ?_
          cases hr
          exact ⟨_, _, rfl, ne_norm_exit, rfl, rfl, gl g4⟩
      · rcases o_2 with o_2 | o_2
        · obtain ⟨m_4, ho⟩ : ∃ z, z = o_2 := ⟨_, rfl⟩
          subst ho
          rintro _ mm_2 t_4 ⟨rfl, rfl, g4⟩
          refine bk_hit ?_
          refine nx_norm ?_
          refine w_seq ?_
          refine w_ops ?_
          refine wo_step (v := v0) (s_pure (p_mv g4)) ?_
          refine wo_step (v := v0) (s_pure (p_mv rfl)) ?_
          refine wo_step (v := (.i .i64 0)) (s_pure (p_mv rfl)) ?_
          refine wo_nil ?_
          refine nx_norm ?_
          refine w_ret ?_
          exact qf ret_ok (rt rfl (rt rfl rn)) hr
        · obtain ⟨v2, x3, m_5⟩ := o_2
          rintro _ mm_3 t_5 ⟨rfl, rfl, g2, g3⟩
          refine bk_ret ?_
          refine nx_ret ?_
          exact qf ret_ok (rt g2 (rt g3 rn)) hr

/- (dibber/vine.rules).bud -/

def g72 (M : Means) (ro : List ABlk) (v0 : AVal) (x1 : Int) (m0 : Mm) : Option (AVal × Heap × Nat × Nat) :=
  bindO (some (Mm.base m0)) fun m_1 =>
  bindO (evP .e (.ixS 1 (.c v0) (.c (.i .i64 x1)))) fun v12 =>
  bindO (ldA ro m0.h true 1 v12) fun v13 =>
  asS v13 fun s13 =>
  bindP (callM M.call m_1 89 [(.i .i64 x1)]) fun v15 m_2 =>
  asS v15 fun s15 =>
  chk (!Nat.blt m_2.lw m0.h.length) <|
  bindP (callM M.call m_2 97 [(.s s13), (.s s15)]) fun v16 m_3 =>
  bindO (evP .e (.ext 0 (.c v16))) fun v17 =>
  asS v17 fun s17 =>
  bindO (evP .e (.ext 1 (.c v16))) fun v18 =>
  asB v18 fun c18 =>
  bindO (some (Mm.join m0 m_3)) fun m_4 =>
  forceB (!c18) fun c20 =>
  cond c20 (
    finM m0.h.length (tupA [(.b false)]) m_4) (
    bindP (callM M.call m_4 61 [v0, (.s s17)]) fun v24 m_5 =>
    bindO (evP .e (.ext 0 (.c v24))) fun v25 =>
    asI .i64 v25 fun x25 =>
    bindO (evP .e (.ext 1 (.c v24))) fun v26 =>
    asB v26 fun c26 =>
    forceB (!c26) fun c28 =>
    finM m0.h.length (tupA [(.b c28)]) m_5)

theorem g72_ok {ro : List ABlk} {O : Caller} {M : Means} (hM : M.Ok ⟨F, O⟩ ro) {v0 x1 h r} (ho : O 72 [v0, (.i .i64 x1)] h = none) (hr : g72 M ro v0 x1 ⟨h, h.length, h.length⟩ = some r) : callX ⟨F, O⟩ ro 72 [v0, (.i .i64 x1)] h = some r := by
  refine callX_of (F := ⟨F, O⟩) (fn := fn72) (g := g72 M ro v0 x1) ho rfl rfl hr ?_
  clear ho
  clear hr
  intro m0 t0 ht hr
  have g0 : t0.get 0 = v0 := ht 0
  have g1 : t0.get 1 = (.i .i64 x1) := ht 1
  clear ht
  unfold g72 at hr
  refine w_seq ?_
  refine w_ops ?_
  refine wo_step (v := (.b false)) (s_pure (p_mv rfl)) ?_
  refine wo_nil ?_
  refine nx_norm ?_
  refine w_seq ?_
  have hq := bindO_inv hr
  clear hr
  obtain ⟨m_1, ef, hr⟩ := hq
  refine w_flt (af := true) rfl ef ?_
  refine wf_step (v := v0) (f_P rfl (s_pure (p_mv g0))) ?_
  refine wf_step (v := (.i .i64 x1)) (f_P rfl (s_pure (p_mv g1))) ?_
  have hq := bindO_inv hr
  clear hr
  obtain ⟨v12, e12, hr⟩ := hq
  refine wf_step (v := v12) (f_P rfl (s_pure (o_ixS rfl rfl e12))) ?_
  have hq := bindO_inv hr
  clear hr
  obtain ⟨v13, e13, hr⟩ := hq
  have hq := asS_inv hr
  clear hr
  obtain ⟨s13, rfl, hr⟩ := hq
  refine wf_step (v := (.s s13)) (f_ld rfl e13) ?_
  refine wf_step (v := (.i .i64 x1)) (f_P rfl (s_pure (p_mv g1))) ?_
  have hq := bindP_inv hr
  clear hr
  obtain ⟨v15, m_2, e15, hr⟩ := hq
  have hq := asS_inv hr
  clear hr
  obtain ⟨s15, rfl, hr⟩ := hq
  have hq := chk_inv hr
  clear hr
  obtain ⟨hc15, hr⟩ := hq
  refine wf_step (v := (.s s15)) (f_M hc15 (s_call (mc rfl mn) (callM_le hM.call e15))) ?_
  have hq := bindP_inv hr
  clear hr
  obtain ⟨v16, m_3, e16, hr⟩ := hq
  refine wf_step (v := v16) (f_F rfl (s_call (mc rfl (mc rfl mn)) (callM_le hM.call e16))) ?_
  refine wf_step (v := v16) (f_P rfl (s_pure (p_mv rfl))) ?_
  have hq := bindO_inv hr
  clear hr
  obtain ⟨v17, e17, hr⟩ := hq
  have hq := asS_inv hr
  clear hr
  obtain ⟨s17, rfl, hr⟩ := hq
  refine wf_step (v := (.s s17)) (f_P rfl (s_pure (o_ext rfl e17))) ?_
  have hq := bindO_inv hr
  clear hr
  obtain ⟨v18, e18, hr⟩ := hq
  have hq := asB_inv hr
  clear hr
  obtain ⟨c18, rfl, hr⟩ := hq
  refine wf_step (v := (.b c18)) (f_P rfl (s_pure (o_ext rfl e18))) ?_
  refine wf_step (v := (.s s17)) (f_P rfl (s_pure (p_mv rfl))) ?_
  refine wf_step (v := (.b c18)) (f_P rfl (s_pure (p_mv rfl))) ?_
  have hq := bindO_inv hr
  clear hr
  obtain ⟨m_4, ef_1, hr⟩ := hq
  refine wf_end ef_1 ?_
  refine nx_norm ?_
  refine w_seq ?_
  refine w_seq ?_
  refine w_ops ?_
  refine wo_step (v := (.b c18)) (s_pure (p_mv rfl)) ?_
  have hq := forceB_inv hr
  clear hr
  obtain ⟨c20, e20, hr⟩ := hq
  refine wo_step (v := (.b c20)) (s_pure ((p_not rfl).trans (cb e20))) ?_
  refine wo_nil ?_
  refine nx_norm ?_
  have hq := cond_inv hr
  clear hr
  rcases hq with ⟨rfl, hr⟩ | ⟨rfl, hr⟩
  · refine w_condT rfl ?_
    refine w_seq ?_
    refine w_ops ?_
    refine wo_step (v := (.b false)) (s_pure (p_mv rfl)) ?_
    refine wo_nil ?_
    refine nx_norm ?_
    refine w_ret ?_
    refine nx_ret ?_
    exact qf ret_ok (rt rfl rn) hr
  · refine w_condF rfl ?_
    refine w_skip ?_
    refine nx_norm ?_
    refine w_seq ?_
    refine w_ops ?_
    refine wo_step (v := v0) (s_pure (p_mv g0)) ?_
    refine wo_step (v := (.s s17)) (s_pure (p_mv rfl)) ?_
    have hq := bindP_inv hr
    clear hr
    obtain ⟨v24, m_5, e24, hr⟩ := hq
    refine wo_step (v := v24) (s_call (mc rfl (mc rfl mn)) (callM_le hM.call e24)) ?_
    refine wo_step (v := v24) (s_pure (p_mv rfl)) ?_
    have hq := bindO_inv hr
    clear hr
    obtain ⟨v25, e25, hr⟩ := hq
    have hq := asI_inv hr
    clear hr
    obtain ⟨x25, rfl, hr⟩ := hq
    refine wo_step (v := (.i .i64 x25)) (s_pure (o_ext rfl e25)) ?_
    have hq := bindO_inv hr
    clear hr
    obtain ⟨v26, e26, hr⟩ := hq
    have hq := asB_inv hr
    clear hr
    obtain ⟨c26, rfl, hr⟩ := hq
    refine wo_step (v := (.b c26)) (s_pure (o_ext rfl e26)) ?_
    refine wo_step (v := (.i .i64 x25)) (s_pure (p_mv rfl)) ?_
    refine wo_step (v := (.b c26)) (s_pure (p_mv rfl)) ?_
    refine wo_nil ?_
    refine nx_norm ?_
    refine w_seq ?_
    refine w_ops ?_
    refine wo_step (v := (.b c26)) (s_pure (p_mv rfl)) ?_
    have hq := forceB_inv hr
    clear hr
    obtain ⟨c28, e28, hr⟩ := hq
    refine wo_step (v := (.b c28)) (s_pure ((p_not rfl).trans (cb e28))) ?_
    refine wo_step (v := (.b c28)) (s_pure (p_mv rfl)) ?_
    refine wo_nil ?_
    refine nx_norm ?_
    refine w_ret ?_
    exact qf ret_ok (rt rfl rn) hr

/- dibber/dibberref03.Bud -/
abbrev g73_J0 (v0 : AVal) (s9 : List UInt8) (m0 : Mm) (o : Bool) (m1 : Mm) (t1 : Tr) : Prop :=
  match o with
  | c20 => m0 = m1 ∧ t1.get 20 = (.b c20) ∧ t1.get 0 = v0 ∧ t1.get 5 = (.s s9)
abbrev g73_J1  (o : Bool × Mm) (m1 : Mm) (t1 : Tr) : Prop :=
  match o with
  | (c27, m_1) => m_1 = m1 ∧ t1.get 27 = (.b c27)
def g73 (M : Means) (ro : List ABlk) (v0 : AVal) (x1 : Int) (m0 : Mm) : Option (AVal × Heap × Nat × Nat) :=
  bindO (evP .e (.ixS 1 (.c v0) (.c (.i .i64 x1)))) fun v8 =>
  bindO (ldM ro m0 true 1 v8) fun v9 =>
  asS v9 fun s9 =>
  bindO (evP .e (.len true (.c (.s s9)))) fun v11 =>
  asI .i64 v11 fun x11 =>
  forceB (!ltI x11 2) fun c12 =>
  bindO (cond c12 (
    bindO (evP .e (.ixStr (.c (.s s9)) (.c (.i .i64 0)))) fun v15 =>
    asI .u8 v15 fun x15 =>
    forceI (wr .u8 (x15 - 97)) fun x16 =>
    forceI (wr .i64 x16) fun x17 =>
    forceB (eqI x17 x1) fun c19 =>
    some c19) (
    some false)) fun c20 =>
  bindO (cond c20 (
    bindO (evP .e (.slStr (.c (.s s9)) (some (.c (.i .i64 1))) none)) fun v24 =>
    asS v24 fun s24 =>
    bindP (callM M.call m0 62 [v0, (.s s24)]) fun v25 m_2 =>
    asI .i64 v25 fun x25 =>
    forceB (ltI x25 0) fun c26 =>
    some (c26, m_2)) (
    some (false, m0))) fun ⟨c27, m_1⟩ =>
  finM m0.h.length (tupA [(.b c27)]) m_1

theorem g73_ok {ro : List ABlk} {O : Caller} {M : Means} (hM : M.Ok ⟨F, O⟩ ro) {v0 x1 h r} (ho : O 73 [v0, (.i .i64 x1)] h = none) (hr : g73 M ro v0 x1 ⟨h, h.length, h.length⟩ = some r) : callX ⟨F, O⟩ ro 73 [v0, (.i .i64 x1)] h = some r := by
  refine callX_of (F := ⟨F, O⟩) (fn := fn73) (g := g73 M ro v0 x1) ho rfl rfl hr ?_
  clear ho
  clear hr
  intro m0 t0 ht hr
  have g0 : t0.get 0 = v0 := ht 0
  have g1 : t0.get 1 = (.i .i64 x1) := ht 1
  clear ht
  unfold g73 at hr
  refine w_seq ?_
  refine w_ops ?_
  refine wo_step (v := (.b false)) (s_pure (p_mv rfl)) ?_
  refine wo_nil ?_
  refine nx_norm ?_
  refine w_seq ?_
  refine w_ops ?_
  refine wo_step (v := v0) (s_pure (p_mv g0)) ?_
  refine wo_step (v := (.i .i64 x1)) (s_pure (p_mv g1)) ?_
  have hq := bindO_inv hr
  clear hr
  obtain ⟨v8, e8, hr⟩ := hq
  refine wo_step (v := v8) (s_pure (o_ixS rfl rfl e8)) ?_
  have hq := bindO_inv hr
  clear hr
  obtain ⟨v9, e9, hr⟩ := hq
  have hq := asS_inv hr
  clear hr
  obtain ⟨s9, rfl, hr⟩ := hq
  refine wo_step (v := (.s s9)) (s_ld rfl e9) ?_
  refine wo_step (v := (.s s9)) (s_pure (p_mv rfl)) ?_
  refine wo_nil ?_
  refine nx_norm ?_
  refine w_seq ?_
  refine w_ops ?_
  refine wo_step (v := (.s s9)) (s_pure (p_mv rfl)) ?_
  have hq := bindO_inv hr
  clear hr
  obtain ⟨v11, e11, hr⟩ := hq
  have hq := asI_inv hr
  clear hr
  obtain ⟨x11, rfl, hr⟩ := hq
  refine wo_step (v := (.i .i64 x11)) (s_pure (o_len rfl e11)) ?_
  have hq := forceB_inv hr
  clear hr
  obtain ⟨c12, e12, hr⟩ := hq
  refine wo_step (v := (.b c12)) (s_pure (p_bin rfl rfl (b_geq.trans (cb e12)))) ?_
  refine wo_step (v := (.b c12)) (s_pure (p_mv rfl)) ?_
  have hq := bindO_inv hr
  clear hr
  obtain ⟨o, hr, hk⟩ := hq
  refine wo_join 7 (g73_J0 v0 s9 m0 o) ?_ ?_
  · clear hk
    have hq := cond_inv hr
    clear hr
    rcases hq with ⟨rfl, hr⟩ | ⟨rfl, hr⟩
    · refine wo_take (v := (.s s9)) rfl (s_pure (p_mv rfl)) ?_
      have hq := bindO_inv hr
      clear hr
      obtain ⟨v15, e15, hr⟩ := hq
      have hq := asI_inv hr
      clear hr
      obtain ⟨x15, rfl, hr⟩ := hq
      refine wo_take (v := (.i .u8 x15)) rfl (s_pure (o_ixStr rfl rfl e15)) ?_
      have hq := forceI_inv hr
      clear hr
      obtain ⟨x16, e16, hr⟩ := hq
      refine wo_take (v := (.i .u8 x16)) rfl (s_pure (p_bin rfl rfl (b_sub.trans (ci e16)))) ?_
      have hq := forceI_inv hr
      clear hr
      obtain ⟨x17, e17, hr⟩ := hq
      refine wo_take (v := (.i .i64 x17)) rfl (s_pure ((p_conv rfl).trans (ci e17))) ?_
      refine wo_take (v := (.i .i64 x1)) rfl (s_pure (p_mv g1)) ?_
      have hq := forceB_inv hr
      clear hr
      obtain ⟨c19, e19, hr⟩ := hq
      refine wo_take (v := (.b c19)) rfl (s_pure (p_bin rfl rfl (b_eql.trans (cb e19)))) ?_
      refine wo_step (v := (.b c19)) (s_pure (p_pickT rfl rfl)) ?_
      refine wo_nil ?_
      cases hr
      exact ⟨_, _, rfl, rfl, gl rfl, gl g0, gl rfl⟩
    · refine wo_skip (v := (.b false)) rfl rfl ?_
      refine wo_skip (v := (.b false)) rfl rfl ?_
      refine wo_skip (v := (.b false)) rfl rfl ?_
      refine wo_skip (v := (.b false)) rfl rfl ?_
      refine wo_skip (v := (.b false)) rfl rfl ?_
      refine wo_skip (v := (.b false)) rfl rfl ?_
      refine wo_step (v := (.b false)) (s_pure (p_pickF rfl rfl)) ?_
      refine wo_nil ?_
      cases hr
      exact ⟨_, _, rfl, rfl, gl rfl, gl g0, gl rfl⟩
  · clear hr
    have hr := hk
    clear hk
    obtain ⟨c20, ho⟩ : ∃ z, z = o := ⟨_, rfl⟩
    subst ho
    rintro mm t_1 ⟨rfl, g20, g0, g5⟩
    refine wo_step (v := (.b c20)) (s_pure (p_mv g20)) ?_
    have hq := bindO_inv hr
    clear hr
    obtain ⟨o_1, hr, hk⟩ := hq
    refine wo_join 6 (g73_J1  o_1) ?_ ?_
    · clear hk
      have hq := cond_inv hr
      clear hr
      rcases hq with ⟨rfl, hr⟩ | ⟨rfl, hr⟩
      · refine wo_take (v := v0) rfl (s_pure (p_mv g0)) ?_
        refine wo_take (v := (.s s9)) rfl (s_pure (p_mv g5)) ?_
        have hq := bindO_inv hr
        clear hr
        obtain ⟨v24, e24, hr⟩ := hq
        have hq := asS_inv hr
        clear hr
        obtain ⟨s24, rfl, hr⟩ := hq
        refine wo_take (v := (.s s24)) rfl (s_pure (o_slStr rfl (os rfl) on e24)) ?_
        have hq := bindP_inv hr
        clear hr
        obtain ⟨v25, m_2, e25, hr⟩ := hq
        have hq := asI_inv hr
        clear hr
        obtain ⟨x25, rfl, hr⟩ := hq
        refine wo_take (v := (.i .i64 x25)) rfl (s_call (mc rfl (mc rfl mn)) (callM_le hM.call e25)) ?_
        have hq := forceB_inv hr
        clear hr
        obtain ⟨c26, e26, hr⟩ := hq
        refine wo_take (v := (.b c26)) rfl (s_pure (p_bin rfl rfl (b_lss.trans (cb e26)))) ?_
        refine wo_step (v := (.b c26)) (s_pure (p_pickT rfl rfl)) ?_
        refine wo_nil ?_
        cases hr
        exact ⟨_, _, rfl, rfl, gl rfl⟩
      · refine wo_skip (v := (.b false)) rfl rfl ?_
        refine wo_skip (v := (.b false)) rfl rfl ?_
        refine wo_skip (v := (.b false)) rfl rfl ?_
        refine wo_skip (v := (.b false)) rfl rfl ?_
        refine wo_skip (v := (.b false)) rfl rfl ?_
        refine wo_step (v := (.b false)) (s_pure (p_pickF rfl rfl)) ?_
        refine wo_nil ?_
        cases hr
        exact ⟨_, _, rfl, rfl, gl rfl⟩
    · clear hr
      have hr := hk
      clear hk
      obtain ⟨c27, m_1⟩ := o_1
      rintro mm_1 t_2 ⟨rfl, g27⟩
      refine wo_step (v := (.b c27)) (s_pure (p_mv g27)) ?_
      refine wo_nil ?_
      refine nx_norm ?_
      refine w_ret ?_
      exact qf ret_ok (rt rfl rn) hr

/- dibber/vine.readBud -/
abbrev g74_J0 (s1 : List UInt8) (v13 : AVal) (o : Bool × Mm) (m1 : Mm) (t1 : Tr) : Prop :=
  match o with
  | (c26, m_2) => m_2 = m1 ∧ t1.get 26 = (.b c26) ∧ t1.get 1 = (.s s1) ∧ t1.get 7 = v13
def g74 (M : Means) (ro : List ABlk) (v0 : AVal) (s1 : List UInt8) (m0 : Mm) : Option (AVal × Heap × Nat × Nat) :=
  bindP (callM M.call m0 71 [v0]) fun v12 m_1 =>
  bindO (evP .e (.ext 0 (.c v12))) fun v13 =>
  bindO (evP .e (.ext 1 (.c v12))) fun v14 =>
  asI .i64 v14 fun x14 =>
  forceB (!eqI x14 0) fun c16 =>
  cond c16 (
    finM m0.h.length (tupA [AVal.nsl, (.i .i64 0), (.i .i64 x14)]) m_1) (
    bindO (evP .e (.len true (.c (.s s1)))) fun v19 =>
    asI .i64 v19 fun x19 =>
    forceB (!eqI x19 1) fun c20 =>
    bindO (cond c20 (
      some (true, m_1)) (
      bindP (callM M.call m_1 92 [v13, (.s s1)]) fun v24 m_3 =>
      asB v24 fun c24 =>
      forceB (!c24) fun c25 =>
      some (c25, m_3))) fun ⟨c26, m_2⟩ =>
    cond c26 (
      finM m0.h.length (tupA [AVal.nsl, (.i .i64 0), (.i .i64 5)]) m_2) (
      bindO (evP .e (.ixStr (.c (.s s1)) (.c (.i .i64 0)))) fun v28 =>
      asI .u8 v28 fun x28 =>
      bindP (callM M.call m_2 54 [(.i .u8 x28)]) fun v29 m_4 =>
      asI .i64 v29 fun x29 =>
      bindP (callM M.call m_4 72 [v13, (.i .i64 x29)]) fun v32 m_5 =>
      asB v32 fun c32 =>
      forceB (!c32) fun c33 =>
      cond c33 (
        finM m0.h.length (tupA [AVal.nsl, (.i .i64 0), (.i .i64 10)]) m_5) (
        finM m0.h.length (tupA [v13, (.i .i64 x29), (.i .i64 0)]) m_5)))

theorem g74_ok {ro : List ABlk} {O : Caller} {M : Means} (hM : M.Ok ⟨F, O⟩ ro) {v0 s1 h r} (ho : O 74 [v0, (.s s1)] h = none) (hr : g74 M ro v0 s1 ⟨h, h.length, h.length⟩ = some r) : callX ⟨F, O⟩ ro 74 [v0, (.s s1)] h = some r := by
  refine callX_of (F := ⟨F, O⟩) (fn := fn74) (g := g74 M ro v0 s1) ho rfl rfl hr ?_
  clear ho
  clear hr
  intro m0 t0 ht hr
  have g0 : t0.get 0 = v0 := ht 0
  have g1 : t0.get 1 = (.s s1) := ht 1
  clear ht
  unfold g74 at hr
  refine w_seq ?_
  refine w_ops ?_
  refine wo_step (v := AVal.nsl) (s_pure (p_mv rfl)) ?_
  refine wo_step (v := (.i .i64 0)) (s_pure (p_mv rfl)) ?_
  refine wo_step (v := (.i .i64 0)) (s_pure (p_mv rfl)) ?_
  refine wo_nil ?_
  refine nx_norm ?_
  refine w_seq ?_
  refine w_ops ?_
  refine wo_step (v := v0) (s_pure (p_mv g0)) ?_
  have hq := bindP_inv hr
  clear hr
  obtain ⟨v12, m_1, e12, hr⟩ := hq
  refine wo_step (v := v12) (s_call (mc rfl mn) (callM_le hM.call e12)) ?_
  refine wo_step (v := v12) (s_pure (p_mv rfl)) ?_
  have hq := bindO_inv hr
  clear hr
  obtain ⟨v13, e13, hr⟩ := hq
  refine wo_step (v := v13) (s_pure (o_ext rfl e13)) ?_
  have hq := bindO_inv hr
  clear hr
  obtain ⟨v14, e14, hr⟩ := hq
  have hq := asI_inv hr
  clear hr
  obtain ⟨x14, rfl, hr⟩ := hq
  refine wo_step (v := (.i .i64 x14)) (s_pure (o_ext rfl e14)) ?_
  refine wo_step (v := v13) (s_pure (p_mv rfl)) ?_
  refine wo_step (v := (.i .i64 x14)) (s_pure (p_mv rfl)) ?_
  refine wo_nil ?_
  refine nx_norm ?_
  refine w_seq ?_
  refine w_seq ?_
  refine w_ops ?_
  refine wo_step (v := (.i .i64 x14)) (s_pure (p_mv rfl)) ?_
  have hq := forceB_inv hr
  clear hr
  obtain ⟨c16, e16, hr⟩ := hq
  refine wo_step (v := (.b c16)) (s_pure (p_bin rfl rfl (b_neq.trans (cb e16)))) ?_
  refine wo_nil ?_
  refine nx_norm ?_
  have hq := cond_inv hr
  clear hr
  rcases hq with ⟨rfl, hr⟩ | ⟨rfl, hr⟩
  · refine w_condT rfl ?_
    refine w_seq ?_
    refine w_ops ?_
    refine wo_step (v := (.i .i64 x14)) (s_pure (p_mv rfl)) ?_
    refine wo_step (v := AVal.nsl) (s_pure (p_mv rfl)) ?_
    refine wo_step (v := (.i .i64 0)) (s_pure (p_mv rfl)) ?_
    refine wo_step (v := (.i .i64 x14)) (s_pure (p_mv rfl)) ?_
    refine wo_nil ?_
    refine nx_norm ?_
    refine w_ret ?_
    refine nx_ret ?_
    exact qf ret_ok (rt rfl (rt rfl (rt rfl rn))) hr
  · refine w_condF rfl ?_
    refine w_skip ?_
    refine nx_norm ?_
    refine w_seq ?_
    refine w_seq ?_
    refine w_ops ?_
    refine wo_step (v := (.s s1)) (s_pure (p_mv g1)) ?_
    have hq := bindO_inv hr
    clear hr
    obtain ⟨v19, e19, hr⟩ := hq
    have hq := asI_inv hr
    clear hr
    obtain ⟨x19, rfl, hr⟩ := hq
    refine wo_step (v := (.i .i64 x19)) (s_pure (o_len rfl e19)) ?_
    have hq := forceB_inv hr
    clear hr
    obtain ⟨c20, e20, hr⟩ := hq
    refine wo_step (v := (.b c20)) (s_pure (p_bin rfl rfl (b_neq.trans (cb e20)))) ?_
    refine wo_step (v := (.b c20)) (s_pure (p_mv rfl)) ?_
    have hq := bindO_inv hr
    clear hr
    obtain ⟨o, hr, hk⟩ := hq
    refine wo_join 5 (g74_J0 s1 v13 o) ?_ ?_
    · clear hk
      have hq := cond_inv hr
      clear hr
      rcases hq with ⟨rfl, hr⟩ | ⟨rfl, hr⟩
      · refine wo_skip (v := (.b true)) rfl rfl ?_
        refine wo_skip (v := (.b true)) rfl rfl ?_
        refine wo_skip (v := (.b true)) rfl rfl ?_
        refine wo_skip (v := (.b true)) rfl rfl ?_
        refine wo_step (v := (.b true)) (s_pure (p_pickT rfl rfl)) ?_
        refine wo_nil ?_
        cases hr
        exact ⟨_, _, rfl, rfl, gl rfl, gl g1, gl rfl⟩
      · refine wo_take (v := v13) rfl (s_pure (p_mv rfl)) ?_
        refine wo_take (v := (.s s1)) rfl (s_pure (p_mv g1)) ?_
        have hq := bindP_inv hr
        clear hr
        obtain ⟨v24, m_3, e24, hr⟩ := hq
        have hq := asB_inv hr
        clear hr
        obtain ⟨c24, rfl, hr⟩ := hq
        refine wo_take (v := (.b c24)) rfl (s_call (mc rfl (mc rfl mn)) (callM_le hM.call e24)) ?_
        have hq := forceB_inv hr
        clear hr
        obtain ⟨c25, e25, hr⟩ := hq
        refine wo_take (v := (.b c25)) rfl (s_pure ((p_not rfl).trans (cb e25))) ?_
        refine wo_step (v := (.b c25)) (s_pure (p_pickF rfl rfl)) ?_
        refine wo_nil ?_
        cases hr
        exact ⟨_, _, rfl, rfl, gl rfl, gl g1, gl rfl⟩
    · clear hr
      have hr := hk
      clear hk
      obtain ⟨c26, m_2⟩ := o
      rintro mm t_1 ⟨rfl, g26, g1, g7⟩
      refine wo_nil ?_
      refine nx_norm ?_
      have hq := cond_inv hr
      clear hr
      rcases hq with ⟨rfl, hr⟩ | ⟨rfl, hr⟩
      · refine w_condT g26 ?_
        refine w_seq ?_
        refine w_ops ?_
        refine wo_step (v := AVal.nsl) (s_pure (p_mv rfl)) ?_
        refine wo_step (v := (.i .i64 0)) (s_pure (p_mv rfl)) ?_
        refine wo_step (v := (.i .i64 5)) (s_pure (p_mv rfl)) ?_
        refine wo_nil ?_
        refine nx_norm ?_
        refine w_ret ?_
        refine nx_ret ?_
        exact qf ret_ok (rt rfl (rt rfl (rt rfl rn))) hr
      · refine w_condF g26 ?_
        refine w_skip ?_
        refine nx_norm ?_
        refine w_seq ?_
        refine w_ops ?_
        refine wo_step (v := (.s s1)) (s_pure (p_mv g1)) ?_
        have hq := bindO_inv hr
        clear hr
        obtain ⟨v28, e28, hr⟩ := hq
        have hq := asI_inv hr
        clear hr
        obtain ⟨x28, rfl, hr⟩ := hq
        refine wo_step (v := (.i .u8 x28)) (s_pure (o_ixStr rfl rfl e28)) ?_
        have hq := bindP_inv hr
        clear hr
        obtain ⟨v29, m_4, e29, hr⟩ := hq
        have hq := asI_inv hr
        clear hr
        obtain ⟨x29, rfl, hr⟩ := hq
        refine wo_step (v := (.i .i64 x29)) (s_call (mc rfl mn) (callM_le hM.call e29)) ?_
        refine wo_step (v := (.i .i64 x29)) (s_pure (p_mv rfl)) ?_
        refine wo_nil ?_
        refine nx_norm ?_
        refine w_seq ?_
        refine w_seq ?_
        refine w_ops ?_
        refine wo_step (v := v13) (s_pure (p_mv g7)) ?_
        refine wo_step (v := (.i .i64 x29)) (s_pure (p_mv rfl)) ?_
        have hq := bindP_inv hr
        clear hr
        obtain ⟨v32, m_5, e32, hr⟩ := hq
        have hq := asB_inv hr
        clear hr
        obtain ⟨c32, rfl, hr⟩ := hq
        refine wo_step (v := (.b c32)) (s_call (mc rfl (mc rfl mn)) (callM_le hM.call e32)) ?_
        have hq := forceB_inv hr
        clear hr
        obtain ⟨c33, e33, hr⟩ := hq
        refine wo_step (v := (.b c33)) (s_pure ((p_not rfl).trans (cb e33))) ?_
        refine wo_nil ?_
        refine nx_norm ?_
        have hq := cond_inv hr
        clear hr
        rcases hq with ⟨rfl, hr⟩ | ⟨rfl, hr⟩
        · refine w_condT rfl ?_
          refine w_seq ?_
          refine w_ops ?_
          refine wo_step (v := AVal.nsl) (s_pure (p_mv rfl)) ?_
          refine wo_step (v := (.i .i64 0)) (s_pure (p_mv rfl)) ?_
          refine wo_step (v := (.i .i64 10)) (s_pure (p_mv rfl)) ?_
          refine wo_nil ?_
          refine nx_norm ?_
          refine w_ret ?_
          refine nx_ret ?_
          exact qf ret_ok (rt rfl (rt rfl (rt rfl rn))) hr
        · refine w_condF rfl ?_
          refine w_skip ?_
          refine nx_norm ?_
          refine w_seq ?_
          refine w_ops ?_
          refine wo_step (v := v13) (s_pure (p_mv g7)) ?_
          refine wo_step (v := (.i .i64 x29)) (s_pure (p_mv rfl)) ?_
          refine wo_step (v := v13) (s_pure (p_mv rfl)) ?_
          refine wo_step (v := (.i .i64 x29)) (s_pure (p_mv rfl)) ?_
          refine wo_step (v := (.i .i64 0)) (s_pure (p_mv rfl)) ?_
          refine wo_nil ?_
          refine nx_norm ?_
          refine w_ret ?_
          exact qf ret_ok (rt rfl (rt rfl (rt rfl rn))) hr

/- (dibber/vine.rules).endless -/

def g75 (M : Means) (ro : List ABlk) (v0 : AVal) (x1 : Int) (m0 : Mm) : Option (AVal × Heap × Nat × Nat) :=
  bindP (stepM ro m0 (.bx 55 1 (.c v0))) fun v2 m_1 =>
  bindP (stepM ro m_1 (.bx 3 1 (.c (.i .i64 x1)))) fun v3 m_2 =>
  bindO (some (AVal.fn 98 [] [v2, v3])) fun v5 =>
  finM m0.h.length (tupA [v5]) m_2

theorem g75_ok {ro : List ABlk} {O : Caller} {M : Means} (hM : M.Ok ⟨F, O⟩ ro) {v0 x1 h r} (ho : O 75 [v0, (.i .i64 x1)] h = none) (hr : g75 M ro v0 x1 ⟨h, h.length, h.length⟩ = some r) : callX ⟨F, O⟩ ro 75 [v0, (.i .i64 x1)] h = some r := by
  refine callX_of (F := ⟨F, O⟩) (fn := fn75) (g := g75 M ro v0 x1) ho rfl rfl hr ?_
  clear ho
  clear hr
  intro m0 t0 ht hr
  have g0 : t0.get 0 = v0 := ht 0
  have g1 : t0.get 1 = (.i .i64 x1) := ht 1
  clear ht
  unfold g75 at hr
  refine w_seq ?_
  refine w_ops ?_
  have hq := bindP_inv hr
  clear hr
  obtain ⟨v2, m_1, e2, hr⟩ := hq
  refine wo_step (v := v2) (s_bx g0 e2) ?_
  have hq := bindP_inv hr
  clear hr
  obtain ⟨v3, m_2, e3, hr⟩ := hq
  refine wo_step (v := v3) (s_bx g1 e3) ?_
  refine wo_step (v := AVal.nfn) (s_pure (p_mv rfl)) ?_
  refine wo_nil ?_
  refine nx_norm ?_
  refine w_seq ?_
  refine w_ops ?_
  have hq := bindO_inv hr
  clear hr
  obtain ⟨v5, e5, hr⟩ := hq
  refine wo_step (v := v5) (s_pure (Eq.trans (o_mkfn mn (mc rfl (mc rfl mn))) e5)) ?_
  refine wo_step (v := v5) (s_pure (p_mv rfl)) ?_
  refine wo_nil ?_
  refine nx_norm ?_
  refine w_ret ?_
  exact qf ret_ok (rt rfl rn) hr

/- dibber/dibberref03.bud -/
abbrev g76_J0 (v0 : AVal) (s1 : List UInt8) (o : Bool × Mm) (m1 : Mm) (t1 : Tr) : Prop :=
  match o with
  | (c19, m_2) => m_2 = m1 ∧ t1.get 19 = (.b c19) ∧ t1.get 0 = v0 ∧ t1.get 1 = (.s s1)
def g76 (M : Means) (ro : List ABlk) (v0 : AVal) (s1 : List UInt8) (m0 : Mm) : Option (AVal × Heap × Nat × Nat) :=
  bindP (callM M.call m0 46 [v0]) fun v7 m_1 =>
  asI .i64 v7 fun x7 =>
  forceB (!eqI x7 0) fun c9 =>
  cond c9 (
    finM m0.h.length (tupA [(.i .i64 x7)]) m_1) (
    bindO (evP .e (.len true (.c (.s s1)))) fun v12 =>
    asI .i64 v12 fun x12 =>
    forceB (!eqI x12 1) fun c13 =>
    bindO (cond c13 (
      some (true, m_1)) (
      bindP (callM M.call m_1 85 [v0, (.s s1)]) fun v17 m_3 =>
      asB v17 fun c17 =>
      forceB (!c17) fun c18 =>
      some (c18, m_3))) fun ⟨c19, m_2⟩ =>
    cond c19 (
      finM m0.h.length (tupA [(.i .i64 5)]) m_2) (
      bindO (evP .e (.ixStr (.c (.s s1)) (.c (.i .i64 0)))) fun v22 =>
      asI .u8 v22 fun x22 =>
      forceI (wr .u8 (x22 - 97)) fun x23 =>
      forceI (wr .i64 x23) fun x24 =>
      bindP (callM M.call m_2 73 [v0, (.i .i64 x24)]) fun v25 m_4 =>
      asB v25 fun c25 =>
      forceB (!c25) fun c26 =>
      cond c26 (
        finM m0.h.length (tupA [(.i .i64 10)]) m_4) (
        finM m0.h.length (tupA [(.i .i64 0)]) m_4)))

theorem g76_ok {ro : List ABlk} {O : Caller} {M : Means} (hM : M.Ok ⟨F, O⟩ ro) {v0 s1 h r} (ho : O 76 [v0, (.s s1)] h = none) (hr : g76 M ro v0 s1 ⟨h, h.length, h.length⟩ = some r) : callX ⟨F, O⟩ ro 76 [v0, (.s s1)] h = some r := by
  refine callX_of (F := ⟨F, O⟩) (fn := fn76) (g := g76 M ro v0 s1) ho rfl rfl hr ?_
  clear ho
  clear hr
  intro m0 t0 ht hr
  have g0 : t0.get 0 = v0 := ht 0
  have g1 : t0.get 1 = (.s s1) := ht 1
  clear ht
  unfold g76 at hr
  refine w_seq ?_
  refine w_ops ?_
  refine wo_step (v := (.i .i64 0)) (s_pure (p_mv rfl)) ?_
  refine wo_nil ?_
  refine nx_norm ?_
  refine w_seq ?_
  refine w_ops ?_
  refine wo_step (v := v0) (s_pure (p_mv g0)) ?_
  have hq := bindP_inv hr
  clear hr
  obtain ⟨v7, m_1, e7, hr⟩ := hq
  have hq := asI_inv hr
  clear hr
  obtain ⟨x7, rfl, hr⟩ := hq
  refine wo_step (v := (.i .i64 x7)) (s_call (mc rfl mn) (callM_le hM.call e7)) ?_
  refine wo_step (v := (.i .i64 x7)) (s_pure (p_mv rfl)) ?_
  refine wo_nil ?_
  refine nx_norm ?_
  refine w_seq ?_
  refine w_seq ?_
  refine w_ops ?_
  refine wo_step (v := (.i .i64 x7)) (s_pure (p_mv rfl)) ?_
  have hq := forceB_inv hr
  clear hr
  obtain ⟨c9, e9, hr⟩ := hq
  refine wo_step (v := (.b c9)) (s_pure (p_bin rfl rfl (b_neq.trans (cb e9)))) ?_
  refine wo_nil ?_
  refine nx_norm ?_
  have hq := cond_inv hr
  clear hr
  rcases hq with ⟨rfl, hr⟩ | ⟨rfl, hr⟩
  · refine w_condT rfl ?_
    refine w_seq ?_
    refine w_ops ?_
    refine wo_step (v := (.i .i64 x7)) (s_pure (p_mv rfl)) ?_
    refine wo_step (v := (.i .i64 x7)) (s_pure (p_mv rfl)) ?_
    refine wo_nil ?_
    refine nx_norm ?_
    refine w_ret ?_
    refine nx_ret ?_
    exact qf ret_ok (rt rfl rn) hr
  · refine w_condF rfl ?_
    refine w_skip ?_
    refine nx_norm ?_
    refine w_seq ?_
    refine w_seq ?_
    refine w_ops ?_
    refine wo_step (v := (.s s1)) (s_pure (p_mv g1)) ?_
    have hq := bindO_inv hr
    clear hr
    obtain ⟨v12, e12, hr⟩ := hq
    have hq := asI_inv hr
    clear hr
    obtain ⟨x12, rfl, hr⟩ := hq
    refine wo_step (v := (.i .i64 x12)) (s_pure (o_len rfl e12)) ?_
    have hq := forceB_inv hr
    clear hr
    obtain ⟨c13, e13, hr⟩ := hq
    refine wo_step (v := (.b c13)) (s_pure (p_bin rfl rfl (b_neq.trans (cb e13)))) ?_
    refine wo_step (v := (.b c13)) (s_pure (p_mv rfl)) ?_
    have hq := bindO_inv hr
    clear hr
    obtain ⟨o, hr, hk⟩ := hq
    refine wo_join 5 (g76_J0 v0 s1 o) ?_ ?_
    · clear hk
      have hq := cond_inv hr
      clear hr
      rcases hq with ⟨rfl, hr⟩ | ⟨rfl, hr⟩
      · refine wo_skip (v := (.b true)) rfl rfl ?_
        refine wo_skip (v := (.b true)) rfl rfl ?_
        refine wo_skip (v := (.b true)) rfl rfl ?_
        refine wo_skip (v := (.b true)) rfl rfl ?_
        refine wo_step (v := (.b true)) (s_pure (p_pickT rfl rfl)) ?_
        refine wo_nil ?_
        cases hr
        exact ⟨_, _, rfl, rfl, gl rfl, gl g0, gl g1⟩
      · refine wo_take (v := v0) rfl (s_pure (p_mv g0)) ?_
        refine wo_take (v := (.s s1)) rfl (s_pure (p_mv g1)) ?_
        have hq := bindP_inv hr
        clear hr
        obtain ⟨v17, m_3, e17, hr⟩ := hq
        have hq := asB_inv hr
        clear hr
        obtain ⟨c17, rfl, hr⟩ := hq
        refine wo_take (v := (.b c17)) rfl (s_call (mc rfl (mc rfl mn)) (callM_le hM.call e17)) ?_
        have hq := forceB_inv hr
        clear hr
        obtain ⟨c18, e18, hr⟩ := hq
        refine wo_take (v := (.b c18)) rfl (s_pure ((p_not rfl).trans (cb e18))) ?_
        refine wo_step (v := (.b c18)) (s_pure (p_pickF rfl rfl)) ?_
        refine wo_nil ?_
        cases hr
        exact ⟨_, _, rfl, rfl, gl rfl, gl g0, gl g1⟩
    · clear hr
      have hr := hk
      clear hk
      obtain ⟨c19, m_2⟩ := o
      rintro mm t_1 ⟨rfl, g19, g0, g1⟩
      refine wo_nil ?_
      refine nx_norm ?_
      have hq := cond_inv hr
      clear hr
      rcases hq with ⟨rfl, hr⟩ | ⟨rfl, hr⟩
      · refine w_condT g19 ?_
        refine w_seq ?_
        refine w_ops ?_
        refine wo_step (v := (.i .i64 5)) (s_pure (p_mv rfl)) ?_
        refine wo_nil ?_
        refine nx_norm ?_
        refine w_ret ?_
        refine nx_ret ?_
        exact qf ret_ok (rt rfl rn) hr
      · refine w_condF g19 ?_
        refine w_skip ?_
        refine nx_norm ?_
        refine w_seq ?_
        refine w_seq ?_
        refine w_ops ?_
        refine wo_step (v := v0) (s_pure (p_mv g0)) ?_
        refine wo_step (v := (.s s1)) (s_pure (p_mv g1)) ?_
        have hq := bindO_inv hr
        clear hr
        obtain ⟨v22, e22, hr⟩ := hq
        have hq := asI_inv hr
        clear hr
        obtain ⟨x22, rfl, hr⟩ := hq
        refine wo_step (v := (.i .u8 x22)) (s_pure (o_ixStr rfl rfl e22)) ?_
        have hq := forceI_inv hr
        clear hr
        obtain ⟨x23, e23, hr⟩ := hq
        refine wo_step (v := (.i .u8 x23)) (s_pure (p_bin rfl rfl (b_sub.trans (ci e23)))) ?_
        have hq := forceI_inv hr
        clear hr
        obtain ⟨x24, e24, hr⟩ := hq
        refine wo_step (v := (.i .i64 x24)) (s_pure ((p_conv rfl).trans (ci e24))) ?_
        have hq := bindP_inv hr
        clear hr
        obtain ⟨v25, m_4, e25, hr⟩ := hq
        have hq := asB_inv hr
        clear hr
        obtain ⟨c25, rfl, hr⟩ := hq
        refine wo_step (v := (.b c25)) (s_call (mc rfl (mc rfl mn)) (callM_le hM.call e25)) ?_
        have hq := forceB_inv hr
        clear hr
        obtain ⟨c26, e26, hr⟩ := hq
        refine wo_step (v := (.b c26)) (s_pure ((p_not rfl).trans (cb e26))) ?_
        refine wo_nil ?_
        refine nx_norm ?_
        have hq := cond_inv hr
        clear hr
        rcases hq with ⟨rfl, hr⟩ | ⟨rfl, hr⟩
        · refine w_condT rfl ?_
          refine w_seq ?_
          refine w_ops ?_
          refine wo_step (v := (.i .i64 10)) (s_pure (p_mv rfl)) ?_
          refine wo_nil ?_
          refine nx_norm ?_
          refine w_ret ?_
          refine nx_ret ?_
          exact qf ret_ok (rt rfl rn) hr
        · refine w_condF rfl ?_
          refine w_skip ?_
          refine nx_norm ?_
          refine w_seq ?_
          refine w_ops ?_
          refine wo_step (v := (.i .i64 0)) (s_pure (p_mv rfl)) ?_
          refine wo_nil ?_
          refine nx_norm ?_
          refine w_ret ?_
          exact qf ret_ok (rt rfl rn) hr

/- dibber/dibberref03.Begun -/
abbrev g77_I0 (v0 : AVal) (x2 : Int) (s : AVal × Int × Mm) (m1 : Mm) (t1 : Tr) : Prop :=
  match s with
  | (v7, x8, m_2) => m_2 = m1 ∧ t1.get 7 = v7 ∧ t1.get 8 = (.i .i64 x8) ∧ t1.get 0 = v0 ∧ t1.get 2 = (.i .i64 x2)
abbrev g77_J0 (v0 : AVal) (x2 : Int) (o : (AVal × Mm)) (e : AExit) (m1 : Mm) (t1 : Tr) : Prop :=
  match o with
  | (y7, mo) => e = (.exit 0) ∧ mo = m1 ∧ t1.get 7 = y7 ∧ t1.get 2 = (.i .i64 x2)
def g77_b0 (M : Means) (ro : List ABlk) (v0 : AVal) (x2 : Int) (v7 : AVal) (x8 : Int) (m_2 : Mm) : Option ((AVal × Int × Mm) ⊕ ((AVal × Mm))) :=
  bindO (evP .e (.len false (.c v7))) fun v15 =>
  asI .i64 v15 fun x15 =>
  forceB (ltI x15 x2) fun c17 =>
  cond c17 (
    bindO (evP .e (.ixS 1 (.c v7) (.c (.i .i64 x8)))) fun v24 =>
    bindO (ldM ro m_2 true 1 v24) fun v25 =>
    asI .u8 v25 fun x25 =>
    forceI (wr .u8 (x25 - 97)) fun x26 =>
    forceI (wr .i64 x26) fun x27 =>
    bindO (evP .e (.ixS 1 (.c v0) (.c (.i .i64 x27)))) fun v28 =>
    bindO (ldM ro m_2 true 1 v28) fun v29 =>
    asS v29 fun s29 =>
    bindP (stepM ro m_2 (.app 5 1 1 [(AVal.i IntKind.u8 0)] (.c v7) (.c (.s s29)))) fun v30 m_3 =>
    forceI (wr .i64 (x8 + 1)) fun x19 =>
    some (.inl (v30, x19, m_3))) (
    some (.inr (v7, m_2)))
def g77 (M : Means) (ro : List ABlk) (v0 : AVal) (x1 : Int) (x2 : Int) (m0 : Mm) : Option (AVal × Heap × Nat × Nat) :=
  bindO (evP .e (.ixS 1 (.c v0) (.c (.i .i64 x1)))) fun v11 =>
  bindO (ldM ro m0 true 1 v11) fun v12 =>
  asS v12 fun s12 =>
  bindP (stepM ro m0 (.stb 5 (.c (.s s12)))) fun v13 m_1 =>
  bindO (M.loop (S := AVal × Int × Mm) (R := (AVal × Mm)) (fun s => g77_b0 M ro v0 x2 s.1 s.2.1 s.2.2) (v13, 1, m_1)) fun ⟨v7_1, m_4⟩ =>
  bindO (evP .e (.slS 1 (.c v7_1) none (some (.c (.i .i64 x2))) none)) fun v33 =>
  finM m0.h.length (tupA [v33]) m_4

theorem g77_ok {ro : List ABlk} {O : Caller} {M : Means} (hM : M.Ok ⟨F, O⟩ ro) {v0 x1 x2 h r} (ho : O 77 [v0, (.i .i64 x1), (.i .i64 x2)] h = none) (hr : g77 M ro v0 x1 x2 ⟨h, h.length, h.length⟩ = some r) : callX ⟨F, O⟩ ro 77 [v0, (.i .i64 x1), (.i .i64 x2)] h = some r := by
  refine callX_of (F := ⟨F, O⟩) (fn := fn77) (g := g77 M ro v0 x1 x2) ho rfl rfl hr ?_
  clear ho
  clear hr
  intro m0 t0 ht hr
  have g0 : t0.get 0 = v0 := ht 0
  have g1 : t0.get 1 = (.i .i64 x1) := ht 1
  have g2 : t0.get 2 = (.i .i64 x2) := ht 2
  clear ht
  unfold g77 at hr
  refine w_seq ?_
  refine w_ops ?_
  refine wo_step (v := AVal.nsl) (s_pure (p_mv rfl)) ?_
  refine wo_nil ?_
  refine nx_norm ?_
  refine w_seq ?_
  refine w_ops ?_
  refine wo_step (v := v0) (s_pure (p_mv g0)) ?_
  refine wo_step (v := (.i .i64 x1)) (s_pure (p_mv g1)) ?_
  have hq := bindO_inv hr
  clear hr
  obtain ⟨v11, e11, hr⟩ := hq
  refine wo_step (v := v11) (s_pure (o_ixS rfl rfl e11)) ?_
  have hq := bindO_inv hr
  clear hr
  obtain ⟨v12, e12, hr⟩ := hq
  have hq := asS_inv hr
  clear hr
  obtain ⟨s12, rfl, hr⟩ := hq
  refine wo_step (v := (.s s12)) (s_ld rfl e12) ?_
  have hq := bindP_inv hr
  clear hr
  obtain ⟨v13, m_1, e13, hr⟩ := hq
  refine wo_step (v := v13) (s_stb rfl e13) ?_
  refine wo_step (v := v13) (s_pure (p_mv rfl)) ?_
  refine wo_nil ?_
  refine nx_norm ?_
  refine w_seq ?_
  refine w_seq ?_
  refine w_ops ?_
  refine wo_step (v := (.i .i64 1)) (s_pure (p_mv rfl)) ?_
  refine wo_nil ?_
  refine nx_norm ?_
  refine w_block ?_
  have hq := bindO_inv hr
  clear hr
  obtain ⟨o, hl, hr⟩ := hq
  obtain ⟨n, hl⟩ := hM.loop _ _ _ hl
  refine jp_mono (w_loop _ (g77_I0 v0 x2) (g77_J0 v0 x2) ?_ n _ _ _ _ hl ⟨rfl, gl rfl, gl rfl, gl g0, gl g2⟩) ?_
  · clear hr hl
    intro s mm_1 t_1 o hi hr
    obtain ⟨v7, x8, m_2⟩ := s
    obtain ⟨rfl, g7, g8, g0, g2⟩ := hi
    unfold g77_b0 at hr
    refine w_seq ?_
    refine w_seq ?_
    refine w_ops ?_
    refine wo_step (v := v7) (s_pure (p_mv g7)) ?_
    have hq := bindO_inv hr
    clear hr
    obtain ⟨v15, e15, hr⟩ := hq
    have hq := asI_inv hr
    clear hr
    obtain ⟨x15, rfl, hr⟩ := hq
    refine wo_step (v := (.i .i64 x15)) (s_pure (o_len rfl e15)) ?_
    refine wo_step (v := (.i .i64 x2)) (s_pure (p_mv g2)) ?_
    have hq := forceB_inv hr
    clear hr
    obtain ⟨c17, e17, hr⟩ := hq
    refine wo_step (v := (.b c17)) (s_pure (p_bin rfl rfl (b_lss.trans (cb e17)))) ?_
    refine wo_nil ?_
    refine nx_norm ?_
    have hq := cond_inv hr
    clear hr
    rcases hq with ⟨rfl, hr⟩ | ⟨rfl, hr⟩
    · refine w_condT rfl ?_
      refine w_skip ?_
      refine nx_norm ?_
      refine w_seq ?_
      refine w_block ?_
      refine w_ops ?_
      refine wo_step (v := v7) (s_pure (p_mv g7)) ?_
      refine wo_step (v := v0) (s_pure (p_mv g0)) ?_
      refine wo_step (v := v7) (s_pure (p_mv g7)) ?_
      refine wo_step (v := (.i .i64 x8)) (s_pure (p_mv g8)) ?_
      have hq := bindO_inv hr
      clear hr
      obtain ⟨v24, e24, hr⟩ := hq
      refine wo_step (v := v24) (s_pure (o_ixS rfl rfl e24)) ?_
      have hq := bindO_inv hr
      clear hr
      obtain ⟨v25, e25, hr⟩ := hq
      have hq := asI_inv hr
      clear hr
      obtain ⟨x25, rfl, hr⟩ := hq
      refine wo_step (v := (.i .u8 x25)) (s_ld rfl e25) ?_
      have hq := forceI_inv hr
      clear hr
      obtain ⟨x26, e26, hr⟩ := hq
      refine wo_step (v := (.i .u8 x26)) (s_pure (p_bin rfl rfl (b_sub.trans (ci e26)))) ?_
      have hq := forceI_inv hr
      clear hr
      obtain ⟨x27, e27, hr⟩ := hq
      refine wo_step (v := (.i .i64 x27)) (s_pure ((p_conv rfl).trans (ci e27))) ?_
      have hq := bindO_inv hr
      clear hr
      obtain ⟨v28, e28, hr⟩ := hq
      refine wo_step (v := v28) (s_pure (o_ixS rfl rfl e28)) ?_
      have hq := bindO_inv hr
      clear hr
      obtain ⟨v29, e29, hr⟩ := hq
      have hq := asS_inv hr
      clear hr
      obtain ⟨s29, rfl, hr⟩ := hq
      refine wo_step (v := (.s s29)) (s_ld rfl e29) ?_
      have hq := bindP_inv hr
      clear hr
      obtain ⟨v30, m_3, e30, hr⟩ := hq
      refine wo_step (v := v30) (s_app rfl rfl e30) ?_
      refine wo_step (v := v30) (s_pure (p_mv rfl)) ?_
      refine wo_nil ?_
      refine bk_norm ?_
      refine nx_norm ?_
      refine w_ops ?_
      refine wo_step (v := (.i .i64 x8)) (s_pure (p_mv g8)) ?_
      have hq := forceI_inv hr
      clear hr
      obtain ⟨x19, e19, hr⟩ := hq
      refine wo_step (v := (.i .i64 x19)) (s_pure (p_bin rfl rfl (b_add.trans (ci e19)))) ?_
      refine wo_step (v := (.i .i64 x19)) (s_pure (p_mv rfl)) ?_
      refine wo_nil ?_
      cases hr
      exact ⟨_, _, rfl, rfl, rfl, gl rfl, gl rfl, gl g0, gl g2⟩
    · refine w_condF rfl ?_
      refine w_exit ?_
      refine nx_exit ?_
      cases hr
      exact ⟨_, _, rfl, ne_norm_exit, rfl, rfl, gl g7, gl g2⟩
  · obtain ⟨v7_1, m_4⟩ := o
    rintro _ mm t_2 ⟨rfl, rfl, g7, g2⟩
    refine bk_hit ?_
    refine nx_norm ?_
    refine w_seq ?_
    refine w_ops ?_
    refine wo_step (v := v7_1) (s_pure (p_mv g7)) ?_
    refine wo_step (v := (.i .i64 x2)) (s_pure (p_mv g2)) ?_
    have hq := bindO_inv hr
    clear hr
    obtain ⟨v33, e33, hr⟩ := hq
    refine wo_step (v := v33) (s_pure (o_slS rfl on (os rfl) on e33)) ?_
    refine wo_step (v := v33) (s_pure (p_mv rfl)) ?_
    refine wo_nil ?_
    refine nx_norm ?_
    refine w_ret ?_
    exact qf ret_ok (rt rfl rn) hr

/- dibber/dibberref03.Letters -/
abbrev g85_I0 (v0 : AVal) (s1 : List UInt8) (m0 : Mm) (s : Int) (m1 : Mm) (t1 : Tr) : Prop :=
  match s with
  | x5 => m0 = m1 ∧ t1.get 5 = (.i .i64 x5) ∧ t1.get 0 = v0 ∧ t1.get 1 = (.s s1)
abbrev g85_J0 (v0 : AVal) (s1 : List UInt8) (m0 : Mm) (o : (Unit ⊕ Bool)) (e : AExit) (m1 : Mm) (t1 : Tr) : Prop :=
  match o with
  | (.inl _) => e = (.exit 0) ∧ m0 = m1
  | (.inr y4) => e = .ret ∧ m0 = m1 ∧ t1.get 4 = (.b y4)
abbrev g85_J1 (v0 : AVal) (s1 : List UInt8) (x5 : Int) (m0 : Mm) (o : Bool) (m1 : Mm) (t1 : Tr) : Prop :=
  match o with
  | c25 => m0 = m1 ∧ t1.get 25 = (.b c25) ∧ t1.get 0 = v0 ∧ t1.get 1 = (.s s1) ∧ t1.get 5 = (.i .i64 x5)
def g85_b0 (M : Means) (ro : List ABlk) (v0 : AVal) (s1 : List UInt8) (m0 : Mm) (x5 : Int) : Option ((Int) ⊕ ((Unit ⊕ Bool))) :=
  bindO (evP .e (.len true (.c (.s s1)))) fun v8 =>
  asI .i64 v8 fun x8 =>
  forceB (ltI x5 x8) fun c9 =>
  cond c9 (
    bindO (evP .e (.ixStr (.c (.s s1)) (.c (.i .i64 x5)))) fun v14 =>
    asI .u8 v14 fun x14 =>
    forceB (ltI x14 97) fun c15 =>
    bindO (cond c15 (
      some true) (
      bindO (evP .e (.ixStr (.c (.s s1)) (.c (.i .i64 x5)))) fun v19 =>
      asI .u8 v19 fun x19 =>
      forceI (wr .u8 (x19 - 97)) fun x20 =>
      forceI (wr .i64 x20) fun x21 =>
      bindO (evP .e (.len false (.c v0))) fun v23 =>
      asI .i64 v23 fun x23 =>
      forceB (!ltI x21 x23) fun c24 =>
      some c24)) fun c25 =>
    cond c25 (
      some (.inr (.inr false))) (
      forceI (wr .i64 (x5 + 1)) fun x11 =>
      some (.inl x11))) (
    some (.inr (.inl ())))
def g85 (M : Means) (ro : List ABlk) (v0 : AVal) (s1 : List UInt8) (m0 : Mm) : Option (AVal × Heap × Nat × Nat) :=
  bindO (M.loop (S := Int) (R := (Unit ⊕ Bool)) (fun s => g85_b0 M ro v0 s1 m0 s) 0) fun o_1 => match o_1 with
  | (.inl _) =>
    finM m0.h.length (tupA [(.b true)]) m0
  | (.inr c4) =>
    finM m0.h.length (tupA [(.b c4)]) m0

theorem g85_ok {ro : List ABlk} {O : Caller} {M : Means} (hM : M.Ok ⟨F, O⟩ ro) {v0 s1 h r} (ho : O 85 [v0, (.s s1)] h = none) (hr : g85 M ro v0 s1 ⟨h, h.length, h.length⟩ = some r) : callX ⟨F, O⟩ ro 85 [v0, (.s s1)] h = some r := by
  refine callX_of (F := ⟨F, O⟩) (fn := fn85) (g := g85 M ro v0 s1) ho rfl rfl hr ?_
  clear ho
  clear hr
  intro m0 t0 ht hr
  have g0 : t0.get 0 = v0 := ht 0
  have g1 : t0.get 1 = (.s s1) := ht 1
  clear ht
  unfold g85 at hr
  refine w_seq ?_
  refine w_ops ?_
  refine wo_step (v := (.b false)) (s_pure (p_mv rfl)) ?_
  refine wo_nil ?_
  refine nx_norm ?_
  refine w_seq ?_
  refine w_seq ?_
  refine w_ops ?_
  refine wo_step (v := (.i .i64 0)) (s_pure (p_mv rfl)) ?_
  refine wo_nil ?_
  refine nx_norm ?_
  refine w_block ?_
  have hq := bindO_inv hr
  clear hr
  obtain ⟨o_1, hl, hr⟩ := hq
  obtain ⟨n, hl⟩ := hM.loop _ _ _ hl
  refine jp_mono (w_loop _ (g85_I0 v0 s1 m0) (g85_J0 v0 s1 m0) ?_ n _ _ _ _ hl ⟨rfl, gl rfl, gl g0, gl g1⟩) ?_
  · clear hr hl
    intro s mm_3 t_1 o hi hr
    obtain ⟨x5, hs⟩ : ∃ z, z = s := ⟨_, rfl⟩
    subst hs
    obtain ⟨rfl, g5, g0, g1⟩ := hi
    unfold g85_b0 at hr
    refine w_seq ?_
    refine w_seq ?_
    refine w_ops ?_
    refine wo_step (v := (.i .i64 x5)) (s_pure (p_mv g5)) ?_
    refine wo_step (v := (.s s1)) (s_pure (p_mv g1)) ?_
    have hq := bindO_inv hr
    clear hr
    obtain ⟨v8, e8, hr⟩ := hq
    have hq := asI_inv hr
    clear hr
    obtain ⟨x8, rfl, hr⟩ := hq
    refine wo_step (v := (.i .i64 x8)) (s_pure (o_len rfl e8)) ?_
    have hq := forceB_inv hr
    clear hr
    obtain ⟨c9, e9, hr⟩ := hq
    refine wo_step (v := (.b c9)) (s_pure (p_bin rfl rfl (b_lss.trans (cb e9)))) ?_
    refine wo_nil ?_
    refine nx_norm ?_
    have hq := cond_inv hr
    clear hr
    rcases hq with ⟨rfl, hr⟩ | ⟨rfl, hr⟩
    · refine w_condT rfl ?_
      refine w_skip ?_
      refine nx_norm ?_
      refine w_seq ?_
      refine w_block ?_
      refine w_seq ?_
      refine w_ops ?_
      refine wo_step (v := (.s s1)) (s_pure (p_mv g1)) ?_
      refine wo_step (v := (.i .i64 x5)) (s_pure (p_mv g5)) ?_
      have hq := bindO_inv hr
      clear hr
      obtain ⟨v14, e14, hr⟩ := hq
      have hq := asI_inv hr
      clear hr
      obtain ⟨x14, rfl, hr⟩ := hq
      refine wo_step (v := (.i .u8 x14)) (s_pure (o_ixStr rfl rfl e14)) ?_
      have hq := forceB_inv hr
      clear hr
      obtain ⟨c15, e15, hr⟩ := hq
      refine wo_step (v := (.b c15)) (s_pure (p_bin rfl rfl (b_lss.trans (cb e15)))) ?_
      refine wo_step (v := (.b c15)) (s_pure (p_mv rfl)) ?_
      have hq := bindO_inv hr
      clear hr
      obtain ⟨o, hr, hk⟩ := hq
      refine wo_join 9 (g85_J1 v0 s1 x5 m0 o) ?_ ?_
      · clear hk
        have hq := cond_inv hr
        clear hr
        rcases hq with ⟨rfl, hr⟩ | ⟨rfl, hr⟩
        · refine wo_skip (v := (.b true)) rfl rfl ?_
          refine wo_skip (v := (.b true)) rfl rfl ?_
          refine wo_skip (v := (.b true)) rfl rfl ?_
          refine wo_skip (v := (.b true)) rfl rfl ?_
          refine wo_skip (v := (.b true)) rfl rfl ?_
          refine wo_skip (v := (.b true)) rfl rfl ?_
          refine wo_skip (v := (.b true)) rfl rfl ?_
          refine wo_skip (v := (.b true)) rfl rfl ?_
          refine wo_step (v := (.b true)) (s_pure (p_pickT rfl rfl)) ?_
          refine wo_nil ?_
          cases hr
          exact ⟨_, _, rfl, rfl, gl rfl, gl g0, gl g1, gl g5⟩
        · refine wo_take (v := (.s s1)) rfl (s_pure (p_mv g1)) ?_
          refine wo_take (v := (.i .i64 x5)) rfl (s_pure (p_mv g5)) ?_
          have hq := bindO_inv hr
          clear hr
          obtain ⟨v19, e19, hr⟩ := hq
          have hq := asI_inv hr
          clear hr
          obtain ⟨x19, rfl, hr⟩ := hq
          refine wo_take (v := (.i .u8 x19)) rfl (s_pure (o_ixStr rfl rfl e19)) ?_
          have hq := forceI_inv hr
          clear hr
          obtain ⟨x20, e20, hr⟩ := hq
          refine wo_take (v := (.i .u8 x20)) rfl (s_pure (p_bin rfl rfl (b_sub.trans (ci e20)))) ?_
          have hq := forceI_inv hr
          clear hr
          obtain ⟨x21, e21, hr⟩ := hq
          refine wo_take (v := (.i .i64 x21)) rfl (s_pure ((p_conv rfl).trans (ci e21))) ?_
          refine wo_take (v := v0) rfl (s_pure (p_mv g0)) ?_
          have hq := bindO_inv hr
          clear hr
          obtain ⟨v23, e23, hr⟩ := hq
          have hq := asI_inv hr
          clear hr
          obtain ⟨x23, rfl, hr⟩ := hq
          refine wo_take (v := (.i .i64 x23)) rfl (s_pure (o_len rfl e23)) ?_
          have hq := forceB_inv hr
          clear hr
          obtain ⟨c24, e24, hr⟩ := hq
          refine wo_take (v := (.b c24)) rfl (s_pure (p_bin rfl rfl (b_geq.trans (cb e24)))) ?_
          refine wo_step (v := (.b c24)) (s_pure (p_pickF rfl rfl)) ?_
          refine wo_nil ?_
          cases hr
          exact ⟨_, _, rfl, rfl, gl rfl, gl g0, gl g1, gl g5⟩
      · clear hr
        have hr := hk
        clear hk
        obtain ⟨c25, ho⟩ : ∃ z, z = o := ⟨_, rfl⟩
        subst ho
        rintro mm t_2 ⟨rfl, g25, g0, g1, g5⟩
        refine wo_nil ?_
        refine nx_norm ?_
        have hq := cond_inv hr
        clear hr
        rcases hq with ⟨rfl, hr⟩ | ⟨rfl, hr⟩
        · refine w_condT g25 ?_
          refine w_seq ?_
          refine w_ops ?_
          refine wo_step (v := (.b false)) (s_pure (p_mv rfl)) ?_
          refine wo_nil ?_
          refine nx_norm ?_
          refine w_ret ?_
          refine bk_ret ?_
          refine nx_ret ?_
          cases hr
          exact ⟨_, _, rfl, ne_norm_ret, rfl, rfl, gl rfl⟩
        · refine w_condF g25 ?_
          refine w_skip ?_
          refine bk_norm ?_
          refine nx_norm ?_
          refine w_ops ?_
          refine wo_step (v := (.i .i64 x5)) (s_pure (p_mv g5)) ?_
          have hq := forceI_inv hr
          clear hr
          obtain ⟨x11, e11, hr⟩ := hq
          refine wo_step (v := (.i .i64 x11)) (s_pure (p_bin rfl rfl (b_add.trans (ci e11)))) ?_
          refine wo_step (v := (.i .i64 x11)) (s_pure (p_mv rfl)) ?_
          refine wo_nil ?_
          cases hr
          exact ⟨_, _, rfl, rfl, rfl, gl rfl, gl g0, gl g1⟩
    · refine w_condF rfl ?_
      refine w_exit ?_
      refine nx_exit ?_
      cases hr
      exact ⟨_, _, rfl, ne_norm_exit, rfl, rfl⟩
  · rcases o_1 with o_1 | o_1
    · rintro _ mm_1 t_3 ⟨rfl, rfl⟩
      refine bk_hit ?_
      refine nx_norm ?_
      refine w_seq ?_
      refine w_ops ?_
      refine wo_step (v := (.b true)) (s_pure (p_mv rfl)) ?_
      refine wo_nil ?_
      refine nx_norm ?_
      refine w_ret ?_
      exact qf ret_ok (rt rfl rn) hr
    · obtain ⟨c4, ho⟩ : ∃ z, z = o_1 := ⟨_, rfl⟩
      subst ho
      rintro _ mm_2 t_4 ⟨rfl, rfl, g4⟩
      refine bk_ret ?_
      refine nx_ret ?_
      exact qf ret_ok (rt g4 rn) hr

/- (dibber/vine.many).plus -/

def g86 (M : Means) (ro : List ABlk) (x0 : Int) (x1 : Int) (m0 : Mm) : Option (AVal × Heap × Nat × Nat) :=
  forceI (wr .u64 (9223372036854775808 - x1)) fun x7 =>
  forceB (ltI x7 x0) fun c8 =>
  cond c8 (
    finM m0.h.length (tupA [(.i .u64 9223372036854775808)]) m0) (
    forceI (wr .u64 (x0 + x1)) fun x11 =>
    finM m0.h.length (tupA [(.i .u64 x11)]) m0)

theorem g86_ok {ro : List ABlk} {O : Caller} {M : Means} (hM : M.Ok ⟨F, O⟩ ro) {x0 x1 h r} (ho : O 86 [(.i .u64 x0), (.i .u64 x1)] h = none) (hr : g86 M ro x0 x1 ⟨h, h.length, h.length⟩ = some r) : callX ⟨F, O⟩ ro 86 [(.i .u64 x0), (.i .u64 x1)] h = some r := by
  refine callX_of (F := ⟨F, O⟩) (fn := fn86) (g := g86 M ro x0 x1) ho rfl rfl hr ?_
  clear ho
  clear hr
  intro m0 t0 ht hr
  have g0 : t0.get 0 = (.i .u64 x0) := ht 0
  have g1 : t0.get 1 = (.i .u64 x1) := ht 1
  clear ht
  unfold g86 at hr
  refine w_seq ?_
  refine w_ops ?_
  refine wo_step (v := (.i .u64 0)) (s_pure (p_mv rfl)) ?_
  refine wo_nil ?_
  refine nx_norm ?_
  refine w_seq ?_
  refine w_seq ?_
  refine w_ops ?_
  refine wo_step (v := (.i .u64 x0)) (s_pure (p_mv g0)) ?_
  refine wo_step (v := (.i .u64 x1)) (s_pure (p_mv g1)) ?_
  have hq := forceI_inv hr
  clear hr
  obtain ⟨x7, e7, hr⟩ := hq
  refine wo_step (v := (.i .u64 x7)) (s_pure (p_bin rfl rfl (b_sub.trans (ci e7)))) ?_
  have hq := forceB_inv hr
  clear hr
  obtain ⟨c8, e8, hr⟩ := hq
  refine wo_step (v := (.b c8)) (s_pure (p_bin rfl rfl (b_gtr.trans (cb e8)))) ?_
  refine wo_nil ?_
  refine nx_norm ?_
  have hq := cond_inv hr
  clear hr
  rcases hq with ⟨rfl, hr⟩ | ⟨rfl, hr⟩
  · refine w_condT rfl ?_
    refine w_seq ?_
    refine w_ops ?_
    refine wo_step (v := (.i .u64 9223372036854775808)) (s_pure (p_mv rfl)) ?_
    refine wo_nil ?_
    refine nx_norm ?_
    refine w_ret ?_
    refine nx_ret ?_
    exact qf ret_ok (rt rfl rn) hr
  · refine w_condF rfl ?_
    refine w_skip ?_
    refine nx_norm ?_
    refine w_seq ?_
    refine w_ops ?_
    refine wo_step (v := (.i .u64 x0)) (s_pure (p_mv g0)) ?_
    refine wo_step (v := (.i .u64 x1)) (s_pure (p_mv g1)) ?_
    have hq := forceI_inv hr
    clear hr
    obtain ⟨x11, e11, hr⟩ := hq
    refine wo_step (v := (.i .u64 x11)) (s_pure (p_bin rfl rfl (b_add.trans (ci e11)))) ?_
    refine wo_step (v := (.i .u64 x11)) (s_pure (p_mv rfl)) ?_
    refine wo_nil ?_
    refine nx_norm ?_
    refine w_ret ?_
    exact qf ret_ok (rt rfl rn) hr

/- dibber/dibberref03.plus -/

def g87 (M : Means) (ro : List ABlk) (x0 : Int) (x1 : Int) (m0 : Mm) : Option (AVal × Heap × Nat × Nat) :=
  forceI (wr .u64 (9223372036854775808 - x1)) fun x7 =>
  forceB (!ltI x0 x7) fun c8 =>
  cond c8 (
    finM m0.h.length (tupA [(.i .u64 9223372036854775808)]) m0) (
    forceI (wr .u64 (x0 + x1)) fun x11 =>
    finM m0.h.length (tupA [(.i .u64 x11)]) m0)

theorem g87_ok {ro : List ABlk} {O : Caller} {M : Means} (hM : M.Ok ⟨F, O⟩ ro) {x0 x1 h r} (ho : O 87 [(.i .u64 x0), (.i .u64 x1)] h = none) (hr : g87 M ro x0 x1 ⟨h, h.length, h.length⟩ = some r) : callX ⟨F, O⟩ ro 87 [(.i .u64 x0), (.i .u64 x1)] h = some r := by
  refine callX_of (F := ⟨F, O⟩) (fn := fn87) (g := g87 M ro x0 x1) ho rfl rfl hr ?_
  clear ho
  clear hr
  intro m0 t0 ht hr
  have g0 : t0.get 0 = (.i .u64 x0) := ht 0
  have g1 : t0.get 1 = (.i .u64 x1) := ht 1
  clear ht
  unfold g87 at hr
  refine w_seq ?_
  refine w_ops ?_
  refine wo_step (v := (.i .u64 0)) (s_pure (p_mv rfl)) ?_
  refine wo_nil ?_
  refine nx_norm ?_
  refine w_seq ?_
  refine w_seq ?_
  refine w_ops ?_
  refine wo_step (v := (.i .u64 x0)) (s_pure (p_mv g0)) ?_
  refine wo_step (v := (.i .u64 x1)) (s_pure (p_mv g1)) ?_
  have hq := forceI_inv hr
  clear hr
  obtain ⟨x7, e7, hr⟩ := hq
  refine wo_step (v := (.i .u64 x7)) (s_pure (p_bin rfl rfl (b_sub.trans (ci e7)))) ?_
  have hq := forceB_inv hr
  clear hr
  obtain ⟨c8, e8, hr⟩ := hq
  refine wo_step (v := (.b c8)) (s_pure (p_bin rfl rfl (b_geq.trans (cb e8)))) ?_
  refine wo_nil ?_
  refine nx_norm ?_
  have hq := cond_inv hr
  clear hr
  rcases hq with ⟨rfl, hr⟩ | ⟨rfl, hr⟩
  · refine w_condT rfl ?_
    refine w_seq ?_
    refine w_ops ?_
    refine wo_step (v := (.i .u64 9223372036854775808)) (s_pure (p_mv rfl)) ?_
    refine wo_nil ?_
    refine nx_norm ?_
    refine w_ret ?_
    refine nx_ret ?_
    exact qf ret_ok (rt rfl rn) hr
  · refine w_condF rfl ?_
    refine w_skip ?_
    refine nx_norm ?_
    refine w_seq ?_
    refine w_ops ?_
    refine wo_step (v := (.i .u64 x0)) (s_pure (p_mv g0)) ?_
    refine wo_step (v := (.i .u64 x1)) (s_pure (p_mv g1)) ?_
    have hq := forceI_inv hr
    clear hr
    obtain ⟨x11, e11, hr⟩ := hq
    refine wo_step (v := (.i .u64 x11)) (s_pure (p_bin rfl rfl (b_add.trans (ci e11)))) ?_
    refine wo_step (v := (.i .u64 x11)) (s_pure (p_mv rfl)) ?_
    refine wo_nil ?_
    refine nx_norm ?_
    refine w_ret ?_
    exact qf ret_ok (rt rfl rn) hr

/- strings.Count -/
abbrev g88_I0 (s1 : List UInt8) (s : List UInt8 × Int × Mm) (m1 : Mm) (t1 : Tr) : Prop :=
  match s with
  | (s0_1, x5, m_3) => m_3 = m1 ∧ t1.get 0 = (.s s0_1) ∧ t1.get 5 = (.i .i64 x5) ∧ t1.get 1 = (.s s1)
abbrev g88_J0 (s1 : List UInt8) (o : (Int × Mm)) (e : AExit) (m1 : Mm) (t1 : Tr) : Prop :=
  match o with
  | (y4, mo) => e = .ret ∧ mo = m1 ∧ t1.get 4 = (.i .i64 y4)
def g88_b0 (M : Means) (ro : List ABlk) (s1 : List UInt8) (s0_1 : List UInt8) (x5 : Int) (m_3 : Mm) : Option ((List UInt8 × Int × Mm) ⊕ ((Int × Mm))) :=
  bindP (callM M.call m_3 101 [(.s s0_1), (.s s1)]) fun v22 m_4 =>
  asI .i64 v22 fun x22 =>
  forceB (eqI x22 (-1)) fun c24 =>
  cond c24 (
    some (.inr (x5, m_4))) (
    forceI (wr .i64 (x5 + 1)) fun x27 =>
    bindO (evP .e (.len true (.c (.s s1)))) fun v31 =>
    asI .i64 v31 fun x31 =>
    forceI (wr .i64 (x22 + x31)) fun x32 =>
    bindO (evP .e (.slStr (.c (.s s0_1)) (some (.c (.i .i64 x32))) none)) fun v33 =>
    asS v33 fun s33 =>
    some (.inl (s33, x27, m_4)))
def g88 (M : Means) (ro : List ABlk) (s0 : List UInt8) (s1 : List UInt8) (m0 : Mm) : Option (AVal × Heap × Nat × Nat) :=
  bindO (evP .e (.len true (.c (.s s1)))) fun v8 =>
  asI .i64 v8 fun x8 =>
  forceB (eqI x8 0) fun c9 =>
  cond c9 (
    bindP (callM M.call m0 99 [(.s s0)]) fun v11 m_1 =>
    asI .i64 v11 fun x11 =>
    forceI (wr .i64 (x11 + 1)) fun x12 =>
    finM m0.h.length (tupA [(.i .i64 x12)]) m_1) (
    bindO (evP .e (.len true (.c (.s s1)))) fun v14 =>
    asI .i64 v14 fun x14 =>
    forceB (eqI x14 1) fun c15 =>
    cond c15 (
      bindO (evP .e (.ixStr (.c (.s s1)) (.c (.i .i64 0)))) fun v18 =>
      asI .u8 v18 fun x18 =>
      bindP (stepM ro m0 (.cnt (.c (.s s0)) (.c (.i .u8 x18)))) fun v19 m_2 =>
      asI .i64 v19 fun x19 =>
      finM m0.h.length (tupA [(.i .i64 x19)]) m_2) (
      bindO (M.loop (S := List UInt8 × Int × Mm) (R := (Int × Mm)) (fun s => g88_b0 M ro s1 s.1 s.2.1 s.2.2) (s0, 0, m0)) fun ⟨x4, m_5⟩ =>
      finM m0.h.length (tupA [(.i .i64 x4)]) m_5))

theorem g88_ok {ro : List ABlk} {O : Caller} {M : Means} (hM : M.Ok ⟨F, O⟩ ro) {s0 s1 h r} (ho : O 88 [(.s s0), (.s s1)] h = none) (hr : g88 M ro s0 s1 ⟨h, h.length, h.length⟩ = some r) : callX ⟨F, O⟩ ro 88 [(.s s0), (.s s1)] h = some r := by
  refine callX_of (F := ⟨F, O⟩) (fn := fn88) (g := g88 M ro s0 s1) ho rfl rfl hr ?_
  clear ho
  clear hr
  intro m0 t0 ht hr
  have g0 : t0.get 0 = (.s s0) := ht 0
  have g1 : t0.get 1 = (.s s1) := ht 1
  clear ht
  unfold g88 at hr
  refine w_seq ?_
  refine w_ops ?_
  refine wo_step (v := (.i .i64 0)) (s_pure (p_mv rfl)) ?_
  refine wo_nil ?_
  refine nx_norm ?_
  refine w_seq ?_
  refine w_seq ?_
  refine w_ops ?_
  refine wo_step (v := (.s s1)) (s_pure (p_mv g1)) ?_
  have hq := bindO_inv hr
  clear hr
  obtain ⟨v8, e8, hr⟩ := hq
  have hq := asI_inv hr
  clear hr
  obtain ⟨x8, rfl, hr⟩ := hq
  refine wo_step (v := (.i .i64 x8)) (s_pure (o_len rfl e8)) ?_
  have hq := forceB_inv hr
  clear hr
  obtain ⟨c9, e9, hr⟩ := hq
  refine wo_step (v := (.b c9)) (s_pure (p_bin rfl rfl (b_eql.trans (cb e9)))) ?_
  refine wo_nil ?_
  refine nx_norm ?_
  have hq := cond_inv hr
  clear hr
  rcases hq with ⟨rfl, hr⟩ | ⟨rfl, hr⟩
  · refine w_condT rfl ?_
    refine w_seq ?_
    refine w_ops ?_
    refine wo_step (v := (.s s0)) (s_pure (p_mv g0)) ?_
    have hq := bindP_inv hr
    clear hr
    obtain ⟨v11, m_1, e11, hr⟩ := hq
    have hq := asI_inv hr
    clear hr
    obtain ⟨x11, rfl, hr⟩ := hq
    refine wo_step (v := (.i .i64 x11)) (s_call (mc rfl mn) (callM_le hM.call e11)) ?_
    have hq := forceI_inv hr
    clear hr
    obtain ⟨x12, e12, hr⟩ := hq
    refine wo_step (v := (.i .i64 x12)) (s_pure (p_bin rfl rfl (b_add.trans (ci e12)))) ?_
    refine wo_step (v := (.i .i64 x12)) (s_pure (p_mv rfl)) ?_
    refine wo_nil ?_
    refine nx_norm ?_
    refine w_ret ?_
    refine nx_ret ?_
    exact qf ret_ok (rt rfl rn) hr
  · refine w_condF rfl ?_
    refine w_skip ?_
    refine nx_norm ?_
    refine w_seq ?_
    refine w_seq ?_
    refine w_ops ?_
    refine wo_step (v := (.s s1)) (s_pure (p_mv g1)) ?_
    have hq := bindO_inv hr
    clear hr
    obtain ⟨v14, e14, hr⟩ := hq
    have hq := asI_inv hr
    clear hr
    obtain ⟨x14, rfl, hr⟩ := hq
    refine wo_step (v := (.i .i64 x14)) (s_pure (o_len rfl e14)) ?_
    have hq := forceB_inv hr
    clear hr
    obtain ⟨c15, e15, hr⟩ := hq
    refine wo_step (v := (.b c15)) (s_pure (p_bin rfl rfl (b_eql.trans (cb e15)))) ?_
    refine wo_nil ?_
    refine nx_norm ?_
    have hq := cond_inv hr
    clear hr
    rcases hq with ⟨rfl, hr⟩ | ⟨rfl, hr⟩
    · refine w_condT rfl ?_
      refine w_seq ?_
      refine w_ops ?_
      refine wo_step (v := (.s s0)) (s_pure (p_mv g0)) ?_
      refine wo_step (v := (.s s1)) (s_pure (p_mv g1)) ?_
      have hq := bindO_inv hr
      clear hr
      obtain ⟨v18, e18, hr⟩ := hq
      have hq := asI_inv hr
      clear hr
      obtain ⟨x18, rfl, hr⟩ := hq
      refine wo_step (v := (.i .u8 x18)) (s_pure (o_ixStr rfl rfl e18)) ?_
      have hq := bindP_inv hr
      clear hr
      obtain ⟨v19, m_2, e19, hr⟩ := hq
      have hq := asI_inv hr
      clear hr
      obtain ⟨x19, rfl, hr⟩ := hq
      refine wo_step (v := (.i .i64 x19)) (s_cnt rfl rfl e19) ?_
      refine wo_step (v := (.i .i64 x19)) (s_pure (p_mv rfl)) ?_
      refine wo_nil ?_
      refine nx_norm ?_
      refine w_ret ?_
      refine nx_ret ?_
      exact qf ret_ok (rt rfl rn) hr
    · refine w_condF rfl ?_
      refine w_skip ?_
      refine nx_norm ?_
      refine w_seq ?_
      refine w_ops ?_
      refine wo_step (v := (.i .i64 0)) (s_pure (p_mv rfl)) ?_
      refine wo_nil ?_
      refine nx_norm ?_
      refine w_block ?_
      have hq := bindO_inv hr
      clear hr
      obtain ⟨o, hl, hr⟩ := hq
      obtain ⟨n, hl⟩ := hM.loop _ _ _ hl
      refine jp_mono (w_loop _ (g88_I0 s1) (g88_J0 s1) ?_ n _ _ _ _ hl ⟨rfl, gl g0, gl rfl, gl g1⟩) ?_
      · clear hr hl
        intro s mm_1 t_1 o hi hr
        obtain ⟨s0_1, x5, m_3⟩ := s
        obtain ⟨rfl, g0, g5, g1⟩ := hi
        unfold g88_b0 at hr
        refine w_block ?_
        refine w_seq ?_
        refine w_ops ?_
        refine wo_step (v := (.s s0_1)) (s_pure (p_mv g0)) ?_
        refine wo_step (v := (.s s1)) (s_pure (p_mv g1)) ?_
        have hq := bindP_inv hr
        clear hr
        obtain ⟨v22, m_4, e22, hr⟩ := hq
        have hq := asI_inv hr
        clear hr
        obtain ⟨x22, rfl, hr⟩ := hq
        refine wo_step (v := (.i .i64 x22)) (s_call (mc rfl (mc rfl mn)) (callM_le hM.call e22)) ?_
        refine wo_step (v := (.i .i64 x22)) (s_pure (p_mv rfl)) ?_
        refine wo_nil ?_
        refine nx_norm ?_
        refine w_seq ?_
        refine w_seq ?_
        refine w_ops ?_
        refine wo_step (v := (.i .i64 x22)) (s_pure (p_mv rfl)) ?_
        have hq := forceB_inv hr
        clear hr
        obtain ⟨c24, e24, hr⟩ := hq
        refine wo_step (v := (.b c24)) (s_pure (p_bin rfl rfl (b_eql.trans (cb e24)))) ?_
        refine wo_nil ?_
        refine nx_norm ?_
        have hq := cond_inv hr
        clear hr
        rcases hq with ⟨rfl, hr⟩ | ⟨rfl, hr⟩
        · refine w_condT rfl ?_
          refine w_seq ?_
          refine w_ops ?_
          refine wo_step (v := (.i .i64 x5)) (s_pure (p_mv g5)) ?_
          refine wo_step (v := (.i .i64 x5)) (s_pure (p_mv rfl)) ?_
          refine wo_nil ?_
          refine nx_norm ?_
          refine w_ret ?_
          refine nx_ret ?_
          refine bk_ret ?_
          cases hr
          exact ⟨_, _, rfl, ne_norm_ret, rfl, rfl, gl rfl⟩
        · refine w_condF rfl ?_
          refine w_skip ?_
          refine nx_norm ?_
          refine w_seq ?_
          refine w_ops ?_
          refine wo_step (v := (.i .i64 x5)) (s_pure (p_mv g5)) ?_
          have hq := forceI_inv hr
          clear hr
          obtain ⟨x27, e27, hr⟩ := hq
          refine wo_step (v := (.i .i64 x27)) (s_pure (p_bin rfl rfl (b_add.trans (ci e27)))) ?_
          refine wo_step (v := (.i .i64 x27)) (s_pure (p_mv rfl)) ?_
          refine wo_nil ?_
          refine nx_norm ?_
          refine w_ops ?_
          refine wo_step (v := (.s s0_1)) (s_pure (p_mv g0)) ?_
          refine wo_step (v := (.i .i64 x22)) (s_pure (p_mv rfl)) ?_
          refine wo_step (v := (.s s1)) (s_pure (p_mv g1)) ?_
          have hq := bindO_inv hr
          clear hr
          obtain ⟨v31, e31, hr⟩ := hq
          have hq := asI_inv hr
          clear hr
          obtain ⟨x31, rfl, hr⟩ := hq
          refine wo_step (v := (.i .i64 x31)) (s_pure (o_len rfl e31)) ?_
          have hq := forceI_inv hr
          clear hr
          obtain ⟨x32, e32, hr⟩ := hq
          refine wo_step (v := (.i .i64 x32)) (s_pure (p_bin rfl rfl (b_add.trans (ci e32)))) ?_
          have hq := bindO_inv hr
          clear hr
          obtain ⟨v33, e33, hr⟩ := hq
          have hq := asS_inv hr
          clear hr
          obtain ⟨s33, rfl, hr⟩ := hq
          refine wo_step (v := (.s s33)) (s_pure (o_slStr rfl (os rfl) on e33)) ?_
          refine wo_step (v := (.s s33)) (s_pure (p_mv rfl)) ?_
          refine wo_nil ?_
          refine bk_norm ?_
          cases hr
          exact ⟨_, _, rfl, rfl, rfl, gl rfl, gl rfl, gl g1⟩
      · obtain ⟨x4, m_5⟩ := o
        rintro _ mm t_2 ⟨rfl, rfl, g4⟩
        refine bk_ret ?_
        exact qf ret_ok (rt g4 rn) hr

/- dibber/vine.letter -/

def g89 (M : Means) (ro : List ABlk) (x0 : Int) (m0 : Mm) : Option (AVal × Heap × Nat × Nat) :=
  forceI (wr .u8 x0) fun x4 =>
  forceI (wr .u8 (97 + x4)) fun x5 =>
  bindP (stepM ro m0 (.bsl 5 1 [(AVal.i IntKind.u8 0)] 1 [((0, 1), .c (.i .u8 x5))])) fun v6 m_1 =>
  bindO (btsM ro m_1 v6) fun v7 =>
  asS v7 fun s7 =>
  finM m0.h.length (tupA [(.s s7)]) m_1

theorem g89_ok {ro : List ABlk} {O : Caller} {M : Means} (hM : M.Ok ⟨F, O⟩ ro) {x0 h r} (ho : O 89 [(.i .i64 x0)] h = none) (hr : g89 M ro x0 ⟨h, h.length, h.length⟩ = some r) : callX ⟨F, O⟩ ro 89 [(.i .i64 x0)] h = some r := by
  refine callX_of (F := ⟨F, O⟩) (fn := fn89) (g := g89 M ro x0) ho rfl rfl hr ?_
  clear ho
  clear hr
  intro m0 t0 ht hr
  have g0 : t0.get 0 = (.i .i64 x0) := ht 0
  clear ht
  unfold g89 at hr
  refine w_seq ?_
  refine w_ops ?_
  refine wo_step (v := (AVal.s [])) (s_pure (p_mv rfl)) ?_
  refine wo_nil ?_
  refine nx_norm ?_
  refine w_seq ?_
  refine w_ops ?_
  refine wo_step (v := (.i .i64 x0)) (s_pure (p_mv g0)) ?_
  have hq := forceI_inv hr
  clear hr
  obtain ⟨x4, e4, hr⟩ := hq
  refine wo_step (v := (.i .u8 x4)) (s_pure ((p_conv rfl).trans (ci e4))) ?_
  have hq := forceI_inv hr
  clear hr
  obtain ⟨x5, e5, hr⟩ := hq
  refine wo_step (v := (.i .u8 x5)) (s_pure (p_bin rfl rfl (b_add.trans (ci e5)))) ?_
  have hq := bindP_inv hr
  clear hr
  obtain ⟨v6, m_1, e6, hr⟩ := hq
  refine wo_step (v := v6) (s_bsl (qc rfl qn) e6) ?_
  have hq := bindO_inv hr
  clear hr
  obtain ⟨v7, e7, hr⟩ := hq
  have hq := asS_inv hr
  clear hr
  obtain ⟨s7, rfl, hr⟩ := hq
  refine wo_step (v := (.s s7)) (s_bts rfl e7) ?_
  refine wo_step (v := (.s s7)) (s_pure (p_mv rfl)) ?_
  refine wo_nil ?_
  refine nx_norm ?_
  refine w_ret ?_
  exact qf ret_ok (rt rfl rn) hr

/- (dibber/vine.rules).has -/
abbrev g92_I0 (v0 : AVal) (s1 : List UInt8) (x8 : Int) (s : Int × Mm) (m1 : Mm) (t1 : Tr) : Prop :=
  match s with
  | (x9, m_1) => m_1 = m1 ∧ t1.get 9 = (.i .i64 x9) ∧ t1.get 0 = v0 ∧ t1.get 1 = (.s s1) ∧ t1.get 8 = (.i .i64 x8)
abbrev g92_J0 (v0 : AVal) (s1 : List UInt8) (x8 : Int) (o : (Mm ⊕ (Bool × Mm))) (e : AExit) (m1 : Mm) (t1 : Tr) : Prop :=
  match o with
  | (.inl mo) => e = (.exit 0) ∧ mo = m1
  | (.inr (y4, mo)) => e = .ret ∧ mo = m1 ∧ t1.get 4 = (.b y4)
abbrev g92_J1 (v0 : AVal) (s1 : List UInt8) (x8 : Int) (x9 : Int) (m_2 : Mm) (o : Bool) (m1 : Mm) (t1 : Tr) : Prop :=
  match o with
  | c23 => m_2 = m1 ∧ t1.get 23 = (.b c23) ∧ t1.get 0 = v0 ∧ t1.get 1 = (.s s1) ∧ t1.get 8 = (.i .i64 x8) ∧ t1.get 9 = (.i .i64 x9)
def g92_b0 (M : Means) (ro : List ABlk) (v0 : AVal) (s1 : List UInt8) (x8 : Int) (x9 : Int) (m_1 : Mm) : Option ((Int × Mm) ⊕ ((Mm ⊕ (Bool × Mm)))) :=
  forceB (ltI x9 x8) fun c10 =>
  cond c10 (
    bindO (evP .e (.ixStr (.c (.s s1)) (.c (.i .i64 x9)))) fun v14 =>
    asI .u8 v14 fun x14 =>
    bindP (callM M.call m_1 54 [(.i .u8 x14)]) fun v15 m_2 =>
    asI .i64 v15 fun x15 =>
    forceB (ltI x15 0) fun c17 =>
    bindO (cond c17 (
      some true) (
      bindO (evP .e (.len false (.c v0))) fun v21 =>
      asI .i64 v21 fun x21 =>
      forceB (!ltI x15 x21) fun c22 =>
      some c22)) fun c23 =>
    cond c23 (
      some (.inr (.inr (false, m_2)))) (
      forceI (wr .i64 (x9 + 1)) fun x24 =>
      some (.inl (x24, m_2)))) (
    some (.inr (.inl m_1)))
def g92 (M : Means) (ro : List ABlk) (v0 : AVal) (s1 : List UInt8) (m0 : Mm) : Option (AVal × Heap × Nat × Nat) :=
  bindO (evP .e (.len true (.c (.s s1)))) fun v8 =>
  asI .i64 v8 fun x8 =>
  bindO (M.loop (S := Int × Mm) (R := (Mm ⊕ (Bool × Mm))) (fun s => g92_b0 M ro v0 s1 x8 s.1 s.2) (0, m0)) fun o_1 => match o_1 with
  | (.inl m_3) =>
    finM m0.h.length (tupA [(.b true)]) m_3
  | (.inr (c4, m_4)) =>
    finM m0.h.length (tupA [(.b c4)]) m_4

theorem g92_ok {ro : List ABlk} {O : Caller} {M : Means} (hM : M.Ok ⟨F, O⟩ ro) {v0 s1 h r} (ho : O 92 [v0, (.s s1)] h = none) (hr : g92 M ro v0 s1 ⟨h, h.length, h.length⟩ = some r) : callX ⟨F, O⟩ ro 92 [v0, (.s s1)] h = some r := by
  refine callX_of (F := ⟨F, O⟩) (fn := fn92) (g := g92 M ro v0 s1) ho rfl rfl hr ?_
  clear ho
  clear hr
  intro m0 t0 ht hr
  have g0 : t0.get 0 = v0 := ht 0
  have g1 : t0.get 1 = (.s s1) := ht 1
  clear ht
  unfold g92 at hr
  refine w_seq ?_
  refine w_ops ?_
  refine wo_step (v := (.b false)) (s_pure (p_mv rfl)) ?_
  refine wo_nil ?_
  refine nx_norm ?_
  refine w_seq ?_
  refine w_seq ?_
  refine w_ops ?_
  refine wo_step (v := (.s s1)) (s_pure (p_mv g1)) ?_
  have hq := bindO_inv hr
  clear hr
  obtain ⟨v8, e8, hr⟩ := hq
  have hq := asI_inv hr
  clear hr
  obtain ⟨x8, rfl, hr⟩ := hq
  refine wo_step (v := (.i .i64 x8)) (s_pure (o_len rfl e8)) ?_
  refine wo_step (v := (.i .i64 0)) (s_pure (p_mv rfl)) ?_
  refine wo_nil ?_
  refine nx_norm ?_
  refine w_block ?_
  have hq := bindO_inv hr
  clear hr
  obtain ⟨o_1, hl, hr⟩ := hq
  obtain ⟨n, hl⟩ := hM.loop _ _ _ hl
  refine jp_mono (w_loop _ (g92_I0 v0 s1 x8) (g92_J0 v0 s1 x8) ?_ n _ _ _ _ hl ⟨rfl, gl rfl, gl g0, gl g1, gl rfl⟩) ?_
  · clear hr hl
    intro s mm_3 t_1 o hi hr
    obtain ⟨x9, m_1⟩ := s
    obtain ⟨rfl, g9, g0, g1, g8⟩ := hi
    unfold g92_b0 at hr
    refine w_seq ?_
    refine w_ops ?_
    have hq := forceB_inv hr
    clear hr
    obtain ⟨c10, e10, hr⟩ := hq
    refine wo_step (v := (.b c10)) (s_pure (p_bin g9 g8 (b_lss.trans (cb e10)))) ?_
    refine wo_nil ?_
    refine nx_norm ?_
    refine w_seq ?_
    have hq := cond_inv hr
    clear hr
    rcases hq with ⟨rfl, hr⟩ | ⟨rfl, hr⟩
    · refine w_condT rfl ?_
      refine w_skip ?_
      refine nx_norm ?_
      refine w_seq ?_
      refine w_block ?_
      refine w_seq ?_
      refine w_ops ?_
      refine wo_step (v := (.i .i64 x9)) (s_pure (p_mv g9)) ?_
      refine wo_step (v := (.i .i64 x9)) (s_pure (p_mv rfl)) ?_
      refine wo_nil ?_
      refine nx_norm ?_
      refine w_seq ?_
      refine w_ops ?_
      refine wo_step (v := (.s s1)) (s_pure (p_mv g1)) ?_
      refine wo_step (v := (.i .i64 x9)) (s_pure (p_mv rfl)) ?_
      have hq := bindO_inv hr
      clear hr
      obtain ⟨v14, e14, hr⟩ := hq
      have hq := asI_inv hr
      clear hr
      obtain ⟨x14, rfl, hr⟩ := hq
      refine wo_step (v := (.i .u8 x14)) (s_pure (o_ixStr rfl rfl e14)) ?_
      have hq := bindP_inv hr
      clear hr
      obtain ⟨v15, m_2, e15, hr⟩ := hq
      have hq := asI_inv hr
      clear hr
      obtain ⟨x15, rfl, hr⟩ := hq
      refine wo_step (v := (.i .i64 x15)) (s_call (mc rfl mn) (callM_le hM.call e15)) ?_
      refine wo_step (v := (.i .i64 x15)) (s_pure (p_mv rfl)) ?_
      refine wo_nil ?_
      refine nx_norm ?_
      refine w_seq ?_
      refine w_ops ?_
      refine wo_step (v := (.i .i64 x15)) (s_pure (p_mv rfl)) ?_
      have hq := forceB_inv hr
      clear hr
      obtain ⟨c17, e17, hr⟩ := hq
      refine wo_step (v := (.b c17)) (s_pure (p_bin rfl rfl (b_lss.trans (cb e17)))) ?_
      refine wo_step (v := (.b c17)) (s_pure (p_mv rfl)) ?_
      have hq := bindO_inv hr
      clear hr
      obtain ⟨o, hr, hk⟩ := hq
      refine wo_join 5 (g92_J1 v0 s1 x8 x9 m_2 o) ?_ ?_
      · clear hk
        have hq := cond_inv hr
        clear hr
        rcases hq with ⟨rfl, hr⟩ | ⟨rfl, hr⟩
        · refine wo_skip (v := (.b true)) rfl rfl ?_
          refine wo_skip (v := (.b true)) rfl rfl ?_
          refine wo_skip (v := (.b true)) rfl rfl ?_
          refine wo_skip (v := (.b true)) rfl rfl ?_
          refine wo_step (v := (.b true)) (s_pure (p_pickT rfl rfl)) ?_
          refine wo_nil ?_
          cases hr
          exact ⟨_, _, rfl, rfl, gl rfl, gl g0, gl g1, gl g8, gl g9⟩
        · refine wo_take (v := (.i .i64 x15)) rfl (s_pure (p_mv rfl)) ?_
          refine wo_take (v := v0) rfl (s_pure (p_mv g0)) ?_
          have hq := bindO_inv hr
          clear hr
          obtain ⟨v21, e21, hr⟩ := hq
          have hq := asI_inv hr
          clear hr
          obtain ⟨x21, rfl, hr⟩ := hq
          refine wo_take (v := (.i .i64 x21)) rfl (s_pure (o_len rfl e21)) ?_
          have hq := forceB_inv hr
          clear hr
          obtain ⟨c22, e22, hr⟩ := hq
          refine wo_take (v := (.b c22)) rfl (s_pure (p_bin rfl rfl (b_geq.trans (cb e22)))) ?_
          refine wo_step (v := (.b c22)) (s_pure (p_pickF rfl rfl)) ?_
          refine wo_nil ?_
          cases hr
          exact ⟨_, _, rfl, rfl, gl rfl, gl g0, gl g1, gl g8, gl g9⟩
      · clear hr
        have hr := hk
        clear hk
        obtain ⟨c23, ho⟩ : ∃ z, z = o := ⟨_, rfl⟩
        subst ho
        rintro mm t_2 ⟨rfl, g23, g0, g1, g8, g9⟩
        refine wo_nil ?_
        refine nx_norm ?_
        have hq := cond_inv hr
        clear hr
        rcases hq with ⟨rfl, hr⟩ | ⟨rfl, hr⟩
        · refine w_condT g23 ?_
          refine w_seq ?_
          refine w_ops ?_
          refine wo_step (v := (.b false)) (s_pure (p_mv rfl)) ?_
          refine wo_nil ?_
          refine nx_norm ?_
          refine w_ret ?_
          refine bk_ret ?_
          refine nx_ret ?_
          cases hr
          exact ⟨_, _, rfl, ne_norm_ret, rfl, rfl, gl rfl⟩
        · refine w_condF g23 ?_
          refine w_skip ?_
          refine bk_norm ?_
          refine nx_norm ?_
          refine w_ops ?_
          have hq := forceI_inv hr
          clear hr
          obtain ⟨x24, e24, hr⟩ := hq
          refine wo_step (v := (.i .i64 x24)) (s_pure (p_bin g9 rfl (b_add.trans (ci e24)))) ?_
          refine wo_step (v := (.i .i64 x24)) (s_pure (p_mv rfl)) ?_
          refine wo_nil ?_
          cases hr
          exact ⟨_, _, rfl, rfl, rfl, gl rfl, gl g0, gl g1, gl g8⟩
    · refine w_condF rfl ?_
      refine w_exit ?_
      refine nx_exit ?_
      cases hr
      exact ⟨_, _, rfl, ne_norm_exit, rfl, rfl⟩
  · rcases o_1 with o_1 | o_1
    · obtain ⟨m_3, ho⟩ : ∃ z, z = o_1 := ⟨_, rfl⟩
      subst ho
      rintro _ mm_1 t_3 ⟨rfl, rfl⟩
      refine bk_hit ?_
      refine nx_norm ?_
      refine w_seq ?_
      refine w_ops ?_
      refine wo_step (v := (.b true)) (s_pure (p_mv rfl)) ?_
      refine wo_nil ?_
      refine nx_norm ?_
      refine w_ret ?_
      exact qf ret_ok (rt rfl rn) hr
    · obtain ⟨c4, m_4⟩ := o_1
      rintro _ mm_2 t_4 ⟨rfl, rfl, g4⟩
      refine bk_ret ?_
      refine nx_ret ?_
      exact qf ret_ok (rt g4 rn) hr

end Go.Proofs.Ytfohppnelbbepaa.T

/- Plain functions, and that the small machine answers as they do. -/
import Derived.Test.YthdglempcfknhaaVmP
import Derived.Test.YthdglempcfknhaaVmAE
open Go.Vm
set_option linter.unusedVariables false
namespace Go.Proofs.Ythdglempcfknhaa.T
open Go
/- slices.insertionSortCmpFunc[int] -/
abbrev g113_I0 (v0 : AVal) (x1 : Int) (x2 : Int) (v3 : AVal) (s : Int × Mm) (m1 : Mm) (t1 : Tr) : Prop :=
  match s with
  | (x8, m_1) => m_1 = m1 ∧ t1.get 8 = (.i .i64 x8) ∧ t1.get 0 = v0 ∧ t1.get 1 = (.i .i64 x1) ∧ t1.get 2 = (.i .i64 x2) ∧ t1.get 3 = v3
abbrev g113_J0 (v0 : AVal) (x1 : Int) (x2 : Int) (v3 : AVal) (o : Mm) (e : AExit) (m1 : Mm) (t1 : Tr) : Prop :=
  match o with
  | mo => e = (.exit 0) ∧ mo = m1
abbrev g113_I1 (v0 : AVal) (x1 : Int) (x2 : Int) (v3 : AVal) (x8 : Int) (s : Int × Mm) (m1 : Mm) (t1 : Tr) : Prop :=
  match s with
  | (x9, m_2) => m_2 = m1 ∧ t1.get 9 = (.i .i64 x9) ∧ t1.get 0 = v0 ∧ t1.get 1 = (.i .i64 x1) ∧ t1.get 2 = (.i .i64 x2) ∧ t1.get 3 = v3 ∧ t1.get 8 = (.i .i64 x8)
abbrev g113_J1 (v0 : AVal) (x1 : Int) (x2 : Int) (v3 : AVal) (x8 : Int) (o : Mm) (e : AExit) (m1 : Mm) (t1 : Tr) : Prop :=
  match o with
  | mo => e = (.exit 2) ∧ mo = m1 ∧ t1.get 0 = v0 ∧ t1.get 1 = (.i .i64 x1) ∧ t1.get 2 = (.i .i64 x2) ∧ t1.get 3 = v3 ∧ t1.get 8 = (.i .i64 x8)
abbrev g113_J2 (v0 : AVal) (x1 : Int) (x2 : Int) (v3 : AVal) (x8 : Int) (x9 : Int) (o : Bool × Mm) (m1 : Mm) (t1 : Tr) : Prop :=
  match o with
  | (c34, m_4) => m_4 = m1 ∧ t1.get 34 = (.b c34) ∧ t1.get 0 = v0 ∧ t1.get 1 = (.i .i64 x1) ∧ t1.get 2 = (.i .i64 x2) ∧ t1.get 3 = v3 ∧ t1.get 8 = (.i .i64 x8) ∧ t1.get 9 = (.i .i64 x9)
def g113_b1 (M : Means) (ro : List ABlk) (v0 : AVal) (x1 : Int) (x2 : Int) (v3 : AVal) (x8 : Int) (x9 : Int) (m_2 : Mm) : Option ((Int × Mm) ⊕ (Mm)) :=
  bindO (some (Mm.base m_2)) fun m_3 =>
  forceB (ltI x1 x9) fun c20 =>
  bindO (cond c20 (
    bindO (evP .e (.ixS 1 (.c v0) (.c (.i .i64 x9)))) fun v25 =>
    bindO (ldM ro m_3 true 1 v25) fun v26 =>
    asI .i64 v26 fun x26 =>
    forceI (wr .i64 (x9 - 1)) fun x29 =>
    bindO (evP .e (.ixS 1 (.c v0) (.c (.i .i64 x29)))) fun v30 =>
    bindO (ldM ro m_3 true 1 v30) fun v31 =>
    asI .i64 v31 fun x31 =>
    bindP (callvM M.call m_3 v3 [(.i .i64 x26), (.i .i64 x31)]) fun v32 m_5 =>
    asI .i64 v32 fun x32 =>
    forceB (ltI x32 0) fun c33 =>
    some (c33, m_5)) (
    some (false, m_3))) fun ⟨c34, m_4⟩ =>
  bindO (some (Mm.join m_2 m_4)) fun m_6 =>
  cond c34 (
    forceI (wr .i64 (x9 - 1)) fun x41 =>
    forceI (wr .i64 (x9 - 1)) fun x44 =>
    bindO (evP .e (.ixS 1 (.c v0) (.c (.i .i64 x44)))) fun v45 =>
    bindO (ldA ro m_6.h true 1 v45) fun v46 =>
    asI .i64 v46 fun x46 =>
    bindO (evP .e (.ixS 1 (.c v0) (.c (.i .i64 x9)))) fun v49 =>
    bindO (ldA ro m_6.h true 1 v49) fun v50 =>
    asI .i64 v50 fun x50 =>
    bindO (evP .e (.ixS 1 (.c v0) (.c (.i .i64 x9)))) fun v51 =>
    asP v51 fun qs =>
    bindO (evP .e (.ixS 1 (.c v0) (.c (.i .i64 x41)))) fun v52 =>
    asP v52 fun qs_1 =>
    bindO (writesM ro [] [(qs, AVal.cells (.i .i64 x46)), (qs_1, AVal.cells (.i .i64 x50))] ⟨m_6.h, m_6.lw, m_6.lp⟩) fun m_7 =>
    forceI (wr .i64 (x9 - 1)) fun x36 =>
    some (.inl (x36, m_7))) (
    some (.inr m_6))
def g113_b0 (M : Means) (ro : List ABlk) (v0 : AVal) (x1 : Int) (x2 : Int) (v3 : AVal) (x8 : Int) (m_1 : Mm) : Option ((Int × Mm) ⊕ (Mm)) :=
  forceB (ltI x8 x2) fun c14 =>
  cond c14 (
    bindO (M.loop (S := Int × Mm) (R := Mm) (fun s => g113_b1 M ro v0 x1 x2 v3 x8 s.1 s.2) (x8, m_1)) fun m_8 =>
    forceI (wr .i64 (x8 + 1)) fun x16 =>
    some (.inl (x16, m_8))) (
    some (.inr m_1))
def g113 (M : Means) (ro : List ABlk) (v0 : AVal) (x1 : Int) (x2 : Int) (v3 : AVal) (m0 : Mm) : Option (AVal × Heap × Nat × Nat) :=
  forceI (wr .i64 (x1 + 1)) fun x11 =>
  bindO (M.loop (S := Int × Mm) (R := Mm) (fun s => g113_b0 M ro v0 x1 x2 v3 s.1 s.2) (x11, m0)) fun m_9 =>
  finM m0.h.length (tupA []) m_9

theorem g113_ok {ro : List ABlk} {O : Caller} {M : Means} (hM : M.Ok ⟨F, O⟩ ro) {v0 x1 x2 v3 h r} (ho : O 113 [v0, (.i .i64 x1), (.i .i64 x2), v3] h = none) (hr : g113 M ro v0 x1 x2 v3 ⟨h, h.length, h.length⟩ = some r) : callX ⟨F, O⟩ ro 113 [v0, (.i .i64 x1), (.i .i64 x2), v3] h = some r := by
  refine callX_of (F := ⟨F, O⟩) (fn := fn113) (g := g113 M ro v0 x1 x2 v3) ho rfl rfl hr ?_
  clear ho
  clear hr
  intro m0 t0 ht hr
  have g0 : t0.get 0 = v0 := ht 0
  have g1 : t0.get 1 = (.i .i64 x1) := ht 1
  have g2 : t0.get 2 = (.i .i64 x2) := ht 2
  have g3 : t0.get 3 = v3 := ht 3
  clear ht
  unfold g113 at hr
  refine w_seq ?_
  refine w_ops ?_
  refine wo_step (v := (.i .i64 x1)) (s_pure (p_mv g1)) ?_
  have hq := forceI_inv hr
  clear hr
  obtain ⟨x11, e11, hr⟩ := hq
  refine wo_step (v := (.i .i64 x11)) (s_pure (p_bin rfl rfl (b_add.trans (ci e11)))) ?_
  refine wo_step (v := (.i .i64 x11)) (s_pure (p_mv rfl)) ?_
  refine wo_nil ?_
  refine nx_norm ?_
  refine w_block ?_
  have hq := bindO_inv hr
  clear hr
  obtain ⟨o_2, hl_1, hr⟩ := hq
  obtain ⟨n_1, hl_1⟩ := hM.loop _ _ _ hl_1
  refine jp_mono (w_loop _ (g113_I0 v0 x1 x2 v3) (g113_J0 v0 x1 x2 v3) ?_ n_1 _ _ _ _ hl_1 ⟨rfl, gl rfl, gl g0, gl g1, gl g2, gl g3⟩) ?_
  · clear hr hl_1
    intro s mm_4 t_1 o hi hr
    obtain ⟨x8, m_1⟩ := s
    obtain ⟨rfl, g8, g0, g1, g2, g3⟩ := hi
    unfold g113_b0 at hr
    refine w_seq ?_
    refine w_seq ?_
    refine w_ops ?_
    refine wo_step (v := (.i .i64 x8)) (s_pure (p_mv g8)) ?_
    refine wo_step (v := (.i .i64 x2)) (s_pure (p_mv g2)) ?_
    have hq := forceB_inv hr
    clear hr
    obtain ⟨c14, e14, hr⟩ := hq
    refine wo_step (v := (.b c14)) (s_pure (p_bin rfl rfl (b_lss.trans (cb e14)))) ?_
    refine wo_nil ?_
    refine nx_norm ?_
    have hq := cond_inv hr
    clear hr
    rcases hq with ⟨rfl, hr⟩ | ⟨rfl, hr⟩
    · refine w_condT rfl ?_
      refine w_skip ?_
      refine nx_norm ?_
      refine w_seq ?_
      refine w_block ?_
      refine w_seq ?_
      refine w_ops ?_
      refine wo_step (v := (.i .i64 x8)) (s_pure (p_mv g8)) ?_
      refine wo_step (v := (.i .i64 x8)) (s_pure (p_mv rfl)) ?_
      refine wo_nil ?_
      refine nx_norm ?_
      refine w_block ?_
      have hq := bindO_inv hr
      clear hr
      obtain ⟨o_1, hl, hr⟩ := hq
      obtain ⟨n, hl⟩ := hM.loop _ _ _ hl
      refine jp_mono (w_loop _ (g113_I1 v0 x1 x2 v3 x8) (g113_J1 v0 x1 x2 v3 x8) ?_ n _ _ _ _ hl ⟨rfl, gl rfl, gl g0, gl g1, gl g2, gl g3, gl g8⟩) ?_
      · clear hr hl
        intro s mm_2 t_2 o hi hr
        obtain ⟨x9, m_2⟩ := s
        obtain ⟨rfl, g9, g0, g1, g2, g3, g8⟩ := hi
        unfold g113_b1 at hr
        refine w_seq ?_
        refine w_seq ?_
        have hq := bindO_inv hr
        clear hr
        obtain ⟨m_3, ef, hr⟩ := hq
        refine w_flt (af := false) rfl ef ?_
        refine wf_step (v := (.i .i64 x9)) (f_P rfl (s_pure (p_mv g9))) ?_
        refine wf_step (v := (.i .i64 x1)) (f_P rfl (s_pure (p_mv g1))) ?_
        have hq := forceB_inv hr
        clear hr
        obtain ⟨c20, e20, hr⟩ := hq
        refine wf_step (v := (.b c20)) (f_P rfl (s_pure (p_bin rfl rfl (b_gtr.trans (cb e20))))) ?_
        refine wf_step (v := (.b c20)) (f_P rfl (s_pure (p_mv rfl))) ?_
        have hq := bindO_inv hr
        clear hr
        obtain ⟨o, hr, hk⟩ := hq
        refine wf_join 13 (g113_J2 v0 x1 x2 v3 x8 x9 o) ?_ ?_
        · clear hk
          have hq := cond_inv hr
          clear hr
          rcases hq with ⟨rfl, hr⟩ | ⟨rfl, hr⟩
          · refine wf_take (v := v3) rfl (f_P rfl (s_pure (p_mv g3))) ?_
            refine wf_take (v := v0) rfl (f_P rfl (s_pure (p_mv g0))) ?_
            refine wf_take (v := (.i .i64 x9)) rfl (f_P rfl (s_pure (p_mv g9))) ?_
            have hq := bindO_inv hr
            clear hr
            obtain ⟨v25, e25, hr⟩ := hq
            refine wf_take (v := v25) rfl (f_P rfl (s_pure (o_ixS rfl rfl e25))) ?_
            have hq := bindO_inv hr
            clear hr
            obtain ⟨v26, e26, hr⟩ := hq
            have hq := asI_inv hr
            clear hr
            obtain ⟨x26, rfl, hr⟩ := hq
            refine wf_take (v := (.i .i64 x26)) rfl (f_P rfl (s_ld rfl e26)) ?_
            refine wf_take (v := v0) rfl (f_P rfl (s_pure (p_mv g0))) ?_
            refine wf_take (v := (.i .i64 x9)) rfl (f_P rfl (s_pure (p_mv g9))) ?_
            have hq := forceI_inv hr
            clear hr
            obtain ⟨x29, e29, hr⟩ := hq
            refine wf_take (v := (.i .i64 x29)) rfl (f_P rfl (s_pure (p_bin rfl rfl (b_sub.trans (ci e29))))) ?_
            have hq := bindO_inv hr
            clear hr
            obtain ⟨v30, e30, hr⟩ := hq
            refine wf_take (v := v30) rfl (f_P rfl (s_pure (o_ixS rfl rfl e30))) ?_
            have hq := bindO_inv hr
            clear hr
            obtain ⟨v31, e31, hr⟩ := hq
            have hq := asI_inv hr
            clear hr
            obtain ⟨x31, rfl, hr⟩ := hq
            refine wf_take (v := (.i .i64 x31)) rfl (f_P rfl (s_ld rfl e31)) ?_
            have hq := bindP_inv hr
            clear hr
            obtain ⟨v32, m_5, e32, hr⟩ := hq
            have hq := asI_inv hr
            clear hr
            obtain ⟨x32, rfl, hr⟩ := hq
            refine wf_take (v := (.i .i64 x32)) rfl (f_N (s_callv rfl (mc rfl (mc rfl mn)) (callvM_le hM.call e32))) ?_
            have hq := forceB_inv hr
            clear hr
            obtain ⟨c33, e33, hr⟩ := hq
            refine wf_take (v := (.b c33)) rfl (f_P rfl (s_pure (p_bin rfl rfl (b_lss.trans (cb e33))))) ?_
            refine wf_step (v := (.b c33)) (f_P rfl (s_pure (p_pickT rfl rfl))) ?_
            refine wf_nil ?_
            cases hr
            exact ⟨_, _, rfl, rfl, gl rfl, gl g0, gl g1, gl g2, gl g3, gl g8, gl g9⟩
          · refine wf_skip (v := (.b false)) rfl rfl ?_
            refine wf_skip (v := (.b false)) rfl rfl ?_
            refine wf_skip (v := (.b false)) rfl rfl ?_
            refine wf_skip (v := (.b false)) rfl rfl ?_
            refine wf_skip (v := (.b false)) rfl rfl ?_
            refine wf_skip (v := (.b false)) rfl rfl ?_
            refine wf_skip (v := (.b false)) rfl rfl ?_
            refine wf_skip (v := (.b false)) rfl rfl ?_
            refine wf_skip (v := (.b false)) rfl rfl ?_
            refine wf_skip (v := (.b false)) rfl rfl ?_
            refine wf_skip (v := (.b false)) rfl rfl ?_
            refine wf_skip (v := (.b false)) rfl rfl ?_
            refine wf_step (v := (.b false)) (f_P rfl (s_pure (p_pickF rfl rfl))) ?_
            refine wf_nil ?_
            cases hr
            exact ⟨_, _, rfl, rfl, gl rfl, gl g0, gl g1, gl g2, gl g3, gl g8, gl g9⟩
        · clear hr
          have hr := hk
          clear hk
          obtain ⟨c34, m_4⟩ := o
          rintro mm t_3 ⟨rfl, g34, g0, g1, g2, g3, g8, g9⟩
          have hq := bindO_inv hr
          clear hr
          obtain ⟨m_6, ef_1, hr⟩ := hq
          refine wf_end ef_1 ?_
          refine nx_norm ?_
          have hq := cond_inv hr
          clear hr
          rcases hq with ⟨rfl, hr⟩ | ⟨rfl, hr⟩
          · refine w_condT g34 ?_
            refine w_skip ?_
            refine nx_norm ?_
            refine w_seq ?_
            refine w_block ?_
            refine w_any ?_
            refine wa_step (v := v0) (a_pure (p_mv g0)) ?_
            refine wa_step (v := (.i .i64 x9)) (a_pure (p_mv g9)) ?_
            refine wa_step (v := v0) (a_pure (p_mv g0)) ?_
            refine wa_step (v := (.i .i64 x9)) (a_pure (p_mv g9)) ?_
            have hq := forceI_inv hr
            clear hr
            obtain ⟨x41, e41, hr⟩ := hq
            refine wa_step (v := (.i .i64 x41)) (a_pure (p_bin rfl rfl (b_sub.trans (ci e41)))) ?_
            refine wa_step (v := v0) (a_pure (p_mv g0)) ?_
            refine wa_step (v := (.i .i64 x9)) (a_pure (p_mv g9)) ?_
            have hq := forceI_inv hr
            clear hr
            obtain ⟨x44, e44, hr⟩ := hq
            refine wa_step (v := (.i .i64 x44)) (a_pure (p_bin rfl rfl (b_sub.trans (ci e44)))) ?_
            have hq := bindO_inv hr
            clear hr
            obtain ⟨v45, e45, hr⟩ := hq
            refine wa_step (v := v45) (a_pure (o_ixS rfl rfl e45)) ?_
            have hq := bindO_inv hr
            clear hr
            obtain ⟨v46, e46, hr⟩ := hq
            have hq := asI_inv hr
            clear hr
            obtain ⟨x46, rfl, hr⟩ := hq
            refine wa_step (v := (.i .i64 x46)) (a_ld rfl e46) ?_
            refine wa_step (v := v0) (a_pure (p_mv g0)) ?_
            refine wa_step (v := (.i .i64 x9)) (a_pure (p_mv g9)) ?_
            have hq := bindO_inv hr
            clear hr
            obtain ⟨v49, e49, hr⟩ := hq
            refine wa_step (v := v49) (a_pure (o_ixS rfl rfl e49)) ?_
            have hq := bindO_inv hr
            clear hr
            obtain ⟨v50, e50, hr⟩ := hq
            have hq := asI_inv hr
            clear hr
            obtain ⟨x50, rfl, hr⟩ := hq
            refine wa_step (v := (.i .i64 x50)) (a_ld rfl e50) ?_
            have hq := bindO_inv hr
            clear hr
            obtain ⟨v51, e51, hr⟩ := hq
            refine wa_step (v := v51) (a_pure (o_ixS rfl rfl e51)) ?_
            have hq := asP_inv hr
            clear hr
            obtain ⟨qs, eqs, hr⟩ := hq
            refine wa_stepN (a_st (Eq.trans (b := v51) rfl eqs) rfl rfl) ?_
            have hq := bindO_inv hr
            clear hr
            obtain ⟨v52, e52, hr⟩ := hq
            refine wa_step (v := v52) (a_pure (o_ixS rfl rfl e52)) ?_
            have hq := asP_inv hr
            clear hr
            obtain ⟨qs_1, eqs_1, hr⟩ := hq
            refine wa_stepN (a_st (Eq.trans (b := v52) rfl eqs_1) rfl rfl) ?_
            have hq := bindO_inv hr
            clear hr
            obtain ⟨m_7, ew, hr⟩ := hq
            refine wa_nil ?_
            refine ⟨m_7, ew, ?_⟩
            refine bk_norm ?_
            refine nx_norm ?_
            refine w_ops ?_
            refine wo_step (v := (.i .i64 x9)) (s_pure (p_mv g9)) ?_
            have hq := forceI_inv hr
            clear hr
            obtain ⟨x36, e36, hr⟩ := hq
            refine wo_step (v := (.i .i64 x36)) (s_pure (p_bin rfl rfl (b_sub.trans (ci e36)))) ?_
            refine wo_step (v := (.i .i64 x36)) (s_pure (p_mv rfl)) ?_
            refine wo_nil ?_
            cases hr
            exact ⟨_, _, rfl, rfl, rfl, gl rfl, gl g0, gl g1, gl g2, gl g3, gl g8⟩
          · refine w_condF g34 ?_
            refine w_exit ?_
            refine nx_exit ?_
            cases hr
            exact ⟨_, _, rfl, ne_norm_exit, rfl, rfl, gl g0, gl g1, gl g2, gl g3, gl g8⟩
      · obtain ⟨m_8, ho⟩ : ∃ z, z = o_1 := ⟨_, rfl⟩
        subst ho
        rintro _ mm_1 t_4 ⟨rfl, rfl, g0, g1, g2, g3, g8⟩
        refine bk_hit ?_
        refine bk_norm ?_
        refine nx_norm ?_
        refine w_ops ?_
        refine wo_step (v := (.i .i64 x8)) (s_pure (p_mv g8)) ?_
        have hq := forceI_inv hr
        clear hr
        obtain ⟨x16, e16, hr⟩ := hq
        refine wo_step (v := (.i .i64 x16)) (s_pure (p_bin rfl rfl (b_add.trans (ci e16)))) ?_
        refine wo_step (v := (.i .i64 x16)) (s_pure (p_mv rfl)) ?_
        refine wo_nil ?_
        cases hr
        exact ⟨_, _, rfl, rfl, rfl, gl rfl, gl g0, gl g1, gl g2, gl g3⟩
    · refine w_condF rfl ?_
      refine w_exit ?_
      refine nx_exit ?_
      cases hr
      exact ⟨_, _, rfl, ne_norm_exit, rfl, rfl⟩
  · obtain ⟨m_9, ho⟩ : ∃ z, z = o_2 := ⟨_, rfl⟩
    subst ho
    rintro _ mm_3 t_5 ⟨rfl, rfl⟩
    refine bk_hit ?_
    exact qf norm_ok rn hr

end Go.Proofs.Ythdglempcfknhaa.T

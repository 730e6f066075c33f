/- Plain functions, and that the small machine answers as they do. -/
import Derived.Test.YtobmcofkcfifkaaVmP
import Derived.Test.YtobmcofkcfifkaaVmAE
open Go.Vm
set_option linter.unusedVariables false
namespace Go.Proofs.Ytobmcofkcfifkaa.T
open Go
/- dibber/dibberlaw09.SeedWhinihan -/
abbrev g14_I0 (x0 : Int) (x1 : Int) (x25 : Int) (x29 : Int) (s : AVal × Int × Mm) (m1 : Mm) (t1 : Tr) : Prop :=
  match s with
  | (v11, x12, m_1) => m_1 = m1 ∧ t1.get 11 = v11 ∧ t1.get 12 = (.i .i64 x12) ∧ t1.get 0 = (.i .u64 x0) ∧ t1.get 1 = (.i .u64 x1) ∧ t1.get 9 = (.i .i64 x25) ∧ t1.get 10 = (.i .i64 x29)
abbrev g14_J0 (x0 : Int) (x1 : Int) (x25 : Int) (x29 : Int) (o : (AVal × Mm)) (e : AExit) (m1 : Mm) (t1 : Tr) : Prop :=
  match o with
  | (y11, mo) => e = (.exit 0) ∧ mo = m1 ∧ t1.get 11 = y11 ∧ t1.get 0 = (.i .u64 x0) ∧ t1.get 1 = (.i .u64 x1) ∧ t1.get 9 = (.i .i64 x25) ∧ t1.get 10 = (.i .i64 x29)
abbrev g14_I1 (x0 : Int) (x1 : Int) (x25 : Int) (x29 : Int) (v11 : AVal) (x12 : Int) (v34 : AVal) (s : Int × Mm) (m1 : Mm) (t1 : Tr) : Prop :=
  match s with
  | (x14, m_3) => m_3 = m1 ∧ t1.get 14 = (.i .i64 x14) ∧ t1.get 0 = (.i .u64 x0) ∧ t1.get 1 = (.i .u64 x1) ∧ t1.get 9 = (.i .i64 x25) ∧ t1.get 10 = (.i .i64 x29) ∧ t1.get 11 = v11 ∧ t1.get 12 = (.i .i64 x12) ∧ t1.get 13 = v34
abbrev g14_J1 (x0 : Int) (x1 : Int) (x25 : Int) (x29 : Int) (v11 : AVal) (x12 : Int) (v34 : AVal) (o : Mm) (e : AExit) (m1 : Mm) (t1 : Tr) : Prop :=
  match o with
  | mo => e = (.exit 2) ∧ mo = m1 ∧ t1.get 0 = (.i .u64 x0) ∧ t1.get 1 = (.i .u64 x1) ∧ t1.get 9 = (.i .i64 x25) ∧ t1.get 10 = (.i .i64 x29) ∧ t1.get 11 = v11 ∧ t1.get 12 = (.i .i64 x12) ∧ t1.get 13 = v34
def g14_b1 (M : Means) (ro : List ABlk) (x0 : Int) (x1 : Int) (x25 : Int) (x29 : Int) (v11 : AVal) (x12 : Int) (v34 : AVal) (x14 : Int) (m_3 : Mm) : Option ((Int × Mm) ⊕ (Mm)) :=
  bindO (evP .e (.len false (.c v34))) fun v37 =>
  asI .i64 v37 fun x37 =>
  forceB (ltI x14 x37) fun c38 =>
  cond c38 (
    bindO (evP .e (.ixS 1 (.c v34) (.c (.i .i64 x14)))) fun v43 =>
    bindP (stepM ro m_3 (.st 1 (.c v43) (.c (.i .i64 (-1))))) fun vn m_4 =>
    forceI (wr .i64 (x14 + 1)) fun x40 =>
    some (.inl (x40, m_4))) (
    some (.inr m_3))
def g14_b0 (M : Means) (ro : List ABlk) (x0 : Int) (x1 : Int) (x25 : Int) (x29 : Int) (v11 : AVal) (x12 : Int) (m_1 : Mm) : Option ((AVal × Int × Mm) ⊕ ((AVal × Mm))) :=
  forceB (!ltI 60 x12) fun c31 =>
  cond c31 (
    bindP (stepM ro m_1 (.mk 3 1 8 [(AVal.i IntKind.i64 0)] (.c (.i .i64 61)) (.c (.i .i64 61)))) fun v34 m_2 =>
    bindO (M.loop (S := Int × Mm) (R := Mm) (fun s => g14_b1 M ro x0 x1 x25 x29 v11 x12 v34 s.1 s.2) (0, m_2)) fun m_5 =>
    bindP (stepM ro m_5 (.bsl 50 1 [AVal.nsl] 1 [((0, 1), .c v34)])) fun v46 m_6 =>
    bindP (stepM ro m_6 (.app 50 1 24 [AVal.nsl] (.c v11) (.c v46))) fun v47 m_7 =>
    forceI (wr .i64 (x12 + 1)) fun x33 =>
    some (.inl (v47, x33, m_7))) (
    some (.inr (v11, m_1)))
abbrev g14_J2 (x0 : Int) (x1 : Int) (x51 : Int) (x56 : Int) (x57 : Int) (m_10 : Mm) (o : Bool) (m1 : Mm) (t1 : Tr) : Prop :=
  match o with
  | c67 => m_10 = m1 ∧ t1.get 67 = (.b c67) ∧ t1.get 0 = (.i .u64 x0) ∧ t1.get 1 = (.i .u64 x1) ∧ t1.get 15 = (.i .i64 x51) ∧ t1.get 16 = (.i .i64 x56) ∧ t1.get 17 = (.i .i64 x57)
abbrev g14_J3 (x0 : Int) (x1 : Int) (x51 : Int) (x56 : Int) (x57 : Int) (m_10 : Mm) (o : Bool) (m1 : Mm) (t1 : Tr) : Prop :=
  match o with
  | c67_1 => m_10 = m1 ∧ t1.get 67 = (.b c67_1) ∧ t1.get 0 = (.i .u64 x0) ∧ t1.get 1 = (.i .u64 x1) ∧ t1.get 15 = (.i .i64 x51) ∧ t1.get 16 = (.i .i64 x56) ∧ t1.get 17 = (.i .i64 x57)
abbrev g14_J4 (x0 : Int) (x1 : Int) (m_10 : Mm) (o : Bool) (m1 : Mm) (t1 : Tr) : Prop :=
  match o with
  | c80 => m_10 = m1 ∧ t1.get 80 = (.b c80) ∧ t1.get 0 = (.i .u64 x0) ∧ t1.get 1 = (.i .u64 x1)
abbrev g14_J5 (x0 : Int) (x1 : Int) (m_10 : Mm) (o : Bool) (m1 : Mm) (t1 : Tr) : Prop :=
  match o with
  | c80_1 => m_10 = m1 ∧ t1.get 80 = (.b c80_1) ∧ t1.get 0 = (.i .u64 x0) ∧ t1.get 1 = (.i .u64 x1)
abbrev g14_J6 (x0 : Int) (x1 : Int) (m_10 : Mm) (o : Bool) (m1 : Mm) (t1 : Tr) : Prop :=
  match o with
  | c80_2 => m_10 = m1 ∧ t1.get 80 = (.b c80_2) ∧ t1.get 0 = (.i .u64 x0) ∧ t1.get 1 = (.i .u64 x1)
abbrev g14_J7 (m_17 : Mm) (o : Bool) (m1 : Mm) (t1 : Tr) : Prop :=
  match o with
  | c142 => m_17 = m1 ∧ t1.get 142 = (.b c142)
abbrev g14_J8 (m_17 : Mm) (o : Bool) (m1 : Mm) (t1 : Tr) : Prop :=
  match o with
  | c142_1 => m_17 = m1 ∧ t1.get 142 = (.b c142_1)
abbrev g14_J9 (m_17 : Mm) (o : Bool) (m1 : Mm) (t1 : Tr) : Prop :=
  match o with
  | c142_2 => m_17 = m1 ∧ t1.get 142 = (.b c142_2)
abbrev g14_J10 (m_17 : Mm) (o : Bool) (m1 : Mm) (t1 : Tr) : Prop :=
  match o with
  | c142_3 => m_17 = m1 ∧ t1.get 142 = (.b c142_3)
abbrev g14_J11 (m_17 : Mm) (o : Bool) (m1 : Mm) (t1 : Tr) : Prop :=
  match o with
  | c142_4 => m_17 = m1 ∧ t1.get 142 = (.b c142_4)
abbrev g14_J12 (m_17 : Mm) (o : Bool) (m1 : Mm) (t1 : Tr) : Prop :=
  match o with
  | c142_5 => m_17 = m1 ∧ t1.get 142 = (.b c142_5)
abbrev g14_J13 (m_17 : Mm) (o : Bool) (m1 : Mm) (t1 : Tr) : Prop :=
  match o with
  | c142_6 => m_17 = m1 ∧ t1.get 142 = (.b c142_6)
abbrev g14_J14 (m_17 : Mm) (o : Bool) (m1 : Mm) (t1 : Tr) : Prop :=
  match o with
  | c142_7 => m_17 = m1 ∧ t1.get 142 = (.b c142_7)
abbrev g14_J15 (m_17 : Mm) (o : Bool) (m1 : Mm) (t1 : Tr) : Prop :=
  match o with
  | c142_8 => m_17 = m1 ∧ t1.get 142 = (.b c142_8)
abbrev g14_J16 (m_17 : Mm) (o : Bool) (m1 : Mm) (t1 : Tr) : Prop :=
  match o with
  | c142_9 => m_17 = m1 ∧ t1.get 142 = (.b c142_9)
abbrev g14_J17  (o : Bool × Mm) (m1 : Mm) (t1 : Tr) : Prop :=
  match o with
  | (c145, m_18) => m_18 = m1 ∧ t1.get 145 = (.b c145)
def g14 (M : Means) (ro : List ABlk) (x0 : Int) (x1 : Int) (x2 : Int) (x3 : Int) (m0 : Mm) : Option (AVal × Heap × Nat × Nat) :=
  forceI (Int.tmod x2 61) fun x24 =>
  forceI (wr .i64 x24) fun x25 =>
  forceI (Int.tmod x3 60) fun x27 =>
  forceI (wr .i64 x27) fun x28 =>
  forceI (wr .i64 (1 + x28)) fun x29 =>
  bindO (M.loop (S := AVal × Int × Mm) (R := (AVal × Mm)) (fun s => g14_b0 M ro x0 x1 x25 x29 s.1 s.2.1 s.2.2) (AVal.nsl, 0, m0)) fun ⟨v11_1, m_8⟩ =>
  bindP (callM M.call m_8 49 [(.i .i64 x25), (.i .i64 x29), v11_1]) fun v51 m_9 =>
  asI .i64 v51 fun x51 =>
  bindP (callM M.call m_9 39 [(.i .i64 x25), (.i .i64 x29)]) fun v55 m_10 =>
  bindO (evP .e (.ext 0 (.c v55))) fun v56 =>
  asI .i64 v56 fun x56 =>
  bindO (evP .e (.ext 1 (.c v55))) fun v57 =>
  asI .i64 v57 fun x57 =>
  forceB (eqI x51 0) fun c59 =>
  bindO (cond c59 (
    forceB (!eqI x57 10) fun c62 =>
    bindO (cond c62 (
      some true) (
      forceB (!eqI x56 0) fun c65 =>
      some c65)) fun c67_1 =>
    some c67_1) (
    some false)) fun c67 =>
  bindO (cond c67 (
    some true) (
    forceB (ltI 0 x51) fun c70 =>
    bindO (cond c70 (
      forceB (!eqI x57 0) fun c73 =>
      bindO (cond c73 (
        some true) (
        forceB (!eqI x56 x51) fun c77 =>
        some c77)) fun c80_2 =>
      some c80_2) (
      some false)) fun c80_1 =>
    some c80_1)) fun c80 =>
  cond c80 (
    finM m0.h.length (tupA [(.b false)]) m_10) (
    bindP (callM M.call m_10 45 [(.i .u64 x0)]) fun v82 m_11 =>
    asI .i64 v82 fun x82 =>
    bindP (callM M.call m_11 45 [(.i .u64 x1)]) fun v84 m_12 =>
    asI .i64 v84 fun x84 =>
    forceI (mxV true 1 x84) fun x85 =>
    forceB (eqI x82 0) fun c87 =>
    cond c87 (
      bindP (callM M.call m_12 18 []) fun v88 m_13 =>
      asB v88 fun c88 =>
      finM m0.h.length (tupA [(.b c88)]) m_13) (
      bindP (callM M.call m_12 19 [(.i .i64 x82)]) fun v91 m_14 =>
      bindO (evP .e (.ext 0 (.c v91))) fun v92 =>
      asS v92 fun s92 =>
      bindO (evP .e (.ext 1 (.c v91))) fun v93 =>
      asI .i64 v93 fun x93 =>
      forceB (!eqI x93 0) fun c95 =>
      cond c95 (
        finM m0.h.length (tupA [(.b false)]) m_14) (
        bindO (evP .e (.len true (.c (.s s92)))) fun v99 =>
        asI .i64 v99 fun x99 =>
        bindP (callM M.call m_14 48 [(.s s92)]) fun v101 m_15 =>
        asI .i64 v101 fun x101 =>
        forceI (wr .i64 (x99 - x101)) fun x102 =>
        bindO (evP .e (.slStr (.c (.s s92)) (some (.c (.i .i64 x102))) none)) fun v103 =>
        asS v103 fun s103 =>
        bindO (evP .e (.sbin BinOp.add (.c (AVal.s [49])) (.c (.s s103)))) fun v104 =>
        asS v104 fun s104 =>
        bindP (callM M.call m_15 21 [(.s s104)]) fun v105 m_16 =>
        bindO (evP .e (.ext 0 (.c v105))) fun v106 =>
        asI .i64 v106 fun x106 =>
        bindO (evP .e (.ext 1 (.c v105))) fun v107 =>
        asI .i64 v107 fun x107 =>
        bindP (callM M.call m_16 39 [(.i .i64 x82), (.i .i64 x85)]) fun v111 m_17 =>
        bindO (evP .e (.ext 0 (.c v111))) fun v112 =>
        asI .i64 v112 fun x112 =>
        bindO (evP .e (.ext 1 (.c v111))) fun v113 =>
        asI .i64 v113 fun x113 =>
        forceB (eqI x107 0) fun c115 =>
        bindO (cond c115 (
          forceB (!ltI x85 x106) fun c119 =>
          bindO (cond c119 (
            forceB (eqI x113 0) fun c122 =>
            bindO (cond c122 (
              forceB (eqI x112 x106) fun c127 =>
              bindO (cond c127 (
                some true) (
                forceB (ltI x85 x106) fun c132 =>
                bindO (cond c132 (
                  forceB (eqI x113 10) fun c135 =>
                  bindO (cond c135 (
                    forceB (eqI x112 0) fun c139 =>
                    some c139) (
                    some false)) fun c142_5 =>
                  some c142_5) (
                  some false)) fun c142_4 =>
                some c142_4)) fun c142_3 =>
              some c142_3) (
              forceB (ltI x85 x106) fun c132_1 =>
              bindO (cond c132_1 (
                forceB (eqI x113 10) fun c135_1 =>
                bindO (cond c135_1 (
                  forceB (eqI x112 0) fun c139_1 =>
                  some c139_1) (
                  some false)) fun c142_7 =>
                some c142_7) (
                some false)) fun c142_6 =>
              some c142_6)) fun c142_2 =>
            some c142_2) (
            forceB (ltI x85 x106) fun c132_2 =>
            bindO (cond c132_2 (
              forceB (eqI x113 10) fun c135_2 =>
              bindO (cond c135_2 (
                forceB (eqI x112 0) fun c139_2 =>
                some c139_2) (
                some false)) fun c142_9 =>
              some c142_9) (
              some false)) fun c142_8 =>
            some c142_8)) fun c142_1 =>
          some c142_1) (
          some false)) fun c142 =>
        bindO (cond c142 (
          bindP (callM M.call m_17 18 []) fun v144 m_19 =>
          asB v144 fun c144 =>
          some (c144, m_19)) (
          some (false, m_17))) fun ⟨c145, m_18⟩ =>
        finM m0.h.length (tupA [(.b c145)]) m_18)))

theorem g14_ok {ro : List ABlk} {O : Caller} {M : Means} (hM : M.Ok ⟨F, O⟩ ro) {x0 x1 x2 x3 h r} (ho : O 14 [(.i .u64 x0), (.i .u64 x1), (.i .u8 x2), (.i .u8 x3)] h = none) (hr : g14 M ro x0 x1 x2 x3 ⟨h, h.length, h.length⟩ = some r) : callX ⟨F, O⟩ ro 14 [(.i .u64 x0), (.i .u64 x1), (.i .u8 x2), (.i .u8 x3)] h = some r := by
  refine callX_of (F := ⟨F, O⟩) (fn := fn14) (g := g14 M ro x0 x1 x2 x3) ho rfl rfl hr ?_
  clear ho
  clear hr
  intro m0 t0 ht hr
  have g0 : t0.get 0 = (.i .u64 x0) := ht 0
  have g1 : t0.get 1 = (.i .u64 x1) := ht 1
  have g2 : t0.get 2 = (.i .u8 x2) := ht 2
  have g3 : t0.get 3 = (.i .u8 x3) := ht 3
  clear ht
  unfold g14 at hr
  refine w_seq ?_
  refine w_ops ?_
  refine wo_step (v := (.b false)) (s_pure (p_mv rfl)) ?_
  refine wo_nil ?_
  refine nx_norm ?_
  refine w_seq ?_
  refine w_ops ?_
  refine wo_step (v := (.i .u8 x2)) (s_pure (p_mv g2)) ?_
  have hq := forceI_inv hr
  clear hr
  obtain ⟨x24, e24, hr⟩ := hq
  refine wo_step (v := (.i .u8 x24)) (s_pure (p_bin rfl rfl ((b_rem rfl).trans (ci e24)))) ?_
  have hq := forceI_inv hr
  clear hr
  obtain ⟨x25, e25, hr⟩ := hq
  refine wo_step (v := (.i .i64 x25)) (s_pure ((p_conv rfl).trans (ci e25))) ?_
  refine wo_step (v := (.i .u8 x3)) (s_pure (p_mv g3)) ?_
  have hq := forceI_inv hr
  clear hr
  obtain ⟨x27, e27, hr⟩ := hq
  refine wo_step (v := (.i .u8 x27)) (s_pure (p_bin rfl rfl ((b_rem rfl).trans (ci e27)))) ?_
  have hq := forceI_inv hr
  clear hr
  obtain ⟨x28, e28, hr⟩ := hq
  refine wo_step (v := (.i .i64 x28)) (s_pure ((p_conv rfl).trans (ci e28))) ?_
  have hq := forceI_inv hr
  clear hr
  obtain ⟨x29, e29, hr⟩ := hq
  refine wo_step (v := (.i .i64 x29)) (s_pure (p_bin rfl rfl (b_add.trans (ci e29)))) ?_
  refine wo_step (v := (.i .i64 x25)) (s_pure (p_mv rfl)) ?_
  refine wo_step (v := (.i .i64 x29)) (s_pure (p_mv rfl)) ?_
  refine wo_nil ?_
  refine nx_norm ?_
  refine w_seq ?_
  refine w_ops ?_
  refine wo_step (v := AVal.nsl) (s_pure (p_mv rfl)) ?_
  refine wo_nil ?_
  refine nx_norm ?_
  refine w_seq ?_
  refine w_seq ?_
  refine w_ops ?_
  refine wo_step (v := (.i .i64 0)) (s_pure (p_mv rfl)) ?_
  refine wo_nil ?_
  refine nx_norm ?_
  refine w_block ?_
  have hq := bindO_inv hr
  clear hr
  obtain ⟨o_1, hl_1, hr⟩ := hq
  obtain ⟨n_1, hl_1⟩ := hM.loop _ _ _ hl_1
  refine jp_mono (w_loop _ (g14_I0 x0 x1 x25 x29) (g14_J0 x0 x1 x25 x29) ?_ n_1 _ _ _ _ hl_1 ⟨rfl, gl rfl, gl rfl, gl g0, gl g1, gl rfl, gl rfl⟩) ?_
  · clear hr hl_1
    intro s mm_19 t_1 o hi hr
    obtain ⟨v11, x12, m_1⟩ := s
    obtain ⟨rfl, g11, g12, g0, g1, g9, g10⟩ := hi
    unfold g14_b0 at hr
    refine w_seq ?_
    refine w_seq ?_
    refine w_ops ?_
    refine wo_step (v := (.i .i64 x12)) (s_pure (p_mv g12)) ?_
    have hq := forceB_inv hr
    clear hr
    obtain ⟨c31, e31, hr⟩ := hq
    refine wo_step (v := (.b c31)) (s_pure (p_bin rfl rfl (b_leq.trans (cb e31)))) ?_
    refine wo_nil ?_
    refine nx_norm ?_
    have hq := cond_inv hr
    clear hr
    rcases hq with ⟨rfl, hr⟩ | ⟨rfl, hr⟩
    · refine w_condT rfl ?_
      refine w_skip ?_
      refine nx_norm ?_
      refine w_seq ?_
      refine w_block ?_
      refine w_seq ?_
      refine w_ops ?_
      have hq := bindP_inv hr
      clear hr
      obtain ⟨v34, m_2, e34, hr⟩ := hq
      refine wo_step (v := v34) (s_mk rfl rfl e34) ?_
      refine wo_step (v := v34) (s_pure (p_mv rfl)) ?_
      refine wo_nil ?_
      refine nx_norm ?_
      refine w_seq ?_
      refine w_seq ?_
      refine w_ops ?_
      refine wo_step (v := (.i .i64 0)) (s_pure (p_mv rfl)) ?_
      refine wo_nil ?_
      refine nx_norm ?_
      refine w_block ?_
      have hq := bindO_inv hr
      clear hr
      obtain ⟨o, hl, hr⟩ := hq
      obtain ⟨n, hl⟩ := hM.loop _ _ _ hl
      refine jp_mono (w_loop _ (g14_I1 x0 x1 x25 x29 v11 x12 v34) (g14_J1 x0 x1 x25 x29 v11 x12 v34) ?_ n _ _ _ _ hl ⟨rfl, gl rfl, gl g0, gl g1, gl g9, gl g10, gl g11, gl g12, gl rfl⟩) ?_
      · clear hr hl
        intro s mm_1 t_2 o hi hr
        obtain ⟨x14, m_3⟩ := s
        obtain ⟨rfl, g14, g0, g1, g9, g10, g11, g12, g13⟩ := hi
        unfold g14_b1 at hr
        refine w_seq ?_
        refine w_seq ?_
        refine w_ops ?_
        refine wo_step (v := (.i .i64 x14)) (s_pure (p_mv g14)) ?_
        refine wo_step (v := v34) (s_pure (p_mv g13)) ?_
        have hq := bindO_inv hr
        clear hr
        obtain ⟨v37, e37, hr⟩ := hq
        have hq := asI_inv hr
        clear hr
        obtain ⟨x37, rfl, hr⟩ := hq
        refine wo_step (v := (.i .i64 x37)) (s_pure (o_len rfl e37)) ?_
        have hq := forceB_inv hr
        clear hr
        obtain ⟨c38, e38, hr⟩ := hq
        refine wo_step (v := (.b c38)) (s_pure (p_bin rfl rfl (b_lss.trans (cb e38)))) ?_
        refine wo_nil ?_
        refine nx_norm ?_
        have hq := cond_inv hr
        clear hr
        rcases hq with ⟨rfl, hr⟩ | ⟨rfl, hr⟩
        · refine w_condT rfl ?_
          refine w_skip ?_
          refine nx_norm ?_
          refine w_seq ?_
          refine w_block ?_
          refine w_ops ?_
          refine wo_step (v := v34) (s_pure (p_mv g13)) ?_
          refine wo_step (v := (.i .i64 x14)) (s_pure (p_mv g14)) ?_
          have hq := bindO_inv hr
          clear hr
          obtain ⟨v43, e43, hr⟩ := hq
          refine wo_step (v := v43) (s_pure (o_ixS rfl rfl e43)) ?_
          have hq := bindP_inv hr
          clear hr
          obtain ⟨vn, m_4, en, hr⟩ := hq
          refine wo_stepN (s_st rfl rfl en) ?_
          refine wo_nil ?_
          refine bk_norm ?_
          refine nx_norm ?_
          refine w_ops ?_
          refine wo_step (v := (.i .i64 x14)) (s_pure (p_mv g14)) ?_
          have hq := forceI_inv hr
          clear hr
          obtain ⟨x40, e40, hr⟩ := hq
          refine wo_step (v := (.i .i64 x40)) (s_pure (p_bin rfl rfl (b_add.trans (ci e40)))) ?_
          refine wo_step (v := (.i .i64 x40)) (s_pure (p_mv rfl)) ?_
          refine wo_nil ?_
          cases hr
          exact ⟨_, _, rfl, rfl, rfl, gl rfl, gl g0, gl g1, gl g9, gl g10, gl g11, gl g12, gl g13⟩
        · refine w_condF rfl ?_
          refine w_exit ?_
          refine nx_exit ?_
          cases hr
          exact ⟨_, _, rfl, ne_norm_exit, rfl, rfl, gl g0, gl g1, gl g9, gl g10, gl g11, gl g12, gl g13⟩
      · obtain ⟨m_5, ho⟩ : ∃ z, z = o := ⟨_, rfl⟩
        subst ho
        rintro _ mm t_3 ⟨rfl, rfl, g0, g1, g9, g10, g11, g12, g13⟩
        refine bk_hit ?_
        refine nx_norm ?_
        refine w_ops ?_
        refine wo_step (v := v11) (s_pure (p_mv g11)) ?_
        refine wo_step (v := v34) (s_pure (p_mv g13)) ?_
        have hq := bindP_inv hr
        clear hr
        obtain ⟨v46, m_6, e46, hr⟩ := hq
        refine wo_step (v := v46) (s_bsl (qc rfl qn) e46) ?_
        have hq := bindP_inv hr
        clear hr
        obtain ⟨v47, m_7, e47, hr⟩ := hq
        refine wo_step (v := v47) (s_app rfl rfl e47) ?_
        refine wo_step (v := v47) (s_pure (p_mv rfl)) ?_
        refine wo_nil ?_
        refine bk_norm ?_
        refine nx_norm ?_
        refine w_ops ?_
        refine wo_step (v := (.i .i64 x12)) (s_pure (p_mv g12)) ?_
        have hq := forceI_inv hr
        clear hr
        obtain ⟨x33, e33, hr⟩ := hq
        refine wo_step (v := (.i .i64 x33)) (s_pure (p_bin rfl rfl (b_add.trans (ci e33)))) ?_
        refine wo_step (v := (.i .i64 x33)) (s_pure (p_mv rfl)) ?_
        refine wo_nil ?_
        cases hr
        exact ⟨_, _, rfl, rfl, rfl, gl rfl, gl rfl, gl g0, gl g1, gl g9, gl g10⟩
    · refine w_condF rfl ?_
      refine w_exit ?_
      refine nx_exit ?_
      cases hr
      exact ⟨_, _, rfl, ne_norm_exit, rfl, rfl, gl g11, gl g0, gl g1, gl g9, gl g10⟩
  · obtain ⟨v11_1, m_8⟩ := o_1
    rintro _ mm_18 t_4 ⟨rfl, rfl, g11, g0, g1, g9, g10⟩
    refine bk_hit ?_
    refine nx_norm ?_
    refine w_seq ?_
    refine w_ops ?_
    refine wo_step (v := (.i .i64 x25)) (s_pure (p_mv g9)) ?_
    refine wo_step (v := (.i .i64 x29)) (s_pure (p_mv g10)) ?_
    refine wo_step (v := v11_1) (s_pure (p_mv g11)) ?_
    have hq := bindP_inv hr
    clear hr
    obtain ⟨v51, m_9, e51, hr⟩ := hq
    have hq := asI_inv hr
    clear hr
    obtain ⟨x51, rfl, hr⟩ := hq
    refine wo_step (v := (.i .i64 x51)) (s_call (mc rfl (mc rfl (mc rfl mn))) (callM_le hM.call e51)) ?_
    refine wo_step (v := (.i .i64 x51)) (s_pure (p_mv rfl)) ?_
    refine wo_nil ?_
    refine nx_norm ?_
    refine w_seq ?_
    refine w_ops ?_
    refine wo_step (v := (.i .i64 x25)) (s_pure (p_mv g9)) ?_
    refine wo_step (v := (.i .i64 x29)) (s_pure (p_mv g10)) ?_
    have hq := bindP_inv hr
    clear hr
    obtain ⟨v55, m_10, e55, hr⟩ := hq
    refine wo_step (v := v55) (s_call (mc rfl (mc rfl mn)) (callM_le hM.call e55)) ?_
    refine wo_step (v := v55) (s_pure (p_mv rfl)) ?_
    have hq := bindO_inv hr
    clear hr
    obtain ⟨v56, e56, hr⟩ := hq
    have hq := asI_inv hr
    clear hr
    obtain ⟨x56, rfl, hr⟩ := hq
    refine wo_step (v := (.i .i64 x56)) (s_pure (o_ext rfl e56)) ?_
    have hq := bindO_inv hr
    clear hr
    obtain ⟨v57, e57, hr⟩ := hq
    have hq := asI_inv hr
    clear hr
    obtain ⟨x57, rfl, hr⟩ := hq
    refine wo_step (v := (.i .i64 x57)) (s_pure (o_ext rfl e57)) ?_
    refine wo_step (v := (.i .i64 x56)) (s_pure (p_mv rfl)) ?_
    refine wo_step (v := (.i .i64 x57)) (s_pure (p_mv rfl)) ?_
    refine wo_nil ?_
    refine nx_norm ?_
    refine w_seq ?_
    refine w_seq ?_
    refine w_ops ?_
    refine wo_step (v := (.i .i64 x51)) (s_pure (p_mv rfl)) ?_
    have hq := forceB_inv hr
    clear hr
    obtain ⟨c59, e59, hr⟩ := hq
    refine wo_step (v := (.b c59)) (s_pure (p_bin rfl rfl (b_eql.trans (cb e59)))) ?_
    refine wo_step (v := (.b c59)) (s_pure (p_mv rfl)) ?_
    have hq := bindO_inv hr
    clear hr
    obtain ⟨o_2, hr, hk⟩ := hq
    refine wo_join 7 (g14_J2 x0 x1 x51 x56 x57 m_10 o_2) ?_ ?_
    · clear hk
      have hq := cond_inv hr
      clear hr
      rcases hq with ⟨rfl, hr⟩ | ⟨rfl, hr⟩
      · refine wo_take (v := (.i .i64 x57)) rfl (s_pure (p_mv rfl)) ?_
        have hq := forceB_inv hr
        clear hr
        obtain ⟨c62, e62, hr⟩ := hq
        refine wo_take (v := (.b c62)) rfl (s_pure (p_bin rfl rfl (b_neq.trans (cb e62)))) ?_
        refine wo_take (v := (.b c62)) rfl (s_pure (p_mv rfl)) ?_
        have hq := bindO_inv hr
        clear hr
        obtain ⟨o_3, hr, hk⟩ := hq
        refine wo_join 4 (g14_J3 x0 x1 x51 x56 x57 m_10 o_3) ?_ ?_
        · clear hk
          have hq := cond_inv hr
          clear hr
          rcases hq with ⟨rfl, hr⟩ | ⟨rfl, hr⟩
          · refine wo_skip (v := (.b true)) rfl rfl ?_
            refine wo_skip (v := (.b true)) rfl rfl ?_
            refine wo_take (v := (.b true)) rfl (s_pure (p_pickT rfl rfl)) ?_
            refine wo_step (v := (.b true)) (s_pure (p_pickT rfl rfl)) ?_
            refine wo_nil ?_
            cases hr
            exact ⟨_, _, rfl, rfl, gl rfl, gl g0, gl g1, gl rfl, gl rfl, gl rfl⟩
          · refine wo_take (v := (.i .i64 x56)) rfl (s_pure (p_mv rfl)) ?_
            have hq := forceB_inv hr
            clear hr
            obtain ⟨c65, e65, hr⟩ := hq
            refine wo_take (v := (.b c65)) rfl (s_pure (p_bin rfl rfl (b_neq.trans (cb e65)))) ?_
            refine wo_take (v := (.b c65)) rfl (s_pure (p_pickF rfl rfl)) ?_
            refine wo_step (v := (.b c65)) (s_pure (p_pickT rfl rfl)) ?_
            refine wo_nil ?_
            cases hr
            exact ⟨_, _, rfl, rfl, gl rfl, gl g0, gl g1, gl rfl, gl rfl, gl rfl⟩
        · clear hr
          have hr := hk
          clear hk
          obtain ⟨c67_1, ho⟩ : ∃ z, z = o_3 := ⟨_, rfl⟩
          subst ho
          rintro mm_2 t_5 ⟨rfl, g67, g0, g1, g15, g16, g17⟩
          refine wo_nil ?_
          cases hr
          exact ⟨_, _, rfl, rfl, gl g67, gl g0, gl g1, gl g15, gl g16, gl g17⟩
      · refine wo_skip (v := (.b false)) rfl rfl ?_
        refine wo_skip (v := (.b false)) rfl rfl ?_
        refine wo_skip (v := (.b false)) rfl rfl ?_
        refine wo_skip (v := und) rfl rfl ?_
        refine wo_skip (v := und) rfl rfl ?_
        refine wo_skip (v := (.b false)) rfl rfl ?_
        refine wo_step (v := (.b false)) (s_pure (p_pickF rfl rfl)) ?_
        refine wo_nil ?_
        cases hr
        exact ⟨_, _, rfl, rfl, gl rfl, gl g0, gl g1, gl rfl, gl rfl, gl rfl⟩
    · clear hr
      have hr := hk
      clear hk
      obtain ⟨c67, ho⟩ : ∃ z, z = o_2 := ⟨_, rfl⟩
      subst ho
      rintro mm_3 t_6 ⟨rfl, g67, g0, g1, g15, g16, g17⟩
      refine wo_step (v := (.b c67)) (s_pure (p_mv g67)) ?_
      have hq := bindO_inv hr
      clear hr
      obtain ⟨o_4, hr, hk⟩ := hq
      refine wo_join 12 (g14_J4 x0 x1 m_10 o_4) ?_ ?_
      · clear hk
        have hq := cond_inv hr
        clear hr
        rcases hq with ⟨rfl, hr⟩ | ⟨rfl, hr⟩
        · refine wo_skip (v := (.b true)) rfl rfl ?_
          refine wo_skip (v := (.b true)) rfl rfl ?_
          refine wo_skip (v := (.b true)) rfl rfl ?_
          refine wo_skip (v := und) rfl rfl ?_
          refine wo_skip (v := und) rfl rfl ?_
          refine wo_skip (v := und) rfl rfl ?_
          refine wo_skip (v := und) rfl rfl ?_
          refine wo_skip (v := und) rfl rfl ?_
          refine wo_skip (v := und) rfl rfl ?_
          refine wo_skip (v := und) rfl rfl ?_
          refine wo_skip (v := (.b true)) rfl rfl ?_
          refine wo_step (v := (.b true)) (s_pure (p_pickT rfl rfl)) ?_
          refine wo_nil ?_
          cases hr
          exact ⟨_, _, rfl, rfl, gl rfl, gl g0, gl g1⟩
        · refine wo_take (v := (.i .i64 x51)) rfl (s_pure (p_mv g15)) ?_
          have hq := forceB_inv hr
          clear hr
          obtain ⟨c70, e70, hr⟩ := hq
          refine wo_take (v := (.b c70)) rfl (s_pure (p_bin rfl rfl (b_gtr.trans (cb e70)))) ?_
          refine wo_take (v := (.b c70)) rfl (s_pure (p_mv rfl)) ?_
          have hq := bindO_inv hr
          clear hr
          obtain ⟨o_5, hr, hk⟩ := hq
          refine wo_join 9 (g14_J5 x0 x1 m_10 o_5) ?_ ?_
          · clear hk
            have hq := cond_inv hr
            clear hr
            rcases hq with ⟨rfl, hr⟩ | ⟨rfl, hr⟩
            · refine wo_take (v := (.i .i64 x57)) rfl (s_pure (p_mv g17)) ?_
              have hq := forceB_inv hr
              clear hr
              obtain ⟨c73, e73, hr⟩ := hq
              refine wo_take (v := (.b c73)) rfl (s_pure (p_bin rfl rfl (b_neq.trans (cb e73)))) ?_
              refine wo_take (v := (.b c73)) rfl (s_pure (p_mv rfl)) ?_
              have hq := bindO_inv hr
              clear hr
              obtain ⟨o_6, hr, hk⟩ := hq
              refine wo_join 6 (g14_J6 x0 x1 m_10 o_6) ?_ ?_
              · clear hk
                have hq := cond_inv hr
                clear hr
                rcases hq with ⟨rfl, hr⟩ | ⟨rfl, hr⟩
                · refine wo_skip (v := (.b true)) rfl rfl ?_
                  refine wo_skip (v := (.b true)) rfl rfl ?_
                  refine wo_skip (v := (.b true)) rfl rfl ?_
                  refine wo_take (v := (.b true)) rfl (s_pure (p_pickT rfl rfl)) ?_
                  refine wo_take (v := (.b true)) rfl (s_pure (p_pickT rfl rfl)) ?_
                  refine wo_step (v := (.b true)) (s_pure (p_pickF rfl rfl)) ?_
                  refine wo_nil ?_
                  cases hr
                  exact ⟨_, _, rfl, rfl, gl rfl, gl g0, gl g1⟩
                · refine wo_take (v := (.i .i64 x56)) rfl (s_pure (p_mv g16)) ?_
                  refine wo_take (v := (.i .i64 x51)) rfl (s_pure (p_mv g15)) ?_
                  have hq := forceB_inv hr
                  clear hr
                  obtain ⟨c77, e77, hr⟩ := hq
                  refine wo_take (v := (.b c77)) rfl (s_pure (p_bin rfl rfl (b_neq.trans (cb e77)))) ?_
                  refine wo_take (v := (.b c77)) rfl (s_pure (p_pickF rfl rfl)) ?_
                  refine wo_take (v := (.b c77)) rfl (s_pure (p_pickT rfl rfl)) ?_
                  refine wo_step (v := (.b c77)) (s_pure (p_pickF rfl rfl)) ?_
                  refine wo_nil ?_
                  cases hr
                  exact ⟨_, _, rfl, rfl, gl rfl, gl g0, gl g1⟩
              · clear hr
                have hr := hk
                clear hk
                obtain ⟨c80_2, ho⟩ : ∃ z, z = o_6 := ⟨_, rfl⟩
                subst ho
                rintro mm_4 t_7 ⟨rfl, g80, g0, g1⟩
                refine wo_nil ?_
                cases hr
                exact ⟨_, _, rfl, rfl, gl g80, gl g0, gl g1⟩
            · refine wo_skip (v := (.b false)) rfl rfl ?_
              refine wo_skip (v := (.b false)) rfl rfl ?_
              refine wo_skip (v := (.b false)) rfl rfl ?_
              refine wo_skip (v := und) rfl rfl ?_
              refine wo_skip (v := und) rfl rfl ?_
              refine wo_skip (v := und) rfl rfl ?_
              refine wo_skip (v := (.b false)) rfl rfl ?_
              refine wo_take (v := (.b false)) rfl (s_pure (p_pickF rfl rfl)) ?_
              refine wo_step (v := (.b false)) (s_pure (p_pickF rfl rfl)) ?_
              refine wo_nil ?_
              cases hr
              exact ⟨_, _, rfl, rfl, gl rfl, gl g0, gl g1⟩
          · clear hr
            have hr := hk
            clear hk
            obtain ⟨c80_1, ho⟩ : ∃ z, z = o_5 := ⟨_, rfl⟩
            subst ho
            rintro mm_5 t_8 ⟨rfl, g80, g0, g1⟩
            refine wo_nil ?_
            cases hr
            exact ⟨_, _, rfl, rfl, gl g80, gl g0, gl g1⟩
      · clear hr
        have hr := hk
        clear hk
        obtain ⟨c80, ho⟩ : ∃ z, z = o_4 := ⟨_, rfl⟩
        subst ho
        rintro mm_6 t_9 ⟨rfl, g80, g0, g1⟩
        refine wo_nil ?_
        refine nx_norm ?_
        have hq := cond_inv hr
        clear hr
        rcases hq with ⟨rfl, hr⟩ | ⟨rfl, hr⟩
        · refine w_condT g80 ?_
          refine w_seq ?_
          refine w_ops ?_
          refine wo_step (v := (.b false)) (s_pure (p_mv rfl)) ?_
          refine wo_nil ?_
          refine nx_norm ?_
          refine w_ret ?_
          refine nx_ret ?_
          exact qf ret_ok (rt rfl rn) hr
        · refine w_condF g80 ?_
          refine w_skip ?_
          refine nx_norm ?_
          refine w_seq ?_
          refine w_ops ?_
          refine wo_step (v := (.i .u64 x0)) (s_pure (p_mv g0)) ?_
          have hq := bindP_inv hr
          clear hr
          obtain ⟨v82, m_11, e82, hr⟩ := hq
          have hq := asI_inv hr
          clear hr
          obtain ⟨x82, rfl, hr⟩ := hq
          refine wo_step (v := (.i .i64 x82)) (s_call (mc rfl mn) (callM_le hM.call e82)) ?_
          refine wo_step (v := (.i .u64 x1)) (s_pure (p_mv g1)) ?_
          have hq := bindP_inv hr
          clear hr
          obtain ⟨v84, m_12, e84, hr⟩ := hq
          have hq := asI_inv hr
          clear hr
          obtain ⟨x84, rfl, hr⟩ := hq
          refine wo_step (v := (.i .i64 x84)) (s_call (mc rfl mn) (callM_le hM.call e84)) ?_
          have hq := forceI_inv hr
          clear hr
          obtain ⟨x85, e85, hr⟩ := hq
          refine wo_step (v := (.i .i64 x85)) (s_pure ((p_mx rfl rfl).trans (ci e85))) ?_
          refine wo_step (v := (.i .i64 x82)) (s_pure (p_mv rfl)) ?_
          refine wo_step (v := (.i .i64 x85)) (s_pure (p_mv rfl)) ?_
          refine wo_nil ?_
          refine nx_norm ?_
          refine w_seq ?_
          refine w_seq ?_
          refine w_ops ?_
          refine wo_step (v := (.i .i64 x82)) (s_pure (p_mv rfl)) ?_
          have hq := forceB_inv hr
          clear hr
          obtain ⟨c87, e87, hr⟩ := hq
          refine wo_step (v := (.b c87)) (s_pure (p_bin rfl rfl (b_eql.trans (cb e87)))) ?_
          refine wo_nil ?_
          refine nx_norm ?_
          have hq := cond_inv hr
          clear hr
          rcases hq with ⟨rfl, hr⟩ | ⟨rfl, hr⟩
          · refine w_condT rfl ?_
            refine w_seq ?_
            refine w_ops ?_
            have hq := bindP_inv hr
            clear hr
            obtain ⟨v88, m_13, e88, hr⟩ := hq
            have hq := asB_inv hr
            clear hr
            obtain ⟨c88, rfl, hr⟩ := hq
            refine wo_step (v := (.b c88)) (s_call mn (callM_le hM.call e88)) ?_
            refine wo_step (v := (.b c88)) (s_pure (p_mv rfl)) ?_
            refine wo_nil ?_
            refine nx_norm ?_
            refine w_ret ?_
            refine nx_ret ?_
            exact qf ret_ok (rt rfl rn) hr
          · refine w_condF rfl ?_
            refine w_skip ?_
            refine nx_norm ?_
            refine w_seq ?_
            refine w_ops ?_
            refine wo_step (v := (.i .i64 x82)) (s_pure (p_mv rfl)) ?_
            have hq := bindP_inv hr
            clear hr
            obtain ⟨v91, m_14, e91, hr⟩ := hq
            refine wo_step (v := v91) (s_call (mc rfl mn) (callM_le hM.call e91)) ?_
            refine wo_step (v := v91) (s_pure (p_mv rfl)) ?_
            have hq := bindO_inv hr
            clear hr
            obtain ⟨v92, e92, hr⟩ := hq
            have hq := asS_inv hr
            clear hr
            obtain ⟨s92, rfl, hr⟩ := hq
            refine wo_step (v := (.s s92)) (s_pure (o_ext rfl e92)) ?_
            have hq := bindO_inv hr
            clear hr
            obtain ⟨v93, e93, hr⟩ := hq
            have hq := asI_inv hr
            clear hr
            obtain ⟨x93, rfl, hr⟩ := hq
            refine wo_step (v := (.i .i64 x93)) (s_pure (o_ext rfl e93)) ?_
            refine wo_step (v := (.s s92)) (s_pure (p_mv rfl)) ?_
            refine wo_step (v := (.i .i64 x93)) (s_pure (p_mv rfl)) ?_
            refine wo_nil ?_
            refine nx_norm ?_
            refine w_seq ?_
            refine w_seq ?_
            refine w_ops ?_
            refine wo_step (v := (.i .i64 x93)) (s_pure (p_mv rfl)) ?_
            have hq := forceB_inv hr
            clear hr
            obtain ⟨c95, e95, hr⟩ := hq
            refine wo_step (v := (.b c95)) (s_pure (p_bin rfl rfl (b_neq.trans (cb e95)))) ?_
            refine wo_nil ?_
            refine nx_norm ?_
            have hq := cond_inv hr
            clear hr
            rcases hq with ⟨rfl, hr⟩ | ⟨rfl, hr⟩
            · refine w_condT rfl ?_
              refine w_seq ?_
              refine w_ops ?_
              refine wo_step (v := (.b false)) (s_pure (p_mv rfl)) ?_
              refine wo_nil ?_
              refine nx_norm ?_
              refine w_ret ?_
              refine nx_ret ?_
              exact qf ret_ok (rt rfl rn) hr
            · refine w_condF rfl ?_
              refine w_skip ?_
              refine nx_norm ?_
              refine w_seq ?_
              refine w_ops ?_
              refine wo_step (v := (.s s92)) (s_pure (p_mv rfl)) ?_
              refine wo_step (v := (.s s92)) (s_pure (p_mv rfl)) ?_
              have hq := bindO_inv hr
              clear hr
              obtain ⟨v99, e99, hr⟩ := hq
              have hq := asI_inv hr
              clear hr
              obtain ⟨x99, rfl, hr⟩ := hq
              refine wo_step (v := (.i .i64 x99)) (s_pure (o_len rfl e99)) ?_
              refine wo_step (v := (.s s92)) (s_pure (p_mv rfl)) ?_
              have hq := bindP_inv hr
              clear hr
              obtain ⟨v101, m_15, e101, hr⟩ := hq
              have hq := asI_inv hr
              clear hr
              obtain ⟨x101, rfl, hr⟩ := hq
              refine wo_step (v := (.i .i64 x101)) (s_call (mc rfl mn) (callM_le hM.call e101)) ?_
              have hq := forceI_inv hr
              clear hr
              obtain ⟨x102, e102, hr⟩ := hq
              refine wo_step (v := (.i .i64 x102)) (s_pure (p_bin rfl rfl (b_sub.trans (ci e102)))) ?_
              have hq := bindO_inv hr
              clear hr
              obtain ⟨v103, e103, hr⟩ := hq
              have hq := asS_inv hr
              clear hr
              obtain ⟨s103, rfl, hr⟩ := hq
              refine wo_step (v := (.s s103)) (s_pure (o_slStr rfl (os rfl) on e103)) ?_
              have hq := bindO_inv hr
              clear hr
              obtain ⟨v104, e104, hr⟩ := hq
              have hq := asS_inv hr
              clear hr
              obtain ⟨s104, rfl, hr⟩ := hq
              refine wo_step (v := (.s s104)) (s_pure (o_sbin rfl rfl e104)) ?_
              have hq := bindP_inv hr
              clear hr
              obtain ⟨v105, m_16, e105, hr⟩ := hq
              refine wo_step (v := v105) (s_call (mc rfl mn) (callM_le hM.call e105)) ?_
              refine wo_step (v := v105) (s_pure (p_mv rfl)) ?_
              have hq := bindO_inv hr
              clear hr
              obtain ⟨v106, e106, hr⟩ := hq
              have hq := asI_inv hr
              clear hr
              obtain ⟨x106, rfl, hr⟩ := hq
              refine wo_step (v := (.i .i64 x106)) (s_pure (o_ext rfl e106)) ?_
              have hq := bindO_inv hr
              clear hr
              obtain ⟨v107, e107, hr⟩ := hq
              have hq := asI_inv hr
              clear hr
              obtain ⟨x107, rfl, hr⟩ := hq
              refine wo_step (v := (.i .i64 x107)) (s_pure (o_ext rfl e107)) ?_
              refine wo_step (v := (.i .i64 x106)) (s_pure (p_mv rfl)) ?_
              refine wo_step (v := (.i .i64 x107)) (s_pure (p_mv rfl)) ?_
              refine wo_nil ?_
              refine nx_norm ?_
              refine w_seq ?_
              refine w_ops ?_
              refine wo_step (v := (.i .i64 x82)) (s_pure (p_mv rfl)) ?_
              refine wo_step (v := (.i .i64 x85)) (s_pure (p_mv rfl)) ?_
              have hq := bindP_inv hr
              clear hr
              obtain ⟨v111, m_17, e111, hr⟩ := hq
              refine wo_step (v := v111) (s_call (mc rfl (mc rfl mn)) (callM_le hM.call e111)) ?_
              refine wo_step (v := v111) (s_pure (p_mv rfl)) ?_
              have hq := bindO_inv hr
              clear hr
              obtain ⟨v112, e112, hr⟩ := hq
              have hq := asI_inv hr
              clear hr
              obtain ⟨x112, rfl, hr⟩ := hq
              refine wo_step (v := (.i .i64 x112)) (s_pure (o_ext rfl e112)) ?_
              have hq := bindO_inv hr
              clear hr
              obtain ⟨v113, e113, hr⟩ := hq
              have hq := asI_inv hr
              clear hr
              obtain ⟨x113, rfl, hr⟩ := hq
              refine wo_step (v := (.i .i64 x113)) (s_pure (o_ext rfl e113)) ?_
              refine wo_step (v := (.i .i64 x112)) (s_pure (p_mv rfl)) ?_
              refine wo_step (v := (.i .i64 x113)) (s_pure (p_mv rfl)) ?_
              refine wo_nil ?_
              refine nx_norm ?_
              refine w_seq ?_
              refine w_ops ?_
              refine wo_step (v := (.i .i64 x107)) (s_pure (p_mv rfl)) ?_
              have hq := forceB_inv hr
              clear hr
              obtain ⟨c115, e115, hr⟩ := hq
              refine wo_step (v := (.b c115)) (s_pure (p_bin rfl rfl (b_eql.trans (cb e115)))) ?_
              refine wo_step (v := (.b c115)) (s_pure (p_mv rfl)) ?_
              have hq := bindO_inv hr
              clear hr
              obtain ⟨o_7, hr, hk⟩ := hq
              refine wo_join 26 (g14_J7 m_17 o_7) ?_ ?_
              · clear hk
                have hq := cond_inv hr
                clear hr
                rcases hq with ⟨rfl, hr⟩ | ⟨rfl, hr⟩
                · refine wo_take (v := (.i .i64 x106)) rfl (s_pure (p_mv rfl)) ?_
                  refine wo_take (v := (.i .i64 x85)) rfl (s_pure (p_mv rfl)) ?_
                  have hq := forceB_inv hr
                  clear hr
                  obtain ⟨c119, e119, hr⟩ := hq
                  refine wo_take (v := (.b c119)) rfl (s_pure (p_bin rfl rfl (b_leq.trans (cb e119)))) ?_
                  refine wo_take (v := (.b c119)) rfl (s_pure (p_mv rfl)) ?_
                  have hq := bindO_inv hr
                  clear hr
                  obtain ⟨o_8, hr, hk⟩ := hq
                  refine wo_join 22 (g14_J8 m_17 o_8) ?_ ?_
                  · clear hk
                    have hq := cond_inv hr
                    clear hr
                    rcases hq with ⟨rfl, hr⟩ | ⟨rfl, hr⟩
                    · refine wo_take (v := (.i .i64 x113)) rfl (s_pure (p_mv rfl)) ?_
                      have hq := forceB_inv hr
                      clear hr
                      obtain ⟨c122, e122, hr⟩ := hq
                      refine wo_take (v := (.b c122)) rfl (s_pure (p_bin rfl rfl (b_eql.trans (cb e122)))) ?_
                      refine wo_take (v := (.b c122)) rfl (s_pure (p_pickT rfl rfl)) ?_
                      refine wo_take (v := (.b c122)) rfl (s_pure (p_mv rfl)) ?_
                      have hq := bindO_inv hr
                      clear hr
                      obtain ⟨o_9, hr, hk⟩ := hq
                      refine wo_join 18 (g14_J9 m_17 o_9) ?_ ?_
                      · clear hk
                        have hq := cond_inv hr
                        clear hr
                        rcases hq with ⟨rfl, hr⟩ | ⟨rfl, hr⟩
                        · refine wo_take (v := (.i .i64 x112)) rfl (s_pure (p_mv rfl)) ?_
                          refine wo_take (v := (.i .i64 x106)) rfl (s_pure (p_mv rfl)) ?_
                          have hq := forceB_inv hr
                          clear hr
                          obtain ⟨c127, e127, hr⟩ := hq
                          refine wo_take (v := (.b c127)) rfl (s_pure (p_bin rfl rfl (b_eql.trans (cb e127)))) ?_
                          refine wo_take (v := (.b c127)) rfl (s_pure (p_pickT rfl rfl)) ?_
                          refine wo_take (v := (.b c127)) rfl (s_pure (p_mv rfl)) ?_
                          have hq := bindO_inv hr
                          clear hr
                          obtain ⟨o_10, hr, hk⟩ := hq
                          refine wo_join 13 (g14_J10 m_17 o_10) ?_ ?_
                          · clear hk
                            have hq := cond_inv hr
                            clear hr
                            rcases hq with ⟨rfl, hr⟩ | ⟨rfl, hr⟩
                            · refine wo_skip (v := (.b true)) rfl rfl ?_
                              refine wo_skip (v := (.b true)) rfl rfl ?_
                              refine wo_skip (v := (.b true)) rfl rfl ?_
                              refine wo_skip (v := (.b true)) rfl rfl ?_
                              refine wo_skip (v := und) rfl rfl ?_
                              refine wo_skip (v := und) rfl rfl ?_
                              refine wo_skip (v := (.b true)) rfl rfl ?_
                              refine wo_skip (v := (.b true)) rfl rfl ?_
                              refine wo_skip (v := und) rfl rfl ?_
                              refine wo_skip (v := und) rfl rfl ?_
                              refine wo_skip (v := (.b true)) rfl rfl ?_
                              refine wo_take (v := (.b true)) rfl (s_pure (p_pickT rfl rfl)) ?_
                              refine wo_step (v := (.b true)) (s_pure (p_pickT rfl rfl)) ?_
                              refine wo_nil ?_
                              cases hr
                              exact ⟨_, _, rfl, rfl, gl rfl⟩
                            · refine wo_take (v := (.i .i64 x106)) rfl (s_pure (p_mv rfl)) ?_
                              refine wo_take (v := (.i .i64 x85)) rfl (s_pure (p_mv rfl)) ?_
                              have hq := forceB_inv hr
                              clear hr
                              obtain ⟨c132, e132, hr⟩ := hq
                              refine wo_take (v := (.b c132)) rfl (s_pure (p_bin rfl rfl (b_gtr.trans (cb e132)))) ?_
                              refine wo_take (v := (.b c132)) rfl (s_pure (p_mv rfl)) ?_
                              have hq := bindO_inv hr
                              clear hr
                              obtain ⟨o_11, hr, hk⟩ := hq
                              refine wo_join 9 (g14_J11 m_17 o_11) ?_ ?_
                              · clear hk
                                have hq := cond_inv hr
                                clear hr
                                rcases hq with ⟨rfl, hr⟩ | ⟨rfl, hr⟩
                                · refine wo_take (v := (.i .i64 x113)) rfl (s_pure (p_mv rfl)) ?_
                                  have hq := forceB_inv hr
                                  clear hr
                                  obtain ⟨c135, e135, hr⟩ := hq
                                  refine wo_take (v := (.b c135)) rfl (s_pure (p_bin rfl rfl (b_eql.trans (cb e135)))) ?_
                                  refine wo_take (v := (.b c135)) rfl (s_pure (p_pickT rfl rfl)) ?_
                                  refine wo_take (v := (.b c135)) rfl (s_pure (p_mv rfl)) ?_
                                  have hq := bindO_inv hr
                                  clear hr
                                  obtain ⟨o_12, hr, hk⟩ := hq
                                  refine wo_join 5 (g14_J12 m_17 o_12) ?_ ?_
                                  · clear hk
                                    have hq := cond_inv hr
                                    clear hr
                                    rcases hq with ⟨rfl, hr⟩ | ⟨rfl, hr⟩
                                    · refine wo_take (v := (.i .i64 x112)) rfl (s_pure (p_mv rfl)) ?_
                                      have hq := forceB_inv hr
                                      clear hr
                                      obtain ⟨c139, e139, hr⟩ := hq
                                      refine wo_take (v := (.b c139)) rfl (s_pure (p_bin rfl rfl (b_eql.trans (cb e139)))) ?_
                                      refine wo_take (v := (.b c139)) rfl (s_pure (p_pickT rfl rfl)) ?_
                                      refine wo_take (v := (.b c139)) rfl (s_pure (p_pickF rfl rfl)) ?_
                                      refine wo_step (v := (.b c139)) (s_pure (p_pickT rfl rfl)) ?_
                                      refine wo_nil ?_
                                      cases hr
                                      exact ⟨_, _, rfl, rfl, gl rfl⟩
                                    · refine wo_skip (v := (.b false)) rfl rfl ?_
                                      refine wo_skip (v := (.b false)) rfl rfl ?_
                                      refine wo_take (v := (.b false)) rfl (s_pure (p_pickF rfl rfl)) ?_
                                      refine wo_take (v := (.b false)) rfl (s_pure (p_pickF rfl rfl)) ?_
                                      refine wo_step (v := (.b false)) (s_pure (p_pickT rfl rfl)) ?_
                                      refine wo_nil ?_
                                      cases hr
                                      exact ⟨_, _, rfl, rfl, gl rfl⟩
                                  · clear hr
                                    have hr := hk
                                    clear hk
                                    obtain ⟨c142_5, ho⟩ : ∃ z, z = o_12 := ⟨_, rfl⟩
                                    subst ho
                                    rintro mm_7 t_10 ⟨rfl, g142⟩
                                    refine wo_nil ?_
                                    cases hr
                                    exact ⟨_, _, rfl, rfl, gl g142⟩
                                · refine wo_skip (v := (.b false)) rfl rfl ?_
                                  refine wo_skip (v := (.b false)) rfl rfl ?_
                                  refine wo_take (v := (.b false)) rfl (s_pure (p_pickF rfl rfl)) ?_
                                  refine wo_take (v := (.b false)) rfl (s_pure (p_mv rfl)) ?_
                                  refine wo_skip (v := (.b false)) rfl rfl ?_
                                  refine wo_skip (v := (.b false)) rfl rfl ?_
                                  refine wo_take (v := (.b false)) rfl (s_pure (p_pickF rfl rfl)) ?_
                                  refine wo_take (v := (.b false)) rfl (s_pure (p_pickF rfl rfl)) ?_
                                  refine wo_step (v := (.b false)) (s_pure (p_pickT rfl rfl)) ?_
                                  refine wo_nil ?_
                                  cases hr
                                  exact ⟨_, _, rfl, rfl, gl rfl⟩
                              · clear hr
                                have hr := hk
                                clear hk
                                obtain ⟨c142_4, ho⟩ : ∃ z, z = o_11 := ⟨_, rfl⟩
                                subst ho
                                rintro mm_8 t_11 ⟨rfl, g142⟩
                                refine wo_nil ?_
                                cases hr
                                exact ⟨_, _, rfl, rfl, gl g142⟩
                          · clear hr
                            have hr := hk
                            clear hk
                            obtain ⟨c142_3, ho⟩ : ∃ z, z = o_10 := ⟨_, rfl⟩
                            subst ho
                            rintro mm_9 t_12 ⟨rfl, g142⟩
                            refine wo_nil ?_
                            cases hr
                            exact ⟨_, _, rfl, rfl, gl g142⟩
                        · refine wo_skip (v := (.b false)) rfl rfl ?_
                          refine wo_skip (v := (.b false)) rfl rfl ?_
                          refine wo_skip (v := (.b false)) rfl rfl ?_
                          refine wo_take (v := (.b false)) rfl (s_pure (p_pickF rfl rfl)) ?_
                          refine wo_take (v := (.b false)) rfl (s_pure (p_mv rfl)) ?_
                          refine wo_take (v := (.i .i64 x106)) rfl (s_pure (p_mv rfl)) ?_
                          refine wo_take (v := (.i .i64 x85)) rfl (s_pure (p_mv rfl)) ?_
                          have hq := forceB_inv hr
                          clear hr
                          obtain ⟨c132_1, e132_1, hr⟩ := hq
                          refine wo_take (v := (.b c132_1)) rfl (s_pure (p_bin rfl rfl (b_gtr.trans (cb e132_1)))) ?_
                          refine wo_take (v := (.b c132_1)) rfl (s_pure (p_mv rfl)) ?_
                          have hq := bindO_inv hr
                          clear hr
                          obtain ⟨o_13, hr, hk⟩ := hq
                          refine wo_join 9 (g14_J13 m_17 o_13) ?_ ?_
                          · clear hk
                            have hq := cond_inv hr
                            clear hr
                            rcases hq with ⟨rfl, hr⟩ | ⟨rfl, hr⟩
                            · refine wo_take (v := (.i .i64 x113)) rfl (s_pure (p_mv rfl)) ?_
                              have hq := forceB_inv hr
                              clear hr
                              obtain ⟨c135_1, e135_1, hr⟩ := hq
                              refine wo_take (v := (.b c135_1)) rfl (s_pure (p_bin rfl rfl (b_eql.trans (cb e135_1)))) ?_
                              refine wo_take (v := (.b c135_1)) rfl (s_pure (p_pickT rfl rfl)) ?_
                              refine wo_take (v := (.b c135_1)) rfl (s_pure (p_mv rfl)) ?_
                              have hq := bindO_inv hr
                              clear hr
                              obtain ⟨o_14, hr, hk⟩ := hq
                              refine wo_join 5 (g14_J14 m_17 o_14) ?_ ?_
                              · clear hk
                                have hq := cond_inv hr
                                clear hr
                                rcases hq with ⟨rfl, hr⟩ | ⟨rfl, hr⟩
                                · refine wo_take (v := (.i .i64 x112)) rfl (s_pure (p_mv rfl)) ?_
                                  have hq := forceB_inv hr
                                  clear hr
                                  obtain ⟨c139_1, e139_1, hr⟩ := hq
                                  refine wo_take (v := (.b c139_1)) rfl (s_pure (p_bin rfl rfl (b_eql.trans (cb e139_1)))) ?_
                                  refine wo_take (v := (.b c139_1)) rfl (s_pure (p_pickT rfl rfl)) ?_
                                  refine wo_take (v := (.b c139_1)) rfl (s_pure (p_pickF rfl rfl)) ?_
                                  refine wo_step (v := (.b c139_1)) (s_pure (p_pickT rfl rfl)) ?_
                                  refine wo_nil ?_
                                  cases hr
                                  exact ⟨_, _, rfl, rfl, gl rfl⟩
                                · refine wo_skip (v := (.b false)) rfl rfl ?_
                                  refine wo_skip (v := (.b false)) rfl rfl ?_
                                  refine wo_take (v := (.b false)) rfl (s_pure (p_pickF rfl rfl)) ?_
                                  refine wo_take (v := (.b false)) rfl (s_pure (p_pickF rfl rfl)) ?_
                                  refine wo_step (v := (.b false)) (s_pure (p_pickT rfl rfl)) ?_
                                  refine wo_nil ?_
                                  cases hr
                                  exact ⟨_, _, rfl, rfl, gl rfl⟩
                              · clear hr
                                have hr := hk
                                clear hk
                                obtain ⟨c142_7, ho⟩ : ∃ z, z = o_14 := ⟨_, rfl⟩
                                subst ho
                                rintro mm_10 t_13 ⟨rfl, g142⟩
                                refine wo_nil ?_
                                cases hr
                                exact ⟨_, _, rfl, rfl, gl g142⟩
                            · refine wo_skip (v := (.b false)) rfl rfl ?_
                              refine wo_skip (v := (.b false)) rfl rfl ?_
                              refine wo_take (v := (.b false)) rfl (s_pure (p_pickF rfl rfl)) ?_
                              refine wo_take (v := (.b false)) rfl (s_pure (p_mv rfl)) ?_
                              refine wo_skip (v := (.b false)) rfl rfl ?_
                              refine wo_skip (v := (.b false)) rfl rfl ?_
                              refine wo_take (v := (.b false)) rfl (s_pure (p_pickF rfl rfl)) ?_
                              refine wo_take (v := (.b false)) rfl (s_pure (p_pickF rfl rfl)) ?_
                              refine wo_step (v := (.b false)) (s_pure (p_pickT rfl rfl)) ?_
                              refine wo_nil ?_
                              cases hr
                              exact ⟨_, _, rfl, rfl, gl rfl⟩
                          · clear hr
                            have hr := hk
                            clear hk
                            obtain ⟨c142_6, ho⟩ : ∃ z, z = o_13 := ⟨_, rfl⟩
                            subst ho
                            rintro mm_11 t_14 ⟨rfl, g142⟩
                            refine wo_nil ?_
                            cases hr
                            exact ⟨_, _, rfl, rfl, gl g142⟩
                      · clear hr
                        have hr := hk
                        clear hk
                        obtain ⟨c142_2, ho⟩ : ∃ z, z = o_9 := ⟨_, rfl⟩
                        subst ho
                        rintro mm_12 t_15 ⟨rfl, g142⟩
                        refine wo_nil ?_
                        cases hr
                        exact ⟨_, _, rfl, rfl, gl g142⟩
                    · refine wo_skip (v := (.b false)) rfl rfl ?_
                      refine wo_skip (v := (.b false)) rfl rfl ?_
                      refine wo_take (v := (.b false)) rfl (s_pure (p_pickF rfl rfl)) ?_
                      refine wo_take (v := (.b false)) rfl (s_pure (p_mv rfl)) ?_
                      refine wo_skip (v := (.b false)) rfl rfl ?_
                      refine wo_skip (v := (.b false)) rfl rfl ?_
                      refine wo_skip (v := (.b false)) rfl rfl ?_
                      refine wo_take (v := (.b false)) rfl (s_pure (p_pickF rfl rfl)) ?_
                      refine wo_take (v := (.b false)) rfl (s_pure (p_mv rfl)) ?_
                      refine wo_take (v := (.i .i64 x106)) rfl (s_pure (p_mv rfl)) ?_
                      refine wo_take (v := (.i .i64 x85)) rfl (s_pure (p_mv rfl)) ?_
                      have hq := forceB_inv hr
                      clear hr
                      obtain ⟨c132_2, e132_2, hr⟩ := hq
                      refine wo_take (v := (.b c132_2)) rfl (s_pure (p_bin rfl rfl (b_gtr.trans (cb e132_2)))) ?_
                      refine wo_take (v := (.b c132_2)) rfl (s_pure (p_mv rfl)) ?_
                      have hq := bindO_inv hr
                      clear hr
                      obtain ⟨o_15, hr, hk⟩ := hq
                      refine wo_join 9 (g14_J15 m_17 o_15) ?_ ?_
                      · clear hk
                        have hq := cond_inv hr
                        clear hr
                        rcases hq with ⟨rfl, hr⟩ | ⟨rfl, hr⟩
                        · refine wo_take (v := (.i .i64 x113)) rfl (s_pure (p_mv rfl)) ?_
                          have hq := forceB_inv hr
                          clear hr
                          obtain ⟨c135_2, e135_2, hr⟩ := hq
                          refine wo_take (v := (.b c135_2)) rfl (s_pure (p_bin rfl rfl (b_eql.trans (cb e135_2)))) ?_
                          refine wo_take (v := (.b c135_2)) rfl (s_pure (p_pickT rfl rfl)) ?_
                          refine wo_take (v := (.b c135_2)) rfl (s_pure (p_mv rfl)) ?_
                          have hq := bindO_inv hr
                          clear hr
                          obtain ⟨o_16, hr, hk⟩ := hq
                          refine wo_join 5 (g14_J16 m_17 o_16) ?_ ?_
                          · clear hk
                            have hq := cond_inv hr
                            clear hr
                            rcases hq with ⟨rfl, hr⟩ | ⟨rfl, hr⟩
                            · refine wo_take (v := (.i .i64 x112)) rfl (s_pure (p_mv rfl)) ?_
                              have hq := forceB_inv hr
                              clear hr
                              obtain ⟨c139_2, e139_2, hr⟩ := hq
                              refine wo_take (v := (.b c139_2)) rfl (s_pure (p_bin rfl rfl (b_eql.trans (cb e139_2)))) ?_
                              refine wo_take (v := (.b c139_2)) rfl (s_pure (p_pickT rfl rfl)) ?_
                              refine wo_take (v := (.b c139_2)) rfl (s_pure (p_pickF rfl rfl)) ?_
                              refine wo_step (v := (.b c139_2)) (s_pure (p_pickT rfl rfl)) ?_
                              refine wo_nil ?_
                              cases hr
                              exact ⟨_, _, rfl, rfl, gl rfl⟩
                            · refine wo_skip (v := (.b false)) rfl rfl ?_
                              refine wo_skip (v := (.b false)) rfl rfl ?_
                              refine wo_take (v := (.b false)) rfl (s_pure (p_pickF rfl rfl)) ?_
                              refine wo_take (v := (.b false)) rfl (s_pure (p_pickF rfl rfl)) ?_
                              refine wo_step (v := (.b false)) (s_pure (p_pickT rfl rfl)) ?_
                              refine wo_nil ?_
                              cases hr
                              exact ⟨_, _, rfl, rfl, gl rfl⟩
                          · clear hr
                            have hr := hk
                            clear hk
                            obtain ⟨c142_9, ho⟩ : ∃ z, z = o_16 := ⟨_, rfl⟩
                            subst ho
                            rintro mm_13 t_16 ⟨rfl, g142⟩
                            refine wo_nil ?_
                            cases hr
                            exact ⟨_, _, rfl, rfl, gl g142⟩
                        · refine wo_skip (v := (.b false)) rfl rfl ?_
                          refine wo_skip (v := (.b false)) rfl rfl ?_
                          refine wo_take (v := (.b false)) rfl (s_pure (p_pickF rfl rfl)) ?_
                          refine wo_take (v := (.b false)) rfl (s_pure (p_mv rfl)) ?_
                          refine wo_skip (v := (.b false)) rfl rfl ?_
                          refine wo_skip (v := (.b false)) rfl rfl ?_
                          refine wo_take (v := (.b false)) rfl (s_pure (p_pickF rfl rfl)) ?_
                          refine wo_take (v := (.b false)) rfl (s_pure (p_pickF rfl rfl)) ?_
                          refine wo_step (v := (.b false)) (s_pure (p_pickT rfl rfl)) ?_
                          refine wo_nil ?_
                          cases hr
                          exact ⟨_, _, rfl, rfl, gl rfl⟩
                      · clear hr
                        have hr := hk
                        clear hk
                        obtain ⟨c142_8, ho⟩ : ∃ z, z = o_15 := ⟨_, rfl⟩
                        subst ho
                        rintro mm_14 t_17 ⟨rfl, g142⟩
                        refine wo_nil ?_
                        cases hr
                        exact ⟨_, _, rfl, rfl, gl g142⟩
                  · clear hr
                    have hr := hk
                    clear hk
                    obtain ⟨c142_1, ho⟩ : ∃ z, z = o_8 := ⟨_, rfl⟩
                    subst ho
                    rintro mm_15 t_18 ⟨rfl, g142⟩
                    refine wo_nil ?_
                    cases hr
                    exact ⟨_, _, rfl, rfl, gl g142⟩
                · refine wo_skip (v := (.b false)) rfl rfl ?_
                  refine wo_skip (v := (.b false)) rfl rfl ?_
                  refine wo_skip (v := (.b false)) rfl rfl ?_
                  refine wo_skip (v := (.b false)) rfl rfl ?_
                  refine wo_skip (v := und) rfl rfl ?_
                  refine wo_skip (v := und) rfl rfl ?_
                  refine wo_skip (v := (.b false)) rfl rfl ?_
                  refine wo_skip (v := (.b false)) rfl rfl ?_
                  refine wo_skip (v := und) rfl rfl ?_
                  refine wo_skip (v := und) rfl rfl ?_
                  refine wo_skip (v := und) rfl rfl ?_
                  refine wo_skip (v := (.b false)) rfl rfl ?_
                  refine wo_skip (v := (.b false)) rfl rfl ?_
                  refine wo_skip (v := und) rfl rfl ?_
                  refine wo_skip (v := und) rfl rfl ?_
                  refine wo_skip (v := und) rfl rfl ?_
                  refine wo_skip (v := und) rfl rfl ?_
                  refine wo_skip (v := und) rfl rfl ?_
                  refine wo_skip (v := und) rfl rfl ?_
                  refine wo_skip (v := und) rfl rfl ?_
                  refine wo_skip (v := und) rfl rfl ?_
                  refine wo_skip (v := und) rfl rfl ?_
                  refine wo_skip (v := und) rfl rfl ?_
                  refine wo_skip (v := und) rfl rfl ?_
                  refine wo_skip (v := (.b false)) rfl rfl ?_
                  refine wo_step (v := (.b false)) (s_pure (p_pickF rfl rfl)) ?_
                  refine wo_nil ?_
                  cases hr
                  exact ⟨_, _, rfl, rfl, gl rfl⟩
              · clear hr
                have hr := hk
                clear hk
                obtain ⟨c142, ho⟩ : ∃ z, z = o_7 := ⟨_, rfl⟩
                subst ho
                rintro mm_16 t_19 ⟨rfl, g142⟩
                refine wo_step (v := (.b c142)) (s_pure (p_mv g142)) ?_
                have hq := bindO_inv hr
                clear hr
                obtain ⟨o_17, hr, hk⟩ := hq
                refine wo_join 2 (g14_J17  o_17) ?_ ?_
                · clear hk
                  have hq := cond_inv hr
                  clear hr
                  rcases hq with ⟨rfl, hr⟩ | ⟨rfl, hr⟩
                  · have hq := bindP_inv hr
                    clear hr
                    obtain ⟨v144, m_19, e144, hr⟩ := hq
                    have hq := asB_inv hr
                    clear hr
                    obtain ⟨c144, rfl, hr⟩ := hq
                    refine wo_take (v := (.b c144)) rfl (s_call mn (callM_le hM.call e144)) ?_
                    refine wo_step (v := (.b c144)) (s_pure (p_pickT rfl rfl)) ?_
                    refine wo_nil ?_
                    cases hr
                    exact ⟨_, _, rfl, rfl, gl rfl⟩
                  · refine wo_skip (v := (.b false)) rfl rfl ?_
                    refine wo_step (v := (.b false)) (s_pure (p_pickF rfl rfl)) ?_
                    refine wo_nil ?_
                    cases hr
                    exact ⟨_, _, rfl, rfl, gl rfl⟩
                · clear hr
                  have hr := hk
                  clear hk
                  obtain ⟨c145, m_18⟩ := o_17
                  rintro mm_17 t_20 ⟨rfl, g145⟩
                  refine wo_step (v := (.b c145)) (s_pure (p_mv g145)) ?_
                  refine wo_nil ?_
                  refine nx_norm ?_
                  refine w_ret ?_
                  exact qf ret_ok (rt rfl rn) hr

/- dibber/seed.Write -/

def g19 (M : Means) (ro : List ABlk) (x0 : Int) (m0 : Mm) : Option (AVal × Heap × Nat × Nat) :=
  bindP (stepM ro m0 (.bsl 3 1 [(AVal.i IntKind.i64 0)] 1 [((0, 1), .c (.i .i64 x0))])) fun v5 m_1 =>
  bindP (callM M.call m_1 51 [v5]) fun v6 m_2 =>
  asB v6 fun c6 =>
  forceB (!c6) fun c7 =>
  cond c7 (
    finM m0.h.length (tupA [(.s []), (.i .i64 4)]) m_2) (
    bindP (callM M.call m_2 52 [(.i .i64 x0)]) fun v9 m_3 =>
    asS v9 fun s9 =>
    finM m0.h.length (tupA [(.s s9), (.i .i64 0)]) m_3)

theorem g19_ok {ro : List ABlk} {O : Caller} {M : Means} (hM : M.Ok ⟨F, O⟩ ro) {x0 h r} (ho : O 19 [(.i .i64 x0)] h = none) (hr : g19 M ro x0 ⟨h, h.length, h.length⟩ = some r) : callX ⟨F, O⟩ ro 19 [(.i .i64 x0)] h = some r := by
  refine callX_of (F := ⟨F, O⟩) (fn := fn19) (g := g19 M ro x0) ho rfl rfl hr ?_
  clear ho
  clear hr
  intro m0 t0 ht hr
  have g0 : t0.get 0 = (.i .i64 x0) := ht 0
  clear ht
  unfold g19 at hr
  refine w_seq ?_
  refine w_ops ?_
  refine wo_step (v := (AVal.s [])) (s_pure (p_mv rfl)) ?_
  refine wo_step (v := (.i .i64 0)) (s_pure (p_mv rfl)) ?_
  refine wo_nil ?_
  refine nx_norm ?_
  refine w_seq ?_
  refine w_seq ?_
  refine w_ops ?_
  refine wo_step (v := (.i .i64 x0)) (s_pure (p_mv g0)) ?_
  have hq := bindP_inv hr
  clear hr
  obtain ⟨v5, m_1, e5, hr⟩ := hq
  refine wo_step (v := v5) (s_bsl (qc rfl qn) e5) ?_
  have hq := bindP_inv hr
  clear hr
  obtain ⟨v6, m_2, e6, hr⟩ := hq
  have hq := asB_inv hr
  clear hr
  obtain ⟨c6, rfl, hr⟩ := hq
  refine wo_step (v := (.b c6)) (s_call (mc rfl mn) (callM_le hM.call e6)) ?_
  have hq := forceB_inv hr
  clear hr
  obtain ⟨c7, e7, hr⟩ := hq
  refine wo_step (v := (.b c7)) (s_pure ((p_not rfl).trans (cb e7))) ?_
  refine wo_nil ?_
  refine nx_norm ?_
  have hq := cond_inv hr
  clear hr
  rcases hq with ⟨rfl, hr⟩ | ⟨rfl, hr⟩
  · refine w_condT rfl ?_
    refine w_seq ?_
    refine w_ops ?_
    refine wo_step (v := (AVal.s [])) (s_pure (p_mv rfl)) ?_
    refine wo_step (v := (.i .i64 4)) (s_pure (p_mv rfl)) ?_
    refine wo_nil ?_
    refine nx_norm ?_
    refine w_ret ?_
    refine nx_ret ?_
    exact qf ret_ok (rt rfl (rt rfl rn)) hr
  · refine w_condF rfl ?_
    refine w_skip ?_
    refine nx_norm ?_
    refine w_seq ?_
    refine w_ops ?_
    refine wo_step (v := (.i .i64 x0)) (s_pure (p_mv g0)) ?_
    have hq := bindP_inv hr
    clear hr
    obtain ⟨v9, m_3, e9, hr⟩ := hq
    have hq := asS_inv hr
    clear hr
    obtain ⟨s9, rfl, hr⟩ := hq
    refine wo_step (v := (.s s9)) (s_call (mc rfl mn) (callM_le hM.call e9)) ?_
    refine wo_step (v := (.s s9)) (s_pure (p_mv rfl)) ?_
    refine wo_step (v := (.i .i64 0)) (s_pure (p_mv rfl)) ?_
    refine wo_nil ?_
    refine nx_norm ?_
    refine w_ret ?_
    exact qf ret_ok (rt rfl (rt rfl rn)) hr

/- dibber/seed.Read -/

def g21 (M : Means) (ro : List ABlk) (s0 : List UInt8) (m0 : Mm) : Option (AVal × Heap × Nat × Nat) :=
  bindP (callM M.call m0 55 [(.s s0)]) fun v6 m_1 =>
  asB v6 fun c6 =>
  forceB (!c6) fun c7 =>
  cond c7 (
    finM m0.h.length (tupA [(.i .i64 0), (.i .i64 5)]) m_1) (
    bindP (callM M.call m_1 56 [(.s s0)]) fun v9 m_2 =>
    asI .i64 v9 fun x9 =>
    forceB (ltI 1152921504606846976 x9) fun c11 =>
    cond c11 (
      finM m0.h.length (tupA [(.i .i64 0), (.i .i64 4)]) m_2) (
      finM m0.h.length (tupA [(.i .i64 x9), (.i .i64 0)]) m_2))

theorem g21_ok {ro : List ABlk} {O : Caller} {M : Means} (hM : M.Ok ⟨F, O⟩ ro) {s0 h r} (ho : O 21 [(.s s0)] h = none) (hr : g21 M ro s0 ⟨h, h.length, h.length⟩ = some r) : callX ⟨F, O⟩ ro 21 [(.s s0)] h = some r := by
  refine callX_of (F := ⟨F, O⟩) (fn := fn21) (g := g21 M ro s0) ho rfl rfl hr ?_
  clear ho
  clear hr
  intro m0 t0 ht hr
  have g0 : t0.get 0 = (.s s0) := ht 0
  clear ht
  unfold g21 at hr
  refine w_seq ?_
  refine w_ops ?_
  refine wo_step (v := (.i .i64 0)) (s_pure (p_mv rfl)) ?_
  refine wo_step (v := (.i .i64 0)) (s_pure (p_mv rfl)) ?_
  refine wo_nil ?_
  refine nx_norm ?_
  refine w_seq ?_
  refine w_seq ?_
  refine w_ops ?_
  refine wo_step (v := (.s s0)) (s_pure (p_mv g0)) ?_
  have hq := bindP_inv hr
  clear hr
  obtain ⟨v6, m_1, e6, hr⟩ := hq
  have hq := asB_inv hr
  clear hr
  obtain ⟨c6, rfl, hr⟩ := hq
  refine wo_step (v := (.b c6)) (s_call (mc rfl mn) (callM_le hM.call e6)) ?_
  have hq := forceB_inv hr
  clear hr
  obtain ⟨c7, e7, hr⟩ := hq
  refine wo_step (v := (.b c7)) (s_pure ((p_not rfl).trans (cb e7))) ?_
  refine wo_nil ?_
  refine nx_norm ?_
  have hq := cond_inv hr
  clear hr
  rcases hq with ⟨rfl, hr⟩ | ⟨rfl, hr⟩
  · refine w_condT rfl ?_
    refine w_seq ?_
    refine w_ops ?_
    refine wo_step (v := (.i .i64 0)) (s_pure (p_mv rfl)) ?_
    refine wo_step (v := (.i .i64 5)) (s_pure (p_mv rfl)) ?_
    refine wo_nil ?_
    refine nx_norm ?_
    refine w_ret ?_
    refine nx_ret ?_
    exact qf ret_ok (rt rfl (rt rfl rn)) hr
  · refine w_condF rfl ?_
    refine w_skip ?_
    refine nx_norm ?_
    refine w_seq ?_
    refine w_ops ?_
    refine wo_step (v := (.s s0)) (s_pure (p_mv g0)) ?_
    have hq := bindP_inv hr
    clear hr
    obtain ⟨v9, m_2, e9, hr⟩ := hq
    have hq := asI_inv hr
    clear hr
    obtain ⟨x9, rfl, hr⟩ := hq
    refine wo_step (v := (.i .i64 x9)) (s_call (mc rfl mn) (callM_le hM.call e9)) ?_
    refine wo_step (v := (.i .i64 x9)) (s_pure (p_mv rfl)) ?_
    refine wo_nil ?_
    refine nx_norm ?_
    refine w_seq ?_
    refine w_seq ?_
    refine w_ops ?_
    refine wo_step (v := (.i .i64 x9)) (s_pure (p_mv rfl)) ?_
    have hq := forceB_inv hr
    clear hr
    obtain ⟨c11, e11, hr⟩ := hq
    refine wo_step (v := (.b c11)) (s_pure (p_bin rfl rfl (b_gtr.trans (cb e11)))) ?_
    refine wo_nil ?_
    refine nx_norm ?_
    have hq := cond_inv hr
    clear hr
    rcases hq with ⟨rfl, hr⟩ | ⟨rfl, hr⟩
    · refine w_condT rfl ?_
      refine w_seq ?_
      refine w_ops ?_
      refine wo_step (v := (.i .i64 0)) (s_pure (p_mv rfl)) ?_
      refine wo_step (v := (.i .i64 4)) (s_pure (p_mv rfl)) ?_
      refine wo_nil ?_
      refine nx_norm ?_
      refine w_ret ?_
      refine nx_ret ?_
      exact qf ret_ok (rt rfl (rt rfl rn)) hr
    · refine w_condF rfl ?_
      refine w_skip ?_
      refine nx_norm ?_
      refine w_seq ?_
      refine w_ops ?_
      refine wo_step (v := (.i .i64 x9)) (s_pure (p_mv rfl)) ?_
      refine wo_step (v := (.i .i64 x9)) (s_pure (p_mv rfl)) ?_
      refine wo_step (v := (.i .i64 0)) (s_pure (p_mv rfl)) ?_
      refine wo_nil ?_
      refine nx_norm ?_
      refine w_ret ?_
      exact qf ret_ok (rt rfl (rt rfl rn)) hr

/- dibber/seed.Take -/

def g39 (M : Means) (ro : List ABlk) (x0 : Int) (x1 : Int) (m0 : Mm) : Option (AVal × Heap × Nat × Nat) :=
  bindP (stepM ro m0 (.bsl 3 1 [(AVal.i IntKind.i64 0)] 1 [((0, 1), .c (.i .i64 x0))])) fun v8 m_1 =>
  bindP (callM M.call m_1 51 [v8]) fun v9 m_2 =>
  asB v9 fun c9 =>
  forceB (!c9) fun c10 =>
  cond c10 (
    finM m0.h.length (tupA [(.i .i64 0), (.i .i64 4)]) m_2) (
    forceB (ltI x1 1) fun c12 =>
    cond c12 (
      finM m0.h.length (tupA [(.i .i64 0), (.i .i64 2)]) m_2) (
      forceB (eqI x0 0) fun c14 =>
      cond c14 (
        finM m0.h.length (tupA [(.i .i64 0), (.i .i64 10)]) m_2) (
        bindP (callM M.call m_2 72 [(.i .i64 x0)]) fun v16 m_3 =>
        asI .i64 v16 fun x16 =>
        bindP (callM M.call m_3 71 [(.i .i64 x16)]) fun v17 m_4 =>
        asI .i64 v17 fun x17 =>
        forceB (ltI x1 x17) fun c20 =>
        cond c20 (
          finM m0.h.length (tupA [(.i .i64 0), (.i .i64 10)]) m_4) (
          finM m0.h.length (tupA [(.i .i64 x17), (.i .i64 0)]) m_4))))

theorem g39_ok {ro : List ABlk} {O : Caller} {M : Means} (hM : M.Ok ⟨F, O⟩ ro) {x0 x1 h r} (ho : O 39 [(.i .i64 x0), (.i .i64 x1)] h = none) (hr : g39 M ro x0 x1 ⟨h, h.length, h.length⟩ = some r) : callX ⟨F, O⟩ ro 39 [(.i .i64 x0), (.i .i64 x1)] h = some r := by
  refine callX_of (F := ⟨F, O⟩) (fn := fn39) (g := g39 M ro x0 x1) ho rfl rfl hr ?_
  clear ho
  clear hr
  intro m0 t0 ht hr
  have g0 : t0.get 0 = (.i .i64 x0) := ht 0
  have g1 : t0.get 1 = (.i .i64 x1) := ht 1
  clear ht
  unfold g39 at hr
  refine w_seq ?_
  refine w_ops ?_
  refine wo_step (v := (.i .i64 0)) (s_pure (p_mv rfl)) ?_
  refine wo_step (v := (.i .i64 0)) (s_pure (p_mv rfl)) ?_
  refine wo_nil ?_
  refine nx_norm ?_
  refine w_seq ?_
  refine w_seq ?_
  refine w_ops ?_
  refine wo_step (v := (.i .i64 x0)) (s_pure (p_mv g0)) ?_
  have hq := bindP_inv hr
  clear hr
  obtain ⟨v8, m_1, e8, hr⟩ := hq
  refine wo_step (v := v8) (s_bsl (qc rfl qn) e8) ?_
  have hq := bindP_inv hr
  clear hr
  obtain ⟨v9, m_2, e9, hr⟩ := hq
  have hq := asB_inv hr
  clear hr
  obtain ⟨c9, rfl, hr⟩ := hq
  refine wo_step (v := (.b c9)) (s_call (mc rfl mn) (callM_le hM.call e9)) ?_
  have hq := forceB_inv hr
  clear hr
  obtain ⟨c10, e10, hr⟩ := hq
  refine wo_step (v := (.b c10)) (s_pure ((p_not rfl).trans (cb e10))) ?_
  refine wo_nil ?_
  refine nx_norm ?_
  have hq := cond_inv hr
  clear hr
  rcases hq with ⟨rfl, hr⟩ | ⟨rfl, hr⟩
  · refine w_condT rfl ?_
    refine w_seq ?_
    refine w_ops ?_
    refine wo_step (v := (.i .i64 0)) (s_pure (p_mv rfl)) ?_
    refine wo_step (v := (.i .i64 4)) (s_pure (p_mv rfl)) ?_
    refine wo_nil ?_
    refine nx_norm ?_
    refine w_ret ?_
    refine nx_ret ?_
    exact qf ret_ok (rt rfl (rt rfl rn)) hr
  · refine w_condF rfl ?_
    refine w_skip ?_
    refine nx_norm ?_
    refine w_seq ?_
    refine w_seq ?_
    refine w_ops ?_
    refine wo_step (v := (.i .i64 x1)) (s_pure (p_mv g1)) ?_
    have hq := forceB_inv hr
    clear hr
    obtain ⟨c12, e12, hr⟩ := hq
    refine wo_step (v := (.b c12)) (s_pure (p_bin rfl rfl (b_lss.trans (cb e12)))) ?_
    refine wo_nil ?_
    refine nx_norm ?_
    have hq := cond_inv hr
    clear hr
    rcases hq with ⟨rfl, hr⟩ | ⟨rfl, hr⟩
    · refine w_condT rfl ?_
      refine w_seq ?_
      refine w_ops ?_
      refine wo_step (v := (.i .i64 0)) (s_pure (p_mv rfl)) ?_
      refine wo_step (v := (.i .i64 2)) (s_pure (p_mv rfl)) ?_
      refine wo_nil ?_
      refine nx_norm ?_
      refine w_ret ?_
      refine nx_ret ?_
      exact qf ret_ok (rt rfl (rt rfl rn)) hr
    · refine w_condF rfl ?_
      refine w_skip ?_
      refine nx_norm ?_
      refine w_seq ?_
      refine w_seq ?_
      refine w_ops ?_
      refine wo_step (v := (.i .i64 x0)) (s_pure (p_mv g0)) ?_
      have hq := forceB_inv hr
      clear hr
      obtain ⟨c14, e14, hr⟩ := hq
      refine wo_step (v := (.b c14)) (s_pure (p_bin rfl rfl (b_eql.trans (cb e14)))) ?_
      refine wo_nil ?_
      refine nx_norm ?_
      have hq := cond_inv hr
      clear hr
      rcases hq with ⟨rfl, hr⟩ | ⟨rfl, hr⟩
      · refine w_condT rfl ?_
        refine w_seq ?_
        refine w_ops ?_
        refine wo_step (v := (.i .i64 0)) (s_pure (p_mv rfl)) ?_
        refine wo_step (v := (.i .i64 10)) (s_pure (p_mv rfl)) ?_
        refine wo_nil ?_
        refine nx_norm ?_
        refine w_ret ?_
        refine nx_ret ?_
        exact qf ret_ok (rt rfl (rt rfl rn)) hr
      · refine w_condF rfl ?_
        refine w_skip ?_
        refine nx_norm ?_
        refine w_seq ?_
        refine w_ops ?_
        refine wo_step (v := (.i .i64 x0)) (s_pure (p_mv g0)) ?_
        have hq := bindP_inv hr
        clear hr
        obtain ⟨v16, m_3, e16, hr⟩ := hq
        have hq := asI_inv hr
        clear hr
        obtain ⟨x16, rfl, hr⟩ := hq
        refine wo_step (v := (.i .i64 x16)) (s_call (mc rfl mn) (callM_le hM.call e16)) ?_
        have hq := bindP_inv hr
        clear hr
        obtain ⟨v17, m_4, e17, hr⟩ := hq
        have hq := asI_inv hr
        clear hr
        obtain ⟨x17, rfl, hr⟩ := hq
        refine wo_step (v := (.i .i64 x17)) (s_call (mc rfl mn) (callM_le hM.call e17)) ?_
        refine wo_step (v := (.i .i64 x17)) (s_pure (p_mv rfl)) ?_
        refine wo_nil ?_
        refine nx_norm ?_
        refine w_seq ?_
        refine w_seq ?_
        refine w_ops ?_
        refine wo_step (v := (.i .i64 x17)) (s_pure (p_mv rfl)) ?_
        refine wo_step (v := (.i .i64 x1)) (s_pure (p_mv g1)) ?_
        have hq := forceB_inv hr
        clear hr
        obtain ⟨c20, e20, hr⟩ := hq
        refine wo_step (v := (.b c20)) (s_pure (p_bin rfl rfl (b_gtr.trans (cb e20)))) ?_
        refine wo_nil ?_
        refine nx_norm ?_
        have hq := cond_inv hr
        clear hr
        rcases hq with ⟨rfl, hr⟩ | ⟨rfl, hr⟩
        · refine w_condT rfl ?_
          refine w_seq ?_
          refine w_ops ?_
          refine wo_step (v := (.i .i64 0)) (s_pure (p_mv rfl)) ?_
          refine wo_step (v := (.i .i64 10)) (s_pure (p_mv rfl)) ?_
          refine wo_nil ?_
          refine nx_norm ?_
          refine w_ret ?_
          refine nx_ret ?_
          exact qf ret_ok (rt rfl (rt rfl rn)) hr
        · refine w_condF rfl ?_
          refine w_skip ?_
          refine nx_norm ?_
          refine w_seq ?_
          refine w_ops ?_
          refine wo_step (v := (.i .i64 x17)) (s_pure (p_mv rfl)) ?_
          refine wo_step (v := (.i .i64 x17)) (s_pure (p_mv rfl)) ?_
          refine wo_step (v := (.i .i64 0)) (s_pure (p_mv rfl)) ?_
          refine wo_nil ?_
          refine nx_norm ?_
          refine w_ret ?_
          exact qf ret_ok (rt rfl (rt rfl rn)) hr

/- dibber/dibberlaw09.number -/

def g45 (M : Means) (ro : List ABlk) (x0 : Int) (m0 : Mm) : Option (AVal × Heap × Nat × Nat) :=
  forceI (Int.tmod x0 1152921504606846977) fun x4 =>
  forceI (wr .i64 x4) fun x5 =>
  finM m0.h.length (tupA [(.i .i64 x5)]) m0

theorem g45_ok {ro : List ABlk} {O : Caller} {M : Means} (hM : M.Ok ⟨F, O⟩ ro) {x0 h r} (ho : O 45 [(.i .u64 x0)] h = none) (hr : g45 M ro x0 ⟨h, h.length, h.length⟩ = some r) : callX ⟨F, O⟩ ro 45 [(.i .u64 x0)] h = some r := by
  refine callX_of (F := ⟨F, O⟩) (fn := fn45) (g := g45 M ro x0) ho rfl rfl hr ?_
  clear ho
  clear hr
  intro m0 t0 ht hr
  have g0 : t0.get 0 = (.i .u64 x0) := ht 0
  clear ht
  unfold g45 at hr
  refine w_seq ?_
  refine w_ops ?_
  refine wo_step (v := (.i .i64 0)) (s_pure (p_mv rfl)) ?_
  refine wo_nil ?_
  refine nx_norm ?_
  refine w_seq ?_
  refine w_ops ?_
  refine wo_step (v := (.i .u64 x0)) (s_pure (p_mv g0)) ?_
  have hq := forceI_inv hr
  clear hr
  obtain ⟨x4, e4, hr⟩ := hq
  refine wo_step (v := (.i .u64 x4)) (s_pure (p_bin rfl rfl ((b_rem rfl).trans (ci e4)))) ?_
  have hq := forceI_inv hr
  clear hr
  obtain ⟨x5, e5, hr⟩ := hq
  refine wo_step (v := (.i .i64 x5)) (s_pure ((p_conv rfl).trans (ci e5))) ?_
  refine wo_step (v := (.i .i64 x5)) (s_pure (p_mv rfl)) ?_
  refine wo_nil ?_
  refine nx_norm ?_
  refine w_ret ?_
  exact qf ret_ok (rt rfl rn) hr

/- dibber/dibberlaw09.zeros -/
abbrev g48_I0 (s0 : List UInt8) (m0 : Mm) (s : Int) (m1 : Mm) (t1 : Tr) : Prop :=
  match s with
  | x3 => m0 = m1 ∧ t1.get 3 = (.i .i64 x3) ∧ t1.get 0 = (.s s0)
abbrev g48_J0 (s0 : List UInt8) (m0 : Mm) (o : Int) (e : AExit) (m1 : Mm) (t1 : Tr) : Prop :=
  match o with
  | y3 => e = (.exit 0) ∧ m0 = m1 ∧ t1.get 3 = (.i .i64 y3)
abbrev g48_J1 (s0 : List UInt8) (x3 : Int) (m0 : Mm) (o : Bool) (m1 : Mm) (t1 : Tr) : Prop :=
  match o with
  | c17 => m0 = m1 ∧ t1.get 17 = (.b c17) ∧ t1.get 0 = (.s s0) ∧ t1.get 3 = (.i .i64 x3)
def g48_b0 (M : Means) (ro : List ABlk) (s0 : List UInt8) (m0 : Mm) (x3 : Int) : Option ((Int) ⊕ (Int)) :=
  bindO (evP .e (.len true (.c (.s s0)))) fun v6 =>
  asI .i64 v6 fun x6 =>
  forceB (ltI x3 x6) fun c7 =>
  bindO (cond c7 (
    bindO (evP .e (.len true (.c (.s s0)))) fun v11 =>
    asI .i64 v11 fun x11 =>
    forceI (wr .i64 (x11 - 1)) fun x12 =>
    forceI (wr .i64 (x12 - x3)) fun x14 =>
    bindO (evP .e (.ixStr (.c (.s s0)) (.c (.i .i64 x14)))) fun v15 =>
    asI .u8 v15 fun x15 =>
    forceB (eqI x15 48) fun c16 =>
    some c16) (
    some false)) fun c17 =>
  cond c17 (
    forceI (wr .i64 (x3 + 1)) fun x19 =>
    some (.inl x19)) (
    some (.inr x3))
def g48 (M : Means) (ro : List ABlk) (s0 : List UInt8) (m0 : Mm) : Option (AVal × Heap × Nat × Nat) :=
  bindO (M.loop (S := Int) (R := Int) (fun s => g48_b0 M ro s0 m0 s) 0) fun x3_1 =>
  finM m0.h.length (tupA [(.i .i64 x3_1)]) m0

theorem g48_ok {ro : List ABlk} {O : Caller} {M : Means} (hM : M.Ok ⟨F, O⟩ ro) {s0 h r} (ho : O 48 [(.s s0)] h = none) (hr : g48 M ro s0 ⟨h, h.length, h.length⟩ = some r) : callX ⟨F, O⟩ ro 48 [(.s s0)] h = some r := by
  refine callX_of (F := ⟨F, O⟩) (fn := fn48) (g := g48 M ro s0) ho rfl rfl hr ?_
  clear ho
  clear hr
  intro m0 t0 ht hr
  have g0 : t0.get 0 = (.s s0) := ht 0
  clear ht
  unfold g48 at hr
  refine w_seq ?_
  refine w_ops ?_
  refine wo_step (v := (.i .i64 0)) (s_pure (p_mv rfl)) ?_
  refine wo_nil ?_
  refine nx_norm ?_
  refine w_seq ?_
  refine w_ops ?_
  refine wo_step (v := (.i .i64 0)) (s_pure (p_mv rfl)) ?_
  refine wo_nil ?_
  refine nx_norm ?_
  refine w_seq ?_
  refine w_block ?_
  have hq := bindO_inv hr
  clear hr
  obtain ⟨o_1, hl, hr⟩ := hq
  obtain ⟨n, hl⟩ := hM.loop _ _ _ hl
  refine jp_mono (w_loop _ (g48_I0 s0 m0) (g48_J0 s0 m0) ?_ n _ _ _ _ hl ⟨rfl, gl rfl, gl g0⟩) ?_
  · clear hr hl
    intro s mm_2 t_1 o hi hr
    obtain ⟨x3, hs⟩ : ∃ z, z = s := ⟨_, rfl⟩
    subst hs
    obtain ⟨rfl, g3, g0⟩ := hi
    unfold g48_b0 at hr
    refine w_seq ?_
    refine w_seq ?_
    refine w_ops ?_
    refine wo_step (v := (.i .i64 x3)) (s_pure (p_mv g3)) ?_
    refine wo_step (v := (.s s0)) (s_pure (p_mv g0)) ?_
    have hq := bindO_inv hr
    clear hr
    obtain ⟨v6, e6, hr⟩ := hq
    have hq := asI_inv hr
    clear hr
    obtain ⟨x6, rfl, hr⟩ := hq
    refine wo_step (v := (.i .i64 x6)) (s_pure (o_len rfl e6)) ?_
    have hq := forceB_inv hr
    clear hr
    obtain ⟨c7, e7, hr⟩ := hq
    refine wo_step (v := (.b c7)) (s_pure (p_bin rfl rfl (b_lss.trans (cb e7)))) ?_
    refine wo_step (v := (.b c7)) (s_pure (p_mv rfl)) ?_
    have hq := bindO_inv hr
    clear hr
    obtain ⟨o, hr, hk⟩ := hq
    refine wo_join 9 (g48_J1 s0 x3 m0 o) ?_ ?_
    · clear hk
      have hq := cond_inv hr
      clear hr
      rcases hq with ⟨rfl, hr⟩ | ⟨rfl, hr⟩
      · refine wo_take (v := (.s s0)) rfl (s_pure (p_mv g0)) ?_
        refine wo_take (v := (.s s0)) rfl (s_pure (p_mv g0)) ?_
        have hq := bindO_inv hr
        clear hr
        obtain ⟨v11, e11, hr⟩ := hq
        have hq := asI_inv hr
        clear hr
        obtain ⟨x11, rfl, hr⟩ := hq
        refine wo_take (v := (.i .i64 x11)) rfl (s_pure (o_len rfl e11)) ?_
        have hq := forceI_inv hr
        clear hr
        obtain ⟨x12, e12, hr⟩ := hq
        refine wo_take (v := (.i .i64 x12)) rfl (s_pure (p_bin rfl rfl (b_sub.trans (ci e12)))) ?_
        refine wo_take (v := (.i .i64 x3)) rfl (s_pure (p_mv g3)) ?_
        have hq := forceI_inv hr
        clear hr
        obtain ⟨x14, e14, hr⟩ := hq
        refine wo_take (v := (.i .i64 x14)) rfl (s_pure (p_bin rfl rfl (b_sub.trans (ci e14)))) ?_
        have hq := bindO_inv hr
        clear hr
        obtain ⟨v15, e15, hr⟩ := hq
        have hq := asI_inv hr
        clear hr
        obtain ⟨x15, rfl, hr⟩ := hq
        refine wo_take (v := (.i .u8 x15)) rfl (s_pure (o_ixStr rfl rfl e15)) ?_
        have hq := forceB_inv hr
        clear hr
        obtain ⟨c16, e16, hr⟩ := hq
        refine wo_take (v := (.b c16)) rfl (s_pure (p_bin rfl rfl (b_eql.trans (cb e16)))) ?_
        refine wo_step (v := (.b c16)) (s_pure (p_pickT rfl rfl)) ?_
        refine wo_nil ?_
        cases hr
        exact ⟨_, _, rfl, rfl, gl rfl, gl g0, gl g3⟩
      · refine wo_skip (v := (.b false)) rfl rfl ?_
        refine wo_skip (v := (.b false)) rfl rfl ?_
        refine wo_skip (v := (.b false)) rfl rfl ?_
        refine wo_skip (v := (.b false)) rfl rfl ?_
        refine wo_skip (v := (.b false)) rfl rfl ?_
        refine wo_skip (v := (.b false)) rfl rfl ?_
        refine wo_skip (v := (.b false)) rfl rfl ?_
        refine wo_skip (v := (.b false)) rfl rfl ?_
        refine wo_step (v := (.b false)) (s_pure (p_pickF rfl rfl)) ?_
        refine wo_nil ?_
        cases hr
        exact ⟨_, _, rfl, rfl, gl rfl, gl g0, gl g3⟩
    · clear hr
      have hr := hk
      clear hk
      obtain ⟨c17, ho⟩ : ∃ z, z = o := ⟨_, rfl⟩
      subst ho
      rintro mm t_2 ⟨rfl, g17, g0, g3⟩
      refine wo_nil ?_
      refine nx_norm ?_
      have hq := cond_inv hr
      clear hr
      rcases hq with ⟨rfl, hr⟩ | ⟨rfl, hr⟩
      · refine w_condT g17 ?_
        refine w_skip ?_
        refine nx_norm ?_
        refine w_block ?_
        refine w_ops ?_
        refine wo_step (v := (.i .i64 x3)) (s_pure (p_mv g3)) ?_
        have hq := forceI_inv hr
        clear hr
        obtain ⟨x19, e19, hr⟩ := hq
        refine wo_step (v := (.i .i64 x19)) (s_pure (p_bin rfl rfl (b_add.trans (ci e19)))) ?_
        refine wo_step (v := (.i .i64 x19)) (s_pure (p_mv rfl)) ?_
        refine wo_nil ?_
        refine bk_norm ?_
        cases hr
        exact ⟨_, _, rfl, rfl, rfl, gl rfl, gl g0⟩
      · refine w_condF g17 ?_
        refine w_exit ?_
        refine nx_exit ?_
        cases hr
        exact ⟨_, _, rfl, ne_norm_exit, rfl, rfl, gl g3⟩
  · obtain ⟨x3_1, ho⟩ : ∃ z, z = o_1 := ⟨_, rfl⟩
    subst ho
    rintro _ mm_1 t_3 ⟨rfl, rfl, g3⟩
    refine bk_hit ?_
    refine nx_norm ?_
    refine w_seq ?_
    refine w_ops ?_
    refine wo_step (v := (.i .i64 x3_1)) (s_pure (p_mv g3)) ?_
    refine wo_step (v := (.i .i64 x3_1)) (s_pure (p_mv rfl)) ?_
    refine wo_nil ?_
    refine nx_norm ?_
    refine w_ret ?_
    exact qf ret_ok (rt rfl rn) hr

/- dibber/dibberlaw09.wins -/
abbrev g49_J0 (x0 : Int) (x11 : Int) (v2 : AVal) (m0 : Mm) (o : Bool) (m1 : Mm) (t1 : Tr) : Prop :=
  match o with
  | c17 => m0 = m1 ∧ t1.get 17 = (.b c17) ∧ t1.get 0 = (.i .i64 x0) ∧ t1.get 1 = (.i .i64 x11) ∧ t1.get 2 = v2
abbrev g49_I1 (x0 : Int) (x11 : Int) (v2 : AVal) (s : Int × Int × Mm) (m1 : Mm) (t1 : Tr) : Prop :=
  match s with
  | (x7, x8, m_1) => m_1 = m1 ∧ t1.get 7 = (.i .i64 x7) ∧ t1.get 8 = (.i .i64 x8) ∧ t1.get 0 = (.i .i64 x0) ∧ t1.get 1 = (.i .i64 x11) ∧ t1.get 2 = v2
abbrev g49_J1 (x0 : Int) (x11 : Int) (v2 : AVal) (o : (Int × Mm)) (e : AExit) (m1 : Mm) (t1 : Tr) : Prop :=
  match o with
  | (y7, mo) => e = (.exit 0) ∧ mo = m1 ∧ t1.get 7 = (.i .i64 y7) ∧ t1.get 0 = (.i .i64 x0) ∧ t1.get 1 = (.i .i64 x11) ∧ t1.get 2 = v2
abbrev g49_J2 (x0 : Int) (x11 : Int) (v2 : AVal) (x7 : Int) (x8 : Int) (m_1 : Mm) (o : Bool) (m1 : Mm) (t1 : Tr) : Prop :=
  match o with
  | c39 => m_1 = m1 ∧ t1.get 39 = (.b c39) ∧ t1.get 0 = (.i .i64 x0) ∧ t1.get 1 = (.i .i64 x11) ∧ t1.get 2 = v2 ∧ t1.get 7 = (.i .i64 x7) ∧ t1.get 8 = (.i .i64 x8)
abbrev g49_J3 (x0 : Int) (x11 : Int) (v2 : AVal) (x8 : Int) (m_2 : Mm) (o : Int) (e : AExit) (m1 : Mm) (t1 : Tr) : Prop :=
  match o with
  | y7 => e = .norm ∧ m_2 = m1 ∧ t1.get 7 = (.i .i64 y7) ∧ t1.get 0 = (.i .i64 x0) ∧ t1.get 1 = (.i .i64 x11) ∧ t1.get 2 = v2 ∧ t1.get 8 = (.i .i64 x8)
def g49_b1 (M : Means) (ro : List ABlk) (x0 : Int) (x11 : Int) (v2 : AVal) (x7 : Int) (x8 : Int) (m_1 : Mm) : Option ((Int × Int × Mm) ⊕ ((Int × Mm))) :=
  forceB (!ltI x11 x8) fun c35 =>
  bindO (cond c35 (
    forceB (eqI x7 0) fun c38 =>
    some c38) (
    some false)) fun c39 =>
  cond c39 (
    forceI (wr .i64 (x0 - x8)) fun x44 =>
    forceI (wr .i64 (2 * x8)) fun x46 =>
    bindP (callM M.call m_1 49 [(.i .i64 x44), (.i .i64 x46), v2]) fun v48 m_2 =>
    asI .i64 v48 fun x48 =>
    forceB (eqI x48 0) fun c49 =>
    bindO (α := Int) (
      cond c49 (
        some x8) (
        some x7)) fun x7_1 =>
    forceI (wr .i64 (x8 + 1)) fun x41 =>
    some (.inl (x7_1, x41, m_2))) (
    some (.inr (x7, m_1)))
def g49 (M : Means) (ro : List ABlk) (x0 : Int) (x1 : Int) (v2 : AVal) (m0 : Mm) : Option (AVal × Heap × Nat × Nat) :=
  forceI (mxV false x1 x0) fun x11 =>
  forceB (eqI x0 0) fun c13 =>
  bindO (cond c13 (
    some true) (
    forceB (eqI x11 0) fun c16 =>
    some c16)) fun c17 =>
  cond c17 (
    finM m0.h.length (tupA [(.i .i64 0)]) m0) (
    bindO (evP .e (.ixS 1 (.c v2) (.c (.i .i64 x0)))) fun v20 =>
    bindO (ldM ro m0 true 1 v20) fun v21 =>
    bindO (evP .e (.ixS 1 (.c v21) (.c (.i .i64 x11)))) fun v23 =>
    bindO (ldM ro m0 true 1 v23) fun v24 =>
    asI .i64 v24 fun x24 =>
    forceB (!ltI x24 0) fun c25 =>
    cond c25 (
      bindO (evP .e (.ixS 1 (.c v2) (.c (.i .i64 x0)))) fun v28 =>
      bindO (ldM ro m0 true 1 v28) fun v29 =>
      bindO (evP .e (.ixS 1 (.c v29) (.c (.i .i64 x11)))) fun v31 =>
      bindO (ldM ro m0 true 1 v31) fun v32 =>
      asI .i64 v32 fun x32 =>
      finM m0.h.length (tupA [(.i .i64 x32)]) m0) (
      bindO (M.loop (S := Int × Int × Mm) (R := (Int × Mm)) (fun s => g49_b1 M ro x0 x11 v2 s.1 s.2.1 s.2.2) (0, 1, m0)) fun ⟨x7_2, m_3⟩ =>
      bindO (evP .e (.ixS 1 (.c v2) (.c (.i .i64 x0)))) fun v53 =>
      bindO (ldM ro m_3 true 1 v53) fun v54 =>
      bindO (evP .e (.ixS 1 (.c v54) (.c (.i .i64 x11)))) fun v57 =>
      bindP (stepM ro m_3 (.st 1 (.c v57) (.c (.i .i64 x7_2)))) fun vn m_4 =>
      finM m0.h.length (tupA [(.i .i64 x7_2)]) m_4))

theorem g49_ok {ro : List ABlk} {O : Caller} {M : Means} (hM : M.Ok ⟨F, O⟩ ro) {x0 x1 v2 h r} (ho : O 49 [(.i .i64 x0), (.i .i64 x1), v2] h = none) (hr : g49 M ro x0 x1 v2 ⟨h, h.length, h.length⟩ = some r) : callX ⟨F, O⟩ ro 49 [(.i .i64 x0), (.i .i64 x1), v2] h = some r := by
  refine callX_of (F := ⟨F, O⟩) (fn := fn49) (g := g49 M ro x0 x1 v2) ho rfl rfl hr ?_
  clear ho
  clear hr
  intro m0 t0 ht hr
  have g0 : t0.get 0 = (.i .i64 x0) := ht 0
  have g1 : t0.get 1 = (.i .i64 x1) := ht 1
  have g2 : t0.get 2 = v2 := ht 2
  clear ht
  unfold g49 at hr
  refine w_seq ?_
  refine w_ops ?_
  refine wo_step (v := (.i .i64 0)) (s_pure (p_mv rfl)) ?_
  refine wo_nil ?_
  refine nx_norm ?_
  refine w_seq ?_
  refine w_ops ?_
  refine wo_step (v := (.i .i64 x1)) (s_pure (p_mv g1)) ?_
  refine wo_step (v := (.i .i64 x0)) (s_pure (p_mv g0)) ?_
  have hq := forceI_inv hr
  clear hr
  obtain ⟨x11, e11, hr⟩ := hq
  refine wo_step (v := (.i .i64 x11)) (s_pure ((p_mx rfl rfl).trans (ci e11))) ?_
  refine wo_step (v := (.i .i64 x11)) (s_pure (p_mv rfl)) ?_
  refine wo_nil ?_
  refine nx_norm ?_
  refine w_seq ?_
  refine w_seq ?_
  refine w_ops ?_
  refine wo_step (v := (.i .i64 x0)) (s_pure (p_mv g0)) ?_
  have hq := forceB_inv hr
  clear hr
  obtain ⟨c13, e13, hr⟩ := hq
  refine wo_step (v := (.b c13)) (s_pure (p_bin rfl rfl (b_eql.trans (cb e13)))) ?_
  refine wo_step (v := (.b c13)) (s_pure (p_mv rfl)) ?_
  have hq := bindO_inv hr
  clear hr
  obtain ⟨o, hr, hk⟩ := hq
  refine wo_join 3 (g49_J0 x0 x11 v2 m0 o) ?_ ?_
  · clear hk
    have hq := cond_inv hr
    clear hr
    rcases hq with ⟨rfl, hr⟩ | ⟨rfl, hr⟩
    · refine wo_skip (v := (.b true)) rfl rfl ?_
      refine wo_skip (v := (.b true)) rfl rfl ?_
      refine wo_step (v := (.b true)) (s_pure (p_pickT rfl rfl)) ?_
      refine wo_nil ?_
      cases hr
      exact ⟨_, _, rfl, rfl, gl rfl, gl g0, gl rfl, gl g2⟩
    · refine wo_take (v := (.i .i64 x11)) rfl (s_pure (p_mv rfl)) ?_
      have hq := forceB_inv hr
      clear hr
      obtain ⟨c16, e16, hr⟩ := hq
      refine wo_take (v := (.b c16)) rfl (s_pure (p_bin rfl rfl (b_eql.trans (cb e16)))) ?_
      refine wo_step (v := (.b c16)) (s_pure (p_pickF rfl rfl)) ?_
      refine wo_nil ?_
      cases hr
      exact ⟨_, _, rfl, rfl, gl rfl, gl g0, gl rfl, gl g2⟩
  · clear hr
    have hr := hk
    clear hk
    obtain ⟨c17, ho⟩ : ∃ z, z = o := ⟨_, rfl⟩
    subst ho
    rintro mm t_1 ⟨rfl, g17, g0, g1, g2⟩
    refine wo_nil ?_
    refine nx_norm ?_
    have hq := cond_inv hr
    clear hr
    rcases hq with ⟨rfl, hr⟩ | ⟨rfl, hr⟩
    · refine w_condT g17 ?_
      refine w_seq ?_
      refine w_ops ?_
      refine wo_step (v := (.i .i64 0)) (s_pure (p_mv rfl)) ?_
      refine wo_nil ?_
      refine nx_norm ?_
      refine w_ret ?_
      refine nx_ret ?_
      exact qf ret_ok (rt rfl rn) hr
    · refine w_condF g17 ?_
      refine w_skip ?_
      refine nx_norm ?_
      refine w_seq ?_
      refine w_seq ?_
      refine w_ops ?_
      refine wo_step (v := v2) (s_pure (p_mv g2)) ?_
      refine wo_step (v := (.i .i64 x0)) (s_pure (p_mv g0)) ?_
      have hq := bindO_inv hr
      clear hr
      obtain ⟨v20, e20, hr⟩ := hq
      refine wo_step (v := v20) (s_pure (o_ixS rfl rfl e20)) ?_
      have hq := bindO_inv hr
      clear hr
      obtain ⟨v21, e21, hr⟩ := hq
      refine wo_step (v := v21) (s_ld rfl e21) ?_
      refine wo_step (v := (.i .i64 x11)) (s_pure (p_mv g1)) ?_
      have hq := bindO_inv hr
      clear hr
      obtain ⟨v23, e23, hr⟩ := hq
      refine wo_step (v := v23) (s_pure (o_ixS rfl rfl e23)) ?_
      have hq := bindO_inv hr
      clear hr
      obtain ⟨v24, e24, hr⟩ := hq
      have hq := asI_inv hr
      clear hr
      obtain ⟨x24, rfl, hr⟩ := hq
      refine wo_step (v := (.i .i64 x24)) (s_ld rfl e24) ?_
      have hq := forceB_inv hr
      clear hr
      obtain ⟨c25, e25, hr⟩ := hq
      refine wo_step (v := (.b c25)) (s_pure (p_bin rfl rfl (b_geq.trans (cb e25)))) ?_
      refine wo_nil ?_
      refine nx_norm ?_
      have hq := cond_inv hr
      clear hr
      rcases hq with ⟨rfl, hr⟩ | ⟨rfl, hr⟩
      · refine w_condT rfl ?_
        refine w_seq ?_
        refine w_ops ?_
        refine wo_step (v := v2) (s_pure (p_mv g2)) ?_
        refine wo_step (v := (.i .i64 x0)) (s_pure (p_mv g0)) ?_
        have hq := bindO_inv hr
        clear hr
        obtain ⟨v28, e28, hr⟩ := hq
        refine wo_step (v := v28) (s_pure (o_ixS rfl rfl e28)) ?_
        have hq := bindO_inv hr
        clear hr
        obtain ⟨v29, e29, hr⟩ := hq
        refine wo_step (v := v29) (s_ld rfl e29) ?_
        refine wo_step (v := (.i .i64 x11)) (s_pure (p_mv g1)) ?_
        have hq := bindO_inv hr
        clear hr
        obtain ⟨v31, e31, hr⟩ := hq
        refine wo_step (v := v31) (s_pure (o_ixS rfl rfl e31)) ?_
        have hq := bindO_inv hr
        clear hr
        obtain ⟨v32, e32, hr⟩ := hq
        have hq := asI_inv hr
        clear hr
        obtain ⟨x32, rfl, hr⟩ := hq
        refine wo_step (v := (.i .i64 x32)) (s_ld rfl e32) ?_
        refine wo_step (v := (.i .i64 x32)) (s_pure (p_mv rfl)) ?_
        refine wo_nil ?_
        refine nx_norm ?_
        refine w_ret ?_
        refine nx_ret ?_
        exact qf ret_ok (rt rfl rn) hr
      · refine w_condF rfl ?_
        refine w_skip ?_
        refine nx_norm ?_
        refine w_seq ?_
        refine w_ops ?_
        refine wo_step (v := (.i .i64 0)) (s_pure (p_mv rfl)) ?_
        refine wo_nil ?_
        refine nx_norm ?_
        refine w_seq ?_
        refine w_seq ?_
        refine w_ops ?_
        refine wo_step (v := (.i .i64 1)) (s_pure (p_mv rfl)) ?_
        refine wo_nil ?_
        refine nx_norm ?_
        refine w_block ?_
        have hq := bindO_inv hr
        clear hr
        obtain ⟨o_3, hl, hr⟩ := hq
        obtain ⟨n, hl⟩ := hM.loop _ _ _ hl
        refine jp_mono (w_loop _ (g49_I1 x0 x11 v2) (g49_J1 x0 x11 v2) ?_ n _ _ _ _ hl ⟨rfl, gl rfl, gl rfl, gl g0, gl g1, gl g2⟩) ?_
        · clear hr hl
          intro s mm_4 t_2 o hi hr
          obtain ⟨x7, x8, m_1⟩ := s
          obtain ⟨rfl, g7, g8, g0, g1, g2⟩ := hi
          unfold g49_b1 at hr
          refine w_seq ?_
          refine w_seq ?_
          refine w_ops ?_
          refine wo_step (v := (.i .i64 x8)) (s_pure (p_mv g8)) ?_
          refine wo_step (v := (.i .i64 x11)) (s_pure (p_mv g1)) ?_
          have hq := forceB_inv hr
          clear hr
          obtain ⟨c35, e35, hr⟩ := hq
          refine wo_step (v := (.b c35)) (s_pure (p_bin rfl rfl (b_leq.trans (cb e35)))) ?_
          refine wo_step (v := (.b c35)) (s_pure (p_mv rfl)) ?_
          have hq := bindO_inv hr
          clear hr
          obtain ⟨o_1, hr, hk⟩ := hq
          refine wo_join 3 (g49_J2 x0 x11 v2 x7 x8 m_1 o_1) ?_ ?_
          · clear hk
            have hq := cond_inv hr
            clear hr
            rcases hq with ⟨rfl, hr⟩ | ⟨rfl, hr⟩
            · refine wo_take (v := (.i .i64 x7)) rfl (s_pure (p_mv g7)) ?_
              have hq := forceB_inv hr
              clear hr
              obtain ⟨c38, e38, hr⟩ := hq
              refine wo_take (v := (.b c38)) rfl (s_pure (p_bin rfl rfl (b_eql.trans (cb e38)))) ?_
              refine wo_step (v := (.b c38)) (s_pure (p_pickT rfl rfl)) ?_
              refine wo_nil ?_
              cases hr
              exact ⟨_, _, rfl, rfl, gl rfl, gl g0, gl g1, gl g2, gl g7, gl g8⟩
            · refine wo_skip (v := (.b false)) rfl rfl ?_
              refine wo_skip (v := (.b false)) rfl rfl ?_
              refine wo_step (v := (.b false)) (s_pure (p_pickF rfl rfl)) ?_
              refine wo_nil ?_
              cases hr
              exact ⟨_, _, rfl, rfl, gl rfl, gl g0, gl g1, gl g2, gl g7, gl g8⟩
          · clear hr
            have hr := hk
            clear hk
            obtain ⟨c39, ho⟩ : ∃ z, z = o_1 := ⟨_, rfl⟩
            subst ho
            rintro mm_1 t_3 ⟨rfl, g39, g0, g1, g2, g7, g8⟩
            refine wo_nil ?_
            refine nx_norm ?_
            have hq := cond_inv hr
            clear hr
            rcases hq with ⟨rfl, hr⟩ | ⟨rfl, hr⟩
            · refine w_condT g39 ?_
              refine w_skip ?_
              refine nx_norm ?_
              refine w_seq ?_
              refine w_block ?_
              refine w_seq ?_
              refine w_ops ?_
              refine wo_step (v := (.i .i64 x0)) (s_pure (p_mv g0)) ?_
              refine wo_step (v := (.i .i64 x8)) (s_pure (p_mv g8)) ?_
              have hq := forceI_inv hr
              clear hr
              obtain ⟨x44, e44, hr⟩ := hq
              refine wo_step (v := (.i .i64 x44)) (s_pure (p_bin rfl rfl (b_sub.trans (ci e44)))) ?_
              refine wo_step (v := (.i .i64 x8)) (s_pure (p_mv g8)) ?_
              have hq := forceI_inv hr
              clear hr
              obtain ⟨x46, e46, hr⟩ := hq
              refine wo_step (v := (.i .i64 x46)) (s_pure (p_bin rfl rfl (b_mul.trans (ci e46)))) ?_
              refine wo_step (v := v2) (s_pure (p_mv g2)) ?_
              have hq := bindP_inv hr
              clear hr
              obtain ⟨v48, m_2, e48, hr⟩ := hq
              have hq := asI_inv hr
              clear hr
              obtain ⟨x48, rfl, hr⟩ := hq
              refine wo_step (v := (.i .i64 x48)) (s_call (mc rfl (mc rfl (mc rfl mn))) (callM_le hM.call e48)) ?_
              have hq := forceB_inv hr
              clear hr
              obtain ⟨c49, e49, hr⟩ := hq
              refine wo_step (v := (.b c49)) (s_pure (p_bin rfl rfl (b_eql.trans (cb e49)))) ?_
              refine wo_nil ?_
              refine nx_norm ?_
              have hq := bindO_inv hr
              clear hr
              obtain ⟨o_2, hr, hk⟩ := hq
              refine jp_mono (J := g49_J3 x0 x11 v2 x8 m_2 o_2) ?_ ?_
              · clear hk
                have hq := cond_inv hr
                clear hr
                rcases hq with ⟨rfl, hr⟩ | ⟨rfl, hr⟩
                · refine w_condT rfl ?_
                  refine w_ops ?_
                  refine wo_step (v := (.i .i64 x8)) (s_pure (p_mv g8)) ?_
                  refine wo_step (v := (.i .i64 x8)) (s_pure (p_mv rfl)) ?_
                  refine wo_nil ?_
                  cases hr
                  exact ⟨_, _, rfl, rfl, rfl, gl rfl, gl g0, gl g1, gl g2, gl g8⟩
                · refine w_condF rfl ?_
                  refine w_skip ?_
                  cases hr
                  exact ⟨_, _, rfl, rfl, rfl, gl g7, gl g0, gl g1, gl g2, gl g8⟩
              · clear hr
                have hr := hk
                clear hk
                obtain ⟨x7_1, ho⟩ : ∃ z, z = o_2 := ⟨_, rfl⟩
                subst ho
                rintro _ mm_2 t_4 ⟨rfl, rfl, g7, g0, g1, g2, g8⟩
                refine bk_norm ?_
                refine nx_norm ?_
                refine w_ops ?_
                refine wo_step (v := (.i .i64 x8)) (s_pure (p_mv g8)) ?_
                have hq := forceI_inv hr
                clear hr
                obtain ⟨x41, e41, hr⟩ := hq
                refine wo_step (v := (.i .i64 x41)) (s_pure (p_bin rfl rfl (b_add.trans (ci e41)))) ?_
                refine wo_step (v := (.i .i64 x41)) (s_pure (p_mv rfl)) ?_
                refine wo_nil ?_
                cases hr
                exact ⟨_, _, rfl, rfl, rfl, gl g7, gl rfl, gl g0, gl g1, gl g2⟩
            · refine w_condF g39 ?_
              refine w_exit ?_
              refine nx_exit ?_
              cases hr
              exact ⟨_, _, rfl, ne_norm_exit, rfl, rfl, gl g7, gl g0, gl g1, gl g2⟩
        · obtain ⟨x7_2, m_3⟩ := o_3
          rintro _ mm_3 t_5 ⟨rfl, rfl, g7, g0, g1, g2⟩
          refine bk_hit ?_
          refine nx_norm ?_
          refine w_seq ?_
          refine w_ops ?_
          refine wo_step (v := v2) (s_pure (p_mv g2)) ?_
          refine wo_step (v := (.i .i64 x0)) (s_pure (p_mv g0)) ?_
          have hq := bindO_inv hr
          clear hr
          obtain ⟨v53, e53, hr⟩ := hq
          refine wo_step (v := v53) (s_pure (o_ixS rfl rfl e53)) ?_
          have hq := bindO_inv hr
          clear hr
          obtain ⟨v54, e54, hr⟩ := hq
          refine wo_step (v := v54) (s_ld rfl e54) ?_
          refine wo_step (v := (.i .i64 x11)) (s_pure (p_mv g1)) ?_
          refine wo_step (v := (.i .i64 x7_2)) (s_pure (p_mv g7)) ?_
          have hq := bindO_inv hr
          clear hr
          obtain ⟨v57, e57, hr⟩ := hq
          refine wo_step (v := v57) (s_pure (o_ixS rfl rfl e57)) ?_
          have hq := bindP_inv hr
          clear hr
          obtain ⟨vn, m_4, en, hr⟩ := hq
          refine wo_stepN (s_st rfl rfl en) ?_
          refine wo_nil ?_
          refine nx_norm ?_
          refine w_seq ?_
          refine w_ops ?_
          refine wo_step (v := (.i .i64 x7_2)) (s_pure (p_mv g7)) ?_
          refine wo_step (v := (.i .i64 x7_2)) (s_pure (p_mv rfl)) ?_
          refine wo_nil ?_
          refine nx_norm ?_
          refine w_ret ?_
          exact qf ret_ok (rt rfl rn) hr

/- dibber/seed.areNumbers -/
abbrev g51_I0 (v0 : AVal) (x6 : Int) (m0 : Mm) (s : Int) (m1 : Mm) (t1 : Tr) : Prop :=
  match s with
  | x7 => m0 = m1 ∧ t1.get 7 = (.i .i64 x7) ∧ t1.get 5 = v0 ∧ t1.get 6 = (.i .i64 x6)
abbrev g51_J0 (v0 : AVal) (x6 : Int) (m0 : Mm) (o : (Unit ⊕ Bool)) (e : AExit) (m1 : Mm) (t1 : Tr) : Prop :=
  match o with
  | (.inl _) => e = (.exit 0) ∧ m0 = m1
  | (.inr y2) => e = .ret ∧ m0 = m1 ∧ t1.get 2 = (.b y2)
abbrev g51_J1 (v0 : AVal) (x6 : Int) (x7 : Int) (m0 : Mm) (o : Bool) (m1 : Mm) (t1 : Tr) : Prop :=
  match o with
  | c16 => m0 = m1 ∧ t1.get 16 = (.b c16) ∧ t1.get 5 = v0 ∧ t1.get 6 = (.i .i64 x6) ∧ t1.get 7 = (.i .i64 x7)
def g51_b0 (M : Means) (ro : List ABlk) (v0 : AVal) (x6 : Int) (m0 : Mm) (x7 : Int) : Option ((Int) ⊕ ((Unit ⊕ Bool))) :=
  forceB (ltI x7 x6) fun c8 =>
  cond c8 (
    bindO (evP .e (.ixS 1 (.c v0) (.c (.i .i64 x7)))) fun v9 =>
    bindO (ldM ro m0 true 1 v9) fun v10 =>
    asI .i64 v10 fun x10 =>
    forceB (ltI x10 0) fun c12 =>
    bindO (cond c12 (
      some true) (
      forceB (ltI 1152921504606846976 x10) fun c15 =>
      some c15)) fun c16 =>
    cond c16 (
      some (.inr (.inr false))) (
      forceI (wr .i64 (x7 + 1)) fun x17 =>
      some (.inl x17))) (
    some (.inr (.inl ())))
def g51 (M : Means) (ro : List ABlk) (v0 : AVal) (m0 : Mm) : Option (AVal × Heap × Nat × Nat) :=
  bindO (evP .e (.len false (.c v0))) fun v6 =>
  asI .i64 v6 fun x6 =>
  bindO (M.loop (S := Int) (R := (Unit ⊕ Bool)) (fun s => g51_b0 M ro v0 x6 m0 s) 0) fun o_1 => match o_1 with
  | (.inl _) =>
    finM m0.h.length (tupA [(.b true)]) m0
  | (.inr c2) =>
    finM m0.h.length (tupA [(.b c2)]) m0

theorem g51_ok {ro : List ABlk} {O : Caller} {M : Means} (hM : M.Ok ⟨F, O⟩ ro) {v0 h r} (ho : O 51 [v0] h = none) (hr : g51 M ro v0 ⟨h, h.length, h.length⟩ = some r) : callX ⟨F, O⟩ ro 51 [v0] h = some r := by
  refine callX_of (F := ⟨F, O⟩) (fn := fn51) (g := g51 M ro v0) ho rfl rfl hr ?_
  clear ho
  clear hr
  intro m0 t0 ht hr
  have g0 : t0.get 0 = v0 := ht 0
  clear ht
  unfold g51 at hr
  refine w_seq ?_
  refine w_ops ?_
  refine wo_step (v := (.b false)) (s_pure (p_mv rfl)) ?_
  refine wo_nil ?_
  refine nx_norm ?_
  refine w_seq ?_
  refine w_seq ?_
  refine w_ops ?_
  refine wo_step (v := v0) (s_pure (p_mv g0)) ?_
  have hq := bindO_inv hr
  clear hr
  obtain ⟨v6, e6, hr⟩ := hq
  have hq := asI_inv hr
  clear hr
  obtain ⟨x6, rfl, hr⟩ := hq
  refine wo_step (v := (.i .i64 x6)) (s_pure (o_len rfl e6)) ?_
  refine wo_step (v := (.i .i64 0)) (s_pure (p_mv rfl)) ?_
  refine wo_nil ?_
  refine nx_norm ?_
  refine w_block ?_
  have hq := bindO_inv hr
  clear hr
  obtain ⟨o_1, hl, hr⟩ := hq
  obtain ⟨n, hl⟩ := hM.loop _ _ _ hl
  refine jp_mono (w_loop _ (g51_I0 v0 x6 m0) (g51_J0 v0 x6 m0) ?_ n _ _ _ _ hl ⟨rfl, gl rfl, gl rfl, gl rfl⟩) ?_
  · clear hr hl
    intro s mm_3 t_1 o hi hr
    obtain ⟨x7, hs⟩ : ∃ z, z = s := ⟨_, rfl⟩
    subst hs
    obtain ⟨rfl, g7, g5, g6⟩ := hi
    unfold g51_b0 at hr
    refine w_seq ?_
    refine w_ops ?_
    have hq := forceB_inv hr
    clear hr
    obtain ⟨c8, e8, hr⟩ := hq
    refine wo_step (v := (.b c8)) (s_pure (p_bin g7 g6 (b_lss.trans (cb e8)))) ?_
    refine wo_nil ?_
    refine nx_norm ?_
    refine w_seq ?_
    have hq := cond_inv hr
    clear hr
    rcases hq with ⟨rfl, hr⟩ | ⟨rfl, hr⟩
    · refine w_condT rfl ?_
      refine w_skip ?_
      refine nx_norm ?_
      refine w_seq ?_
      refine w_block ?_
      refine w_seq ?_
      refine w_ops ?_
      have hq := bindO_inv hr
      clear hr
      obtain ⟨v9, e9, hr⟩ := hq
      refine wo_step (v := v9) (s_pure (o_ixS g5 g7 e9)) ?_
      have hq := bindO_inv hr
      clear hr
      obtain ⟨v10, e10, hr⟩ := hq
      have hq := asI_inv hr
      clear hr
      obtain ⟨x10, rfl, hr⟩ := hq
      refine wo_step (v := (.i .i64 x10)) (s_ld rfl e10) ?_
      refine wo_step (v := (.i .i64 x10)) (s_pure (p_mv rfl)) ?_
      refine wo_nil ?_
      refine nx_norm ?_
      refine w_seq ?_
      refine w_ops ?_
      refine wo_step (v := (.i .i64 x10)) (s_pure (p_mv rfl)) ?_
      have hq := forceB_inv hr
      clear hr
      obtain ⟨c12, e12, hr⟩ := hq
      refine wo_step (v := (.b c12)) (s_pure (p_bin rfl rfl (b_lss.trans (cb e12)))) ?_
      refine wo_step (v := (.b c12)) (s_pure (p_mv rfl)) ?_
      have hq := bindO_inv hr
      clear hr
      obtain ⟨o, hr, hk⟩ := hq
      refine wo_join 3 (g51_J1 v0 x6 x7 m0 o) ?_ ?_
      · clear hk
        have hq := cond_inv hr
        clear hr
        rcases hq with ⟨rfl, hr⟩ | ⟨rfl, hr⟩
        · refine wo_skip (v := (.b true)) rfl rfl ?_
          refine wo_skip (v := (.b true)) rfl rfl ?_
          refine wo_step (v := (.b true)) (s_pure (p_pickT rfl rfl)) ?_
          refine wo_nil ?_
          cases hr
          exact ⟨_, _, rfl, rfl, gl rfl, gl g5, gl g6, gl g7⟩
        · refine wo_take (v := (.i .i64 x10)) rfl (s_pure (p_mv rfl)) ?_
          have hq := forceB_inv hr
          clear hr
          obtain ⟨c15, e15, hr⟩ := hq
          refine wo_take (v := (.b c15)) rfl (s_pure (p_bin rfl rfl (b_gtr.trans (cb e15)))) ?_
          refine wo_step (v := (.b c15)) (s_pure (p_pickF rfl rfl)) ?_
          refine wo_nil ?_
          cases hr
          exact ⟨_, _, rfl, rfl, gl rfl, gl g5, gl g6, gl g7⟩
      · clear hr
        have hr := hk
        clear hk
        obtain ⟨c16, ho⟩ : ∃ z, z = o := ⟨_, rfl⟩
        subst ho
        rintro mm t_2 ⟨rfl, g16, g5, g6, g7⟩
        refine wo_nil ?_
        refine nx_norm ?_
        have hq := cond_inv hr
        clear hr
        rcases hq with ⟨rfl, hr⟩ | ⟨rfl, hr⟩
        · refine w_condT g16 ?_
          refine w_seq ?_
          refine w_ops ?_
          refine wo_step (v := (.b false)) (s_pure (p_mv rfl)) ?_
          refine wo_nil ?_
          refine nx_norm ?_
          refine w_ret ?_
          refine bk_ret ?_
          refine nx_ret ?_
          cases hr
          exact ⟨_, _, rfl, ne_norm_ret, rfl, rfl, gl rfl⟩
        · refine w_condF g16 ?_
          refine w_skip ?_
          refine bk_norm ?_
          refine nx_norm ?_
          refine w_ops ?_
          have hq := forceI_inv hr
          clear hr
          obtain ⟨x17, e17, hr⟩ := hq
          refine wo_step (v := (.i .i64 x17)) (s_pure (p_bin g7 rfl (b_add.trans (ci e17)))) ?_
          refine wo_step (v := (.i .i64 x17)) (s_pure (p_mv rfl)) ?_
          refine wo_nil ?_
          cases hr
          exact ⟨_, _, rfl, rfl, rfl, gl rfl, gl g5, gl g6⟩
    · refine w_condF rfl ?_
      refine w_exit ?_
      refine nx_exit ?_
      cases hr
      exact ⟨_, _, rfl, ne_norm_exit, rfl, rfl⟩
  · rcases o_1 with o_1 | o_1
    · rintro _ mm_1 t_3 ⟨rfl, rfl⟩
      refine bk_hit ?_
      refine nx_norm ?_
      refine w_seq ?_
      refine w_ops ?_
      refine wo_step (v := (.b true)) (s_pure (p_mv rfl)) ?_
      refine wo_nil ?_
      refine nx_norm ?_
      refine w_ret ?_
      exact qf ret_ok (rt rfl rn) hr
    · obtain ⟨c2, ho⟩ : ∃ z, z = o_1 := ⟨_, rfl⟩
      subst ho
      rintro _ mm_2 t_4 ⟨rfl, rfl, g2⟩
      refine bk_ret ?_
      refine nx_ret ?_
      exact qf ret_ok (rt g2 rn) hr

/- dibber/seed.written -/
abbrev g52_I0 (x14 : Int) (v20 : AVal) (v11 : AVal) (x22 : Int) (s : Int × Mm) (m1 : Mm) (t1 : Tr) : Prop :=
  match s with
  | (x23, m_5) => m_5 = m1 ∧ t1.get 23 = (.i .i64 x23) ∧ t1.get 4 = (.i .i64 x14) ∧ t1.get 5 = v20 ∧ t1.get 21 = v11 ∧ t1.get 22 = (.i .i64 x22)
abbrev g52_J0 (x14 : Int) (v20 : AVal) (v11 : AVal) (x22 : Int) (o : Mm) (e : AExit) (m1 : Mm) (t1 : Tr) : Prop :=
  match o with
  | mo => e = (.exit 0) ∧ mo = m1 ∧ t1.get 5 = v20
def g52_b0 (M : Means) (ro : List ABlk) (x14 : Int) (v20 : AVal) (v11 : AVal) (x22 : Int) (x23 : Int) (m_5 : Mm) : Option ((Int × Mm) ⊕ (Mm)) :=
  forceB (ltI x23 x22) fun c24 =>
  cond c24 (
    bindO (evP .e (.ixS 1 (.c v11) (.c (.i .i64 x23)))) fun v25 =>
    bindO (ldM ro m_5 true 1 v25) fun v26 =>
    asI .i64 v26 fun x26 =>
    forceI (wr .i64 (x14 - x26)) fun x30 =>
    bindO (evP .e (.ixS 1 (.c v20) (.c (.i .i64 x30)))) fun v31 =>
    bindP (stepM ro m_5 (.st 1 (.c v31) (.c (.i .u8 49)))) fun vn m_6 =>
    forceI (wr .i64 (x23 + 1)) fun x32 =>
    some (.inl (x32, m_6))) (
    some (.inr m_5))
def g52 (M : Means) (ro : List ABlk) (x0 : Int) (m0 : Mm) : Option (AVal × Heap × Nat × Nat) :=
  forceB (eqI x0 0) fun c9 =>
  cond c9 (
    finM m0.h.length (tupA [(.s [48])]) m0) (
    bindP (callM M.call m0 60 [(.i .i64 x0)]) fun v11 m_1 =>
    bindO (evP .e (.ixS 1 (.c v11) (.c (.i .i64 0)))) fun v13 =>
    bindO (ldM ro m_1 true 1 v13) fun v14 =>
    asI .i64 v14 fun x14 =>
    bindP (stepM ro m_1 (.bsl 5 1 [(AVal.i IntKind.u8 0)] 1 [((0, 1), .c (.i .u8 48))])) fun v15 m_2 =>
    bindP (stepM ro m_2 (.mks (.c v15))) fun v16 m_3 =>
    forceI (wr .i64 (x14 - 2)) fun x18 =>
    forceI (wr .i64 (x18 + 1)) fun x19 =>
    bindP (callM M.call m_3 73 [v16, (.i .i64 x19)]) fun v20 m_4 =>
    bindO (evP .e (.len false (.c v11))) fun v22 =>
    asI .i64 v22 fun x22 =>
    bindO (M.loop (S := Int × Mm) (R := Mm) (fun s => g52_b0 M ro x14 v20 v11 x22 s.1 s.2) (0, m_4)) fun m_7 =>
    bindO (btsM ro m_7 v20) fun v34 =>
    asS v34 fun s34 =>
    finM m0.h.length (tupA [(.s s34)]) m_7)

theorem g52_ok {ro : List ABlk} {O : Caller} {M : Means} (hM : M.Ok ⟨F, O⟩ ro) {x0 h r} (ho : O 52 [(.i .i64 x0)] h = none) (hr : g52 M ro x0 ⟨h, h.length, h.length⟩ = some r) : callX ⟨F, O⟩ ro 52 [(.i .i64 x0)] h = some r := by
  refine callX_of (F := ⟨F, O⟩) (fn := fn52) (g := g52 M ro x0) ho rfl rfl hr ?_
  clear ho
  clear hr
  intro m0 t0 ht hr
  have g0 : t0.get 0 = (.i .i64 x0) := ht 0
  clear ht
  unfold g52 at hr
  refine w_seq ?_
  refine w_ops ?_
  refine wo_step (v := (AVal.s [])) (s_pure (p_mv rfl)) ?_
  refine wo_nil ?_
  refine nx_norm ?_
  refine w_seq ?_
  refine w_seq ?_
  refine w_ops ?_
  refine wo_step (v := (.i .i64 x0)) (s_pure (p_mv g0)) ?_
  have hq := forceB_inv hr
  clear hr
  obtain ⟨c9, e9, hr⟩ := hq
  refine wo_step (v := (.b c9)) (s_pure (p_bin rfl rfl (b_eql.trans (cb e9)))) ?_
  refine wo_nil ?_
  refine nx_norm ?_
  have hq := cond_inv hr
  clear hr
  rcases hq with ⟨rfl, hr⟩ | ⟨rfl, hr⟩
  · refine w_condT rfl ?_
    refine w_seq ?_
    refine w_ops ?_
    refine wo_step (v := (AVal.s [48])) (s_pure (p_mv rfl)) ?_
    refine wo_nil ?_
    refine nx_norm ?_
    refine w_ret ?_
    refine nx_ret ?_
    exact qf ret_ok (rt rfl rn) hr
  · refine w_condF rfl ?_
    refine w_skip ?_
    refine nx_norm ?_
    refine w_seq ?_
    refine w_ops ?_
    refine wo_step (v := (.i .i64 x0)) (s_pure (p_mv g0)) ?_
    have hq := bindP_inv hr
    clear hr
    obtain ⟨v11, m_1, e11, hr⟩ := hq
    refine wo_step (v := v11) (s_call (mc rfl mn) (callM_le hM.call e11)) ?_
    refine wo_step (v := v11) (s_pure (p_mv rfl)) ?_
    refine wo_nil ?_
    refine nx_norm ?_
    refine w_seq ?_
    refine w_ops ?_
    refine wo_step (v := v11) (s_pure (p_mv rfl)) ?_
    have hq := bindO_inv hr
    clear hr
    obtain ⟨v13, e13, hr⟩ := hq
    refine wo_step (v := v13) (s_pure (o_ixS rfl rfl e13)) ?_
    have hq := bindO_inv hr
    clear hr
    obtain ⟨v14, e14, hr⟩ := hq
    have hq := asI_inv hr
    clear hr
    obtain ⟨x14, rfl, hr⟩ := hq
    refine wo_step (v := (.i .i64 x14)) (s_ld rfl e14) ?_
    refine wo_step (v := (.i .i64 x14)) (s_pure (p_mv rfl)) ?_
    refine wo_nil ?_
    refine nx_norm ?_
    refine w_seq ?_
    refine w_ops ?_
    have hq := bindP_inv hr
    clear hr
    obtain ⟨v15, m_2, e15, hr⟩ := hq
    refine wo_step (v := v15) (s_bsl (qc rfl qn) e15) ?_
    have hq := bindP_inv hr
    clear hr
    obtain ⟨v16, m_3, e16, hr⟩ := hq
    refine wo_step (v := v16) (s_mks rfl e16) ?_
    refine wo_step (v := (.i .i64 x14)) (s_pure (p_mv rfl)) ?_
    have hq := forceI_inv hr
    clear hr
    obtain ⟨x18, e18, hr⟩ := hq
    refine wo_step (v := (.i .i64 x18)) (s_pure (p_bin rfl rfl (b_sub.trans (ci e18)))) ?_
    have hq := forceI_inv hr
    clear hr
    obtain ⟨x19, e19, hr⟩ := hq
    refine wo_step (v := (.i .i64 x19)) (s_pure (p_bin rfl rfl (b_add.trans (ci e19)))) ?_
    have hq := bindP_inv hr
    clear hr
    obtain ⟨v20, m_4, e20, hr⟩ := hq
    refine wo_step (v := v20) (s_call (mc rfl (mc rfl mn)) (callM_le hM.call e20)) ?_
    refine wo_step (v := v20) (s_pure (p_mv rfl)) ?_
    refine wo_nil ?_
    refine nx_norm ?_
    refine w_seq ?_
    refine w_seq ?_
    refine w_ops ?_
    refine wo_step (v := v11) (s_pure (p_mv rfl)) ?_
    have hq := bindO_inv hr
    clear hr
    obtain ⟨v22, e22, hr⟩ := hq
    have hq := asI_inv hr
    clear hr
    obtain ⟨x22, rfl, hr⟩ := hq
    refine wo_step (v := (.i .i64 x22)) (s_pure (o_len rfl e22)) ?_
    refine wo_step (v := (.i .i64 0)) (s_pure (p_mv rfl)) ?_
    refine wo_nil ?_
    refine nx_norm ?_
    refine w_block ?_
    have hq := bindO_inv hr
    clear hr
    obtain ⟨o, hl, hr⟩ := hq
    obtain ⟨n, hl⟩ := hM.loop _ _ _ hl
    refine jp_mono (w_loop _ (g52_I0 x14 v20 v11 x22) (g52_J0 x14 v20 v11 x22) ?_ n _ _ _ _ hl ⟨rfl, gl rfl, gl rfl, gl rfl, gl rfl, gl rfl⟩) ?_
    · clear hr hl
      intro s mm_1 t_1 o hi hr
      obtain ⟨x23, m_5⟩ := s
      obtain ⟨rfl, g23, g4, g5, g21, g22⟩ := hi
      unfold g52_b0 at hr
      refine w_seq ?_
      refine w_ops ?_
      have hq := forceB_inv hr
      clear hr
      obtain ⟨c24, e24, hr⟩ := hq
      refine wo_step (v := (.b c24)) (s_pure (p_bin g23 g22 (b_lss.trans (cb e24)))) ?_
      refine wo_nil ?_
      refine nx_norm ?_
      refine w_seq ?_
      have hq := cond_inv hr
      clear hr
      rcases hq with ⟨rfl, hr⟩ | ⟨rfl, hr⟩
      · refine w_condT rfl ?_
        refine w_skip ?_
        refine nx_norm ?_
        refine w_seq ?_
        refine w_block ?_
        refine w_seq ?_
        refine w_ops ?_
        have hq := bindO_inv hr
        clear hr
        obtain ⟨v25, e25, hr⟩ := hq
        refine wo_step (v := v25) (s_pure (o_ixS g21 g23 e25)) ?_
        have hq := bindO_inv hr
        clear hr
        obtain ⟨v26, e26, hr⟩ := hq
        have hq := asI_inv hr
        clear hr
        obtain ⟨x26, rfl, hr⟩ := hq
        refine wo_step (v := (.i .i64 x26)) (s_ld rfl e26) ?_
        refine wo_step (v := (.i .i64 x26)) (s_pure (p_mv rfl)) ?_
        refine wo_nil ?_
        refine nx_norm ?_
        refine w_ops ?_
        refine wo_step (v := v20) (s_pure (p_mv g5)) ?_
        refine wo_step (v := (.i .i64 x14)) (s_pure (p_mv g4)) ?_
        refine wo_step (v := (.i .i64 x26)) (s_pure (p_mv rfl)) ?_
        have hq := forceI_inv hr
        clear hr
        obtain ⟨x30, e30, hr⟩ := hq
        refine wo_step (v := (.i .i64 x30)) (s_pure (p_bin rfl rfl (b_sub.trans (ci e30)))) ?_
        have hq := bindO_inv hr
        clear hr
        obtain ⟨v31, e31, hr⟩ := hq
        refine wo_step (v := v31) (s_pure (o_ixS rfl rfl e31)) ?_
        have hq := bindP_inv hr
        clear hr
        obtain ⟨vn, m_6, en, hr⟩ := hq
        refine wo_stepN (s_st rfl rfl en) ?_
        refine wo_nil ?_
        refine bk_norm ?_
        refine nx_norm ?_
        refine w_ops ?_
        have hq := forceI_inv hr
        clear hr
        obtain ⟨x32, e32, hr⟩ := hq
        refine wo_step (v := (.i .i64 x32)) (s_pure (p_bin g23 rfl (b_add.trans (ci e32)))) ?_
        refine wo_step (v := (.i .i64 x32)) (s_pure (p_mv rfl)) ?_
        refine wo_nil ?_
        cases hr
        exact ⟨_, _, rfl, rfl, rfl, gl rfl, gl g4, gl g5, gl g21, gl g22⟩
      · refine w_condF rfl ?_
        refine w_exit ?_
        refine nx_exit ?_
        cases hr
        exact ⟨_, _, rfl, ne_norm_exit, rfl, rfl, gl g5⟩
    · obtain ⟨m_7, ho⟩ : ∃ z, z = o := ⟨_, rfl⟩
      subst ho
      rintro _ mm t_2 ⟨rfl, rfl, g5⟩
      refine bk_hit ?_
      refine nx_norm ?_
      refine w_seq ?_
      refine w_ops ?_
      refine wo_step (v := v20) (s_pure (p_mv g5)) ?_
      have hq := bindO_inv hr
      clear hr
      obtain ⟨v34, e34, hr⟩ := hq
      have hq := asS_inv hr
      clear hr
      obtain ⟨s34, rfl, hr⟩ := hq
      refine wo_step (v := (.s s34)) (s_bts rfl e34) ?_
      refine wo_step (v := (.s s34)) (s_pure (p_mv rfl)) ?_
      refine wo_nil ?_
      refine nx_norm ?_
      refine w_ret ?_
      exact qf ret_ok (rt rfl rn) hr

/- dibber/seed.isWord -/
abbrev g55_I0 (s0 : List UInt8) (v7 : AVal) (s : Int × Mm) (m1 : Mm) (t1 : Tr) : Prop :=
  match s with
  | (x3, m_2) => m_2 = m1 ∧ t1.get 3 = (.i .i32 x3) ∧ t1.get 0 = (.s s0) ∧ t1.get 7 = v7
abbrev g55_J0 (s0 : List UInt8) (v7 : AVal) (o : (Mm ⊕ (Bool × Mm))) (e : AExit) (m1 : Mm) (t1 : Tr) : Prop :=
  match o with
  | (.inl mo) => e = (.exit 0) ∧ mo = m1 ∧ t1.get 0 = (.s s0)
  | (.inr (y2, mo)) => e = .ret ∧ mo = m1 ∧ t1.get 2 = (.b y2)
abbrev g55_J1 (s0 : List UInt8) (x3 : Int) (x10 : Int) (v7 : AVal) (m_3 : Mm) (o : Bool) (m1 : Mm) (t1 : Tr) : Prop :=
  match o with
  | c16 => m_3 = m1 ∧ t1.get 16 = (.b c16) ∧ t1.get 0 = (.s s0) ∧ t1.get 3 = (.i .i32 x3) ∧ t1.get 5 = (.i .i32 x10) ∧ t1.get 7 = v7
abbrev g55_J2 (s0 : List UInt8) (x10 : Int) (v7 : AVal) (m_3 : Mm) (o : Bool) (m1 : Mm) (t1 : Tr) : Prop :=
  match o with
  | c24 => m_3 = m1 ∧ t1.get 24 = (.b c24) ∧ t1.get 0 = (.s s0) ∧ t1.get 5 = (.i .i32 x10) ∧ t1.get 7 = v7
abbrev g55_J3 (s0 : List UInt8) (x10 : Int) (v7 : AVal) (m_3 : Mm) (o : Bool) (m1 : Mm) (t1 : Tr) : Prop :=
  match o with
  | c24_1 => m_3 = m1 ∧ t1.get 24 = (.b c24_1) ∧ t1.get 0 = (.s s0) ∧ t1.get 5 = (.i .i32 x10) ∧ t1.get 7 = v7
def g55_b0 (M : Means) (ro : List ABlk) (s0 : List UInt8) (v7 : AVal) (x3 : Int) (m_2 : Mm) : Option ((Int × Mm) ⊕ ((Mm ⊕ (Bool × Mm)))) :=
  bindP (stepM ro m_2 (.nxs (.c v7))) fun v8 m_3 =>
  bindO (evP .e (.ext 0 (.c v8))) fun v9 =>
  asB v9 fun c9 =>
  cond c9 (
    bindO (evP .e (.ext 2 (.c v8))) fun v10 =>
    asI .i32 v10 fun x10 =>
    forceB (!eqI x10 48) fun c12 =>
    bindO (cond c12 (
      forceB (!eqI x10 49) fun c15 =>
      some c15) (
      some false)) fun c16 =>
    bindO (cond c16 (
      some true) (
      forceB (eqI x10 49) fun c19 =>
      bindO (cond c19 (
        forceB (eqI x3 49) fun c22 =>
        some c22) (
        some false)) fun c24_1 =>
      some c24_1)) fun c24 =>
    cond c24 (
      some (.inr (.inr (false, m_3)))) (
      some (.inl (x10, m_3)))) (
    some (.inr (.inl m_3)))
abbrev g55_J4  (o : Bool × Mm) (m1 : Mm) (t1 : Tr) : Prop :=
  match o with
  | (c31, m_5) => m_5 = m1 ∧ t1.get 31 = (.b c31)
def g55 (M : Means) (ro : List ABlk) (s0 : List UInt8) (m0 : Mm) : Option (AVal × Heap × Nat × Nat) :=
  bindP (stepM ro m0 (.rgs (.c (.s s0)))) fun v7 m_1 =>
  bindO (M.loop (S := Int × Mm) (R := (Mm ⊕ (Bool × Mm))) (fun s => g55_b0 M ro s0 v7 s.1 s.2) (48, m_1)) fun o_3 => match o_3 with
  | (.inl m_4) =>
    bindO (evP .e (.sbin BinOp.eql (.c (.s s0)) (.c (AVal.s [48])))) fun v27 =>
    asB v27 fun c27 =>
    bindO (cond c27 (
      some (true, m_4)) (
      bindP (callM M.call m_4 74 [(.s s0), (AVal.s [49])]) fun v30 m_6 =>
      asB v30 fun c30 =>
      some (c30, m_6))) fun ⟨c31, m_5⟩ =>
    finM m0.h.length (tupA [(.b c31)]) m_5
  | (.inr (c2, m_7)) =>
    finM m0.h.length (tupA [(.b c2)]) m_7

theorem g55_ok {ro : List ABlk} {O : Caller} {M : Means} (hM : M.Ok ⟨F, O⟩ ro) {s0 h r} (ho : O 55 [(.s s0)] h = none) (hr : g55 M ro s0 ⟨h, h.length, h.length⟩ = some r) : callX ⟨F, O⟩ ro 55 [(.s s0)] h = some r := by
  refine callX_of (F := ⟨F, O⟩) (fn := fn55) (g := g55 M ro s0) ho rfl rfl hr ?_
  clear ho
  clear hr
  intro m0 t0 ht hr
  have g0 : t0.get 0 = (.s s0) := ht 0
  clear ht
  unfold g55 at hr
  refine w_seq ?_
  refine w_ops ?_
  refine wo_step (v := (.b false)) (s_pure (p_mv rfl)) ?_
  refine wo_nil ?_
  refine nx_norm ?_
  refine w_seq ?_
  refine w_ops ?_
  refine wo_step (v := (.i .i32 48)) (s_pure (p_mv rfl)) ?_
  refine wo_nil ?_
  refine nx_norm ?_
  refine w_seq ?_
  refine w_seq ?_
  refine w_ops ?_
  refine wo_step (v := (.s s0)) (s_pure (p_mv g0)) ?_
  have hq := bindP_inv hr
  clear hr
  obtain ⟨v7, m_1, e7, hr⟩ := hq
  refine wo_step (v := v7) (s_rgs rfl e7) ?_
  refine wo_nil ?_
  refine nx_norm ?_
  refine w_block ?_
  have hq := bindO_inv hr
  clear hr
  obtain ⟨o_3, hl, hr⟩ := hq
  obtain ⟨n, hl⟩ := hM.loop _ _ _ hl
  refine jp_mono (w_loop _ (g55_I0 s0 v7) (g55_J0 s0 v7) ?_ n _ _ _ _ hl ⟨rfl, gl rfl, gl g0, gl rfl⟩) ?_
  · clear hr hl
    intro s mm_6 t_1 o hi hr
    obtain ⟨x3, m_2⟩ := s
    obtain ⟨rfl, g3, g0, g7⟩ := hi
    unfold g55_b0 at hr
    refine w_seq ?_
    refine w_ops ?_
    have hq := bindP_inv hr
    clear hr
    obtain ⟨v8, m_3, e8, hr⟩ := hq
    refine wo_step (v := v8) (s_nxs g7 e8) ?_
    have hq := bindO_inv hr
    clear hr
    obtain ⟨v9, e9, hr⟩ := hq
    have hq := asB_inv hr
    clear hr
    obtain ⟨c9, rfl, hr⟩ := hq
    refine wo_step (v := (.b c9)) (s_pure (o_ext rfl e9)) ?_
    refine wo_nil ?_
    refine nx_norm ?_
    refine w_seq ?_
    have hq := cond_inv hr
    clear hr
    rcases hq with ⟨rfl, hr⟩ | ⟨rfl, hr⟩
    · refine w_condT rfl ?_
      refine w_skip ?_
      refine nx_norm ?_
      refine w_block ?_
      refine w_seq ?_
      refine w_ops ?_
      have hq := bindO_inv hr
      clear hr
      obtain ⟨v10, e10, hr⟩ := hq
      have hq := asI_inv hr
      clear hr
      obtain ⟨x10, rfl, hr⟩ := hq
      refine wo_step (v := (.i .i32 x10)) (s_pure (o_ext rfl e10)) ?_
      refine wo_step (v := (.i .i32 x10)) (s_pure (p_mv rfl)) ?_
      refine wo_nil ?_
      refine nx_norm ?_
      refine w_seq ?_
      refine w_seq ?_
      refine w_ops ?_
      refine wo_step (v := (.i .i32 x10)) (s_pure (p_mv rfl)) ?_
      have hq := forceB_inv hr
      clear hr
      obtain ⟨c12, e12, hr⟩ := hq
      refine wo_step (v := (.b c12)) (s_pure (p_bin rfl rfl (b_neq.trans (cb e12)))) ?_
      refine wo_step (v := (.b c12)) (s_pure (p_mv rfl)) ?_
      have hq := bindO_inv hr
      clear hr
      obtain ⟨o, hr, hk⟩ := hq
      refine wo_join 3 (g55_J1 s0 x3 x10 v7 m_3 o) ?_ ?_
      · clear hk
        have hq := cond_inv hr
        clear hr
        rcases hq with ⟨rfl, hr⟩ | ⟨rfl, hr⟩
        · refine wo_take (v := (.i .i32 x10)) rfl (s_pure (p_mv rfl)) ?_
          have hq := forceB_inv hr
          clear hr
          obtain ⟨c15, e15, hr⟩ := hq
          refine wo_take (v := (.b c15)) rfl (s_pure (p_bin rfl rfl (b_neq.trans (cb e15)))) ?_
          refine wo_step (v := (.b c15)) (s_pure (p_pickT rfl rfl)) ?_
          refine wo_nil ?_
          cases hr
          exact ⟨_, _, rfl, rfl, gl rfl, gl g0, gl g3, gl rfl, gl g7⟩
        · refine wo_skip (v := (.b false)) rfl rfl ?_
          refine wo_skip (v := (.b false)) rfl rfl ?_
          refine wo_step (v := (.b false)) (s_pure (p_pickF rfl rfl)) ?_
          refine wo_nil ?_
          cases hr
          exact ⟨_, _, rfl, rfl, gl rfl, gl g0, gl g3, gl rfl, gl g7⟩
      · clear hr
        have hr := hk
        clear hk
        obtain ⟨c16, ho⟩ : ∃ z, z = o := ⟨_, rfl⟩
        subst ho
        rintro mm t_2 ⟨rfl, g16, g0, g3, g5, g7⟩
        refine wo_step (v := (.b c16)) (s_pure (p_mv g16)) ?_
        have hq := bindO_inv hr
        clear hr
        obtain ⟨o_1, hr, hk⟩ := hq
        refine wo_join 7 (g55_J2 s0 x10 v7 m_3 o_1) ?_ ?_
        · clear hk
          have hq := cond_inv hr
          clear hr
          rcases hq with ⟨rfl, hr⟩ | ⟨rfl, hr⟩
          · refine wo_skip (v := (.b true)) rfl rfl ?_
            refine wo_skip (v := (.b true)) rfl rfl ?_
            refine wo_skip (v := (.b true)) rfl rfl ?_
            refine wo_skip (v := und) rfl rfl ?_
            refine wo_skip (v := und) rfl rfl ?_
            refine wo_skip (v := (.b true)) rfl rfl ?_
            refine wo_step (v := (.b true)) (s_pure (p_pickT rfl rfl)) ?_
            refine wo_nil ?_
            cases hr
            exact ⟨_, _, rfl, rfl, gl rfl, gl g0, gl g5, gl g7⟩
          · refine wo_take (v := (.i .i32 x10)) rfl (s_pure (p_mv g5)) ?_
            have hq := forceB_inv hr
            clear hr
            obtain ⟨c19, e19, hr⟩ := hq
            refine wo_take (v := (.b c19)) rfl (s_pure (p_bin rfl rfl (b_eql.trans (cb e19)))) ?_
            refine wo_take (v := (.b c19)) rfl (s_pure (p_mv rfl)) ?_
            have hq := bindO_inv hr
            clear hr
            obtain ⟨o_2, hr, hk⟩ := hq
            refine wo_join 4 (g55_J3 s0 x10 v7 m_3 o_2) ?_ ?_
            · clear hk
              have hq := cond_inv hr
              clear hr
              rcases hq with ⟨rfl, hr⟩ | ⟨rfl, hr⟩
              · refine wo_take (v := (.i .i32 x3)) rfl (s_pure (p_mv g3)) ?_
                have hq := forceB_inv hr
                clear hr
                obtain ⟨c22, e22, hr⟩ := hq
                refine wo_take (v := (.b c22)) rfl (s_pure (p_bin rfl rfl (b_eql.trans (cb e22)))) ?_
                refine wo_take (v := (.b c22)) rfl (s_pure (p_pickT rfl rfl)) ?_
                refine wo_step (v := (.b c22)) (s_pure (p_pickF rfl rfl)) ?_
                refine wo_nil ?_
                cases hr
                exact ⟨_, _, rfl, rfl, gl rfl, gl g0, gl g5, gl g7⟩
              · refine wo_skip (v := (.b false)) rfl rfl ?_
                refine wo_skip (v := (.b false)) rfl rfl ?_
                refine wo_take (v := (.b false)) rfl (s_pure (p_pickF rfl rfl)) ?_
                refine wo_step (v := (.b false)) (s_pure (p_pickF rfl rfl)) ?_
                refine wo_nil ?_
                cases hr
                exact ⟨_, _, rfl, rfl, gl rfl, gl g0, gl g5, gl g7⟩
            · clear hr
              have hr := hk
              clear hk
              obtain ⟨c24_1, ho⟩ : ∃ z, z = o_2 := ⟨_, rfl⟩
              subst ho
              rintro mm_1 t_3 ⟨rfl, g24, g0, g5, g7⟩
              refine wo_nil ?_
              cases hr
              exact ⟨_, _, rfl, rfl, gl g24, gl g0, gl g5, gl g7⟩
        · clear hr
          have hr := hk
          clear hk
          obtain ⟨c24, ho⟩ : ∃ z, z = o_1 := ⟨_, rfl⟩
          subst ho
          rintro mm_2 t_4 ⟨rfl, g24, g0, g5, g7⟩
          refine wo_nil ?_
          refine nx_norm ?_
          have hq := cond_inv hr
          clear hr
          rcases hq with ⟨rfl, hr⟩ | ⟨rfl, hr⟩
          · refine w_condT g24 ?_
            refine w_seq ?_
            refine w_ops ?_
            refine wo_step (v := (.b false)) (s_pure (p_mv rfl)) ?_
            refine wo_nil ?_
            refine nx_norm ?_
            refine w_ret ?_
            refine nx_ret ?_
            refine bk_ret ?_
            cases hr
            exact ⟨_, _, rfl, ne_norm_ret, rfl, rfl, gl rfl⟩
          · refine w_condF g24 ?_
            refine w_skip ?_
            refine nx_norm ?_
            refine w_ops ?_
            refine wo_step (v := (.i .i32 x10)) (s_pure (p_mv g5)) ?_
            refine wo_step (v := (.i .i32 x10)) (s_pure (p_mv rfl)) ?_
            refine wo_nil ?_
            refine bk_norm ?_
            cases hr
            exact ⟨_, _, rfl, rfl, rfl, gl rfl, gl g0, gl g7⟩
    · refine w_condF rfl ?_
      refine w_exit ?_
      refine nx_exit ?_
      cases hr
      exact ⟨_, _, rfl, ne_norm_exit, rfl, rfl, gl g0⟩
  · rcases o_3 with o_3 | o_3
    · obtain ⟨m_4, ho⟩ : ∃ z, z = o_3 := ⟨_, rfl⟩
      subst ho
      rintro _ mm_4 t_5 ⟨rfl, rfl, g0⟩
      refine bk_hit ?_
      refine nx_norm ?_
      refine w_seq ?_
      refine w_ops ?_
      refine wo_step (v := (.s s0)) (s_pure (p_mv g0)) ?_
      have hq := bindO_inv hr
      clear hr
      obtain ⟨v27, e27, hr⟩ := hq
      have hq := asB_inv hr
      clear hr
      obtain ⟨c27, rfl, hr⟩ := hq
      refine wo_step (v := (.b c27)) (s_pure (o_sbin rfl rfl e27)) ?_
      refine wo_step (v := (.b c27)) (s_pure (p_mv rfl)) ?_
      have hq := bindO_inv hr
      clear hr
      obtain ⟨o_4, hr, hk⟩ := hq
      refine wo_join 3 (g55_J4  o_4) ?_ ?_
      · clear hk
        have hq := cond_inv hr
        clear hr
        rcases hq with ⟨rfl, hr⟩ | ⟨rfl, hr⟩
        · refine wo_skip (v := (.b true)) rfl rfl ?_
          refine wo_skip (v := (.b true)) rfl rfl ?_
          refine wo_step (v := (.b true)) (s_pure (p_pickT rfl rfl)) ?_
          refine wo_nil ?_
          cases hr
          exact ⟨_, _, rfl, rfl, gl rfl⟩
        · refine wo_take (v := (.s s0)) rfl (s_pure (p_mv g0)) ?_
          have hq := bindP_inv hr
          clear hr
          obtain ⟨v30, m_6, e30, hr⟩ := hq
          have hq := asB_inv hr
          clear hr
          obtain ⟨c30, rfl, hr⟩ := hq
          refine wo_take (v := (.b c30)) rfl (s_call (mc rfl (mc rfl mn)) (callM_le hM.call e30)) ?_
          refine wo_step (v := (.b c30)) (s_pure (p_pickF rfl rfl)) ?_
          refine wo_nil ?_
          cases hr
          exact ⟨_, _, rfl, rfl, gl rfl⟩
      · clear hr
        have hr := hk
        clear hk
        obtain ⟨c31, m_5⟩ := o_4
        rintro mm_3 t_6 ⟨rfl, g31⟩
        refine wo_step (v := (.b c31)) (s_pure (p_mv g31)) ?_
        refine wo_nil ?_
        refine nx_norm ?_
        refine w_ret ?_
        exact qf ret_ok (rt rfl rn) hr
    · obtain ⟨c2, m_7⟩ := o_3
      rintro _ mm_5 t_7 ⟨rfl, rfl, g2⟩
      refine bk_ret ?_
      refine nx_ret ?_
      exact qf ret_ok (rt g2 rn) hr

/- dibber/seed.counted -/
abbrev g56_I0 (s0 : List UInt8) (v8 : AVal) (s : Int × Mm) (m1 : Mm) (t1 : Tr) : Prop :=
  match s with
  | (x3, m_2) => m_2 = m1 ∧ t1.get 3 = (.i .i64 x3) ∧ t1.get 0 = (.s s0) ∧ t1.get 8 = v8
abbrev g56_J0 (s0 : List UInt8) (v8 : AVal) (o : (Int × Mm)) (e : AExit) (m1 : Mm) (t1 : Tr) : Prop :=
  match o with
  | (y3, mo) => e = (.exit 0) ∧ mo = m1 ∧ t1.get 3 = (.i .i64 y3)
abbrev g56_I1 (s0 : List UInt8) (x19 : Int) (v8 : AVal) (x21 : Int) (m_4 : Mm) (s : Int × Int) (m1 : Mm) (t1 : Tr) : Prop :=
  match s with
  | (x3_1, x22) => m_4 = m1 ∧ t1.get 3 = (.i .i64 x3_1) ∧ t1.get 22 = (.i .i32 x22) ∧ t1.get 0 = (.s s0) ∧ t1.get 6 = (.i .i64 x19) ∧ t1.get 8 = v8 ∧ t1.get 21 = (.i .i32 x21)
abbrev g56_J1 (s0 : List UInt8) (x19 : Int) (v8 : AVal) (x21 : Int) (m_4 : Mm) (o : Int) (e : AExit) (m1 : Mm) (t1 : Tr) : Prop :=
  match o with
  | y3 => e = (.exit 2) ∧ m_4 = m1 ∧ t1.get 3 = (.i .i64 y3) ∧ t1.get 0 = (.s s0) ∧ t1.get 8 = v8
def g56_b1 (M : Means) (ro : List ABlk) (s0 : List UInt8) (x19 : Int) (v8 : AVal) (x21 : Int) (m_4 : Mm) (x3_1 : Int) (x22 : Int) : Option ((Int × Int) ⊕ (Int)) :=
  forceB (ltI x22 x21) fun c23 =>
  cond c23 (
    forceI (wr .i64 (x3_1 + x19)) fun x26 =>
    forceI (mxV false x26 1152921504606846977) fun x27 =>
    forceI (wr .i32 (x22 + 1)) fun x28 =>
    some (.inl (x27, x28))) (
    some (.inr x3_1))
def g56_b0 (M : Means) (ro : List ABlk) (s0 : List UInt8) (v8 : AVal) (x3 : Int) (m_2 : Mm) : Option ((Int × Mm) ⊕ ((Int × Mm))) :=
  bindP (stepM ro m_2 (.nxs (.c v8))) fun v9 m_3 =>
  bindO (evP .e (.ext 0 (.c v9))) fun v10 =>
  asB v10 fun c10 =>
  cond c10 (
    bindO (evP .e (.ext 1 (.c v9))) fun v11 =>
    asI .i64 v11 fun x11 =>
    bindO (evP .e (.ext 2 (.c v9))) fun v12 =>
    asI .i32 v12 fun x12 =>
    bindO (evP .e (.len true (.c (.s s0)))) fun v14 =>
    asI .i64 v14 fun x14 =>
    forceI (wr .i64 (x14 - 1)) fun x15 =>
    forceI (wr .i64 (x15 - x11)) fun x17 =>
    forceI (wr .i64 (x17 + 2)) fun x18 =>
    bindP (callM M.call m_3 71 [(.i .i64 x18)]) fun v19 m_4 =>
    asI .i64 v19 fun x19 =>
    forceI (wr .i32 (x12 - 48)) fun x21 =>
    bindO (M.loop (S := Int × Int) (R := Int) (fun s => g56_b1 M ro s0 x19 v8 x21 m_4 s.1 s.2) (x3, 0)) fun x3_2 =>
    some (.inl (x3_2, m_4))) (
    some (.inr (x3, m_3)))
def g56 (M : Means) (ro : List ABlk) (s0 : List UInt8) (m0 : Mm) : Option (AVal × Heap × Nat × Nat) :=
  bindP (stepM ro m0 (.rgs (.c (.s s0)))) fun v8 m_1 =>
  bindO (M.loop (S := Int × Mm) (R := (Int × Mm)) (fun s => g56_b0 M ro s0 v8 s.1 s.2) (0, m_1)) fun ⟨x3_3, m_5⟩ =>
  finM m0.h.length (tupA [(.i .i64 x3_3)]) m_5

theorem g56_ok {ro : List ABlk} {O : Caller} {M : Means} (hM : M.Ok ⟨F, O⟩ ro) {s0 h r} (ho : O 56 [(.s s0)] h = none) (hr : g56 M ro s0 ⟨h, h.length, h.length⟩ = some r) : callX ⟨F, O⟩ ro 56 [(.s s0)] h = some r := by
  refine callX_of (F := ⟨F, O⟩) (fn := fn56) (g := g56 M ro s0) ho rfl rfl hr ?_
  clear ho
  clear hr
  intro m0 t0 ht hr
  have g0 : t0.get 0 = (.s s0) := ht 0
  clear ht
  unfold g56 at hr
  refine w_seq ?_
  refine w_ops ?_
  refine wo_step (v := (.i .i64 0)) (s_pure (p_mv rfl)) ?_
  refine wo_nil ?_
  refine nx_norm ?_
  refine w_seq ?_
  refine w_ops ?_
  refine wo_step (v := (.i .i64 0)) (s_pure (p_mv rfl)) ?_
  refine wo_nil ?_
  refine nx_norm ?_
  refine w_seq ?_
  refine w_seq ?_
  refine w_ops ?_
  refine wo_step (v := (.s s0)) (s_pure (p_mv g0)) ?_
  have hq := bindP_inv hr
  clear hr
  obtain ⟨v8, m_1, e8, hr⟩ := hq
  refine wo_step (v := v8) (s_rgs rfl e8) ?_
  refine wo_nil ?_
  refine nx_norm ?_
  refine w_block ?_
  have hq := bindO_inv hr
  clear hr
  obtain ⟨o_1, hl_1, hr⟩ := hq
  obtain ⟨n_1, hl_1⟩ := hM.loop _ _ _ hl_1
  refine jp_mono (w_loop _ (g56_I0 s0 v8) (g56_J0 s0 v8) ?_ n_1 _ _ _ _ hl_1 ⟨rfl, gl rfl, gl g0, gl rfl⟩) ?_
  · clear hr hl_1
    intro s mm_3 t_1 o hi hr
    obtain ⟨x3, m_2⟩ := s
    obtain ⟨rfl, g3, g0, g8⟩ := hi
    unfold g56_b0 at hr
    refine w_seq ?_
    refine w_ops ?_
    have hq := bindP_inv hr
    clear hr
    obtain ⟨v9, m_3, e9, hr⟩ := hq
    refine wo_step (v := v9) (s_nxs g8 e9) ?_
    have hq := bindO_inv hr
    clear hr
    obtain ⟨v10, e10, hr⟩ := hq
    have hq := asB_inv hr
    clear hr
    obtain ⟨c10, rfl, hr⟩ := hq
    refine wo_step (v := (.b c10)) (s_pure (o_ext rfl e10)) ?_
    refine wo_nil ?_
    refine nx_norm ?_
    refine w_seq ?_
    have hq := cond_inv hr
    clear hr
    rcases hq with ⟨rfl, hr⟩ | ⟨rfl, hr⟩
    · refine w_condT rfl ?_
      refine w_skip ?_
      refine nx_norm ?_
      refine w_block ?_
      refine w_seq ?_
      refine w_ops ?_
      have hq := bindO_inv hr
      clear hr
      obtain ⟨v11, e11, hr⟩ := hq
      have hq := asI_inv hr
      clear hr
      obtain ⟨x11, rfl, hr⟩ := hq
      refine wo_step (v := (.i .i64 x11)) (s_pure (o_ext rfl e11)) ?_
      have hq := bindO_inv hr
      clear hr
      obtain ⟨v12, e12, hr⟩ := hq
      have hq := asI_inv hr
      clear hr
      obtain ⟨x12, rfl, hr⟩ := hq
      refine wo_step (v := (.i .i32 x12)) (s_pure (o_ext rfl e12)) ?_
      refine wo_step (v := (.i .i64 x11)) (s_pure (p_mv rfl)) ?_
      refine wo_step (v := (.i .i32 x12)) (s_pure (p_mv rfl)) ?_
      refine wo_nil ?_
      refine nx_norm ?_
      refine w_seq ?_
      refine w_ops ?_
      refine wo_step (v := (.s s0)) (s_pure (p_mv g0)) ?_
      have hq := bindO_inv hr
      clear hr
      obtain ⟨v14, e14, hr⟩ := hq
      have hq := asI_inv hr
      clear hr
      obtain ⟨x14, rfl, hr⟩ := hq
      refine wo_step (v := (.i .i64 x14)) (s_pure (o_len rfl e14)) ?_
      have hq := forceI_inv hr
      clear hr
      obtain ⟨x15, e15, hr⟩ := hq
      refine wo_step (v := (.i .i64 x15)) (s_pure (p_bin rfl rfl (b_sub.trans (ci e15)))) ?_
      refine wo_step (v := (.i .i64 x11)) (s_pure (p_mv rfl)) ?_
      have hq := forceI_inv hr
      clear hr
      obtain ⟨x17, e17, hr⟩ := hq
      refine wo_step (v := (.i .i64 x17)) (s_pure (p_bin rfl rfl (b_sub.trans (ci e17)))) ?_
      have hq := forceI_inv hr
      clear hr
      obtain ⟨x18, e18, hr⟩ := hq
      refine wo_step (v := (.i .i64 x18)) (s_pure (p_bin rfl rfl (b_add.trans (ci e18)))) ?_
      have hq := bindP_inv hr
      clear hr
      obtain ⟨v19, m_4, e19, hr⟩ := hq
      have hq := asI_inv hr
      clear hr
      obtain ⟨x19, rfl, hr⟩ := hq
      refine wo_step (v := (.i .i64 x19)) (s_call (mc rfl mn) (callM_le hM.call e19)) ?_
      refine wo_step (v := (.i .i64 x19)) (s_pure (p_mv rfl)) ?_
      refine wo_nil ?_
      refine nx_norm ?_
      refine w_seq ?_
      refine w_ops ?_
      refine wo_step (v := (.i .i32 x12)) (s_pure (p_mv rfl)) ?_
      have hq := forceI_inv hr
      clear hr
      obtain ⟨x21, e21, hr⟩ := hq
      refine wo_step (v := (.i .i32 x21)) (s_pure (p_bin rfl rfl (b_sub.trans (ci e21)))) ?_
      refine wo_step (v := (.i .i32 0)) (s_pure (p_mv rfl)) ?_
      refine wo_nil ?_
      refine nx_norm ?_
      refine w_block ?_
      have hq := bindO_inv hr
      clear hr
      obtain ⟨o, hl, hr⟩ := hq
      obtain ⟨n, hl⟩ := hM.loop _ _ _ hl
      refine jp_mono (w_loop _ (g56_I1 s0 x19 v8 x21 m_4) (g56_J1 s0 x19 v8 x21 m_4) ?_ n _ _ _ _ hl ⟨rfl, gl g3, gl rfl, gl g0, gl rfl, gl g8, gl rfl⟩) ?_
      · clear hr hl
        intro s mm_1 t_2 o hi hr
        obtain ⟨x3_1, x22⟩ := s
        obtain ⟨rfl, g3, g22, g0, g6, g8, g21⟩ := hi
        unfold g56_b1 at hr
        refine w_seq ?_
        refine w_ops ?_
        have hq := forceB_inv hr
        clear hr
        obtain ⟨c23, e23, hr⟩ := hq
        refine wo_step (v := (.b c23)) (s_pure (p_bin g22 g21 (b_lss.trans (cb e23)))) ?_
        refine wo_nil ?_
        refine nx_norm ?_
        refine w_seq ?_
        have hq := cond_inv hr
        clear hr
        rcases hq with ⟨rfl, hr⟩ | ⟨rfl, hr⟩
        · refine w_condT rfl ?_
          refine w_skip ?_
          refine nx_norm ?_
          refine w_seq ?_
          refine w_block ?_
          refine w_ops ?_
          refine wo_step (v := (.i .i64 x3_1)) (s_pure (p_mv g3)) ?_
          refine wo_step (v := (.i .i64 x19)) (s_pure (p_mv g6)) ?_
          have hq := forceI_inv hr
          clear hr
          obtain ⟨x26, e26, hr⟩ := hq
          refine wo_step (v := (.i .i64 x26)) (s_pure (p_bin rfl rfl (b_add.trans (ci e26)))) ?_
          have hq := forceI_inv hr
          clear hr
          obtain ⟨x27, e27, hr⟩ := hq
          refine wo_step (v := (.i .i64 x27)) (s_pure ((p_mx rfl rfl).trans (ci e27))) ?_
          refine wo_step (v := (.i .i64 x27)) (s_pure (p_mv rfl)) ?_
          refine wo_nil ?_
          refine bk_norm ?_
          refine nx_norm ?_
          refine w_ops ?_
          have hq := forceI_inv hr
          clear hr
          obtain ⟨x28, e28, hr⟩ := hq
          refine wo_step (v := (.i .i32 x28)) (s_pure (p_bin g22 rfl (b_add.trans (ci e28)))) ?_
          refine wo_step (v := (.i .i32 x28)) (s_pure (p_mv rfl)) ?_
          refine wo_nil ?_
          cases hr
          exact ⟨_, _, rfl, rfl, rfl, gl rfl, gl rfl, gl g0, gl g6, gl g8, gl g21⟩
        · refine w_condF rfl ?_
          refine w_exit ?_
          refine nx_exit ?_
          cases hr
          exact ⟨_, _, rfl, ne_norm_exit, rfl, rfl, gl g3, gl g0, gl g8⟩
      · obtain ⟨x3_2, ho⟩ : ∃ z, z = o := ⟨_, rfl⟩
        subst ho
        rintro _ mm t_3 ⟨rfl, rfl, g3, g0, g8⟩
        refine bk_hit ?_
        refine bk_norm ?_
        cases hr
        exact ⟨_, _, rfl, rfl, rfl, gl g3, gl g0, gl g8⟩
    · refine w_condF rfl ?_
      refine w_exit ?_
      refine nx_exit ?_
      cases hr
      exact ⟨_, _, rfl, ne_norm_exit, rfl, rfl, gl g3⟩
  · obtain ⟨x3_3, m_5⟩ := o_1
    rintro _ mm_2 t_4 ⟨rfl, rfl, g3⟩
    refine bk_hit ?_
    refine nx_norm ?_
    refine w_seq ?_
    refine w_ops ?_
    refine wo_step (v := (.i .i64 x3_3)) (s_pure (p_mv g3)) ?_
    refine wo_step (v := (.i .i64 x3_3)) (s_pure (p_mv rfl)) ?_
    refine wo_nil ?_
    refine nx_norm ?_
    refine w_ret ?_
    exact qf ret_ok (rt rfl rn) hr

/- dibber/seed.parts -/
abbrev g60_I0  (s : Int × AVal × Int × Int × Int × Mm) (m1 : Mm) (t1 : Tr) : Prop :=
  match s with
  | (x0_1, v3, x4, x5, x6, m_3) => m_3 = m1 ∧ t1.get 0 = (.i .i64 x0_1) ∧ t1.get 3 = v3 ∧ t1.get 4 = (.i .i64 x4) ∧ t1.get 5 = (.i .i64 x5) ∧ t1.get 6 = (.i .i64 x6)
abbrev g60_J0  (o : (AVal × Mm)) (e : AExit) (m1 : Mm) (t1 : Tr) : Prop :=
  match o with
  | (y3, mo) => e = (.exit 0) ∧ mo = m1 ∧ t1.get 3 = y3
abbrev g60_J1 (x4 : Int) (x5 : Int) (x6 : Int) (o : (Int × AVal × Mm)) (e : AExit) (m1 : Mm) (t1 : Tr) : Prop :=
  match o with
  | (y0, y3, mo) => e = .norm ∧ mo = m1 ∧ t1.get 0 = (.i .i64 y0) ∧ t1.get 3 = y3 ∧ t1.get 4 = (.i .i64 x4) ∧ t1.get 5 = (.i .i64 x5) ∧ t1.get 6 = (.i .i64 x6)
def g60_b0 (M : Means) (ro : List ABlk)  (x0_1 : Int) (v3 : AVal) (x4 : Int) (x5 : Int) (x6 : Int) (m_3 : Mm) : Option ((Int × AVal × Int × Int × Int × Mm) ⊕ ((AVal × Mm))) :=
  forceB (ltI 0 x0_1) fun c10 =>
  cond c10 (
    forceB (!ltI x0_1 x4) fun c15 =>
    bindO (α := (Int × AVal × Mm)) (
      cond c15 (
        bindP (stepM ro m_3 (.bsl 3 1 [(AVal.i IntKind.i64 0)] 1 [((0, 1), .c (.i .i64 x6))])) fun v18 m_4 =>
        bindP (stepM ro m_4 (.app 3 1 8 [(AVal.i IntKind.i64 0)] (.c v3) (.c v18))) fun v19 m_5 =>
        forceI (wr .i64 (x0_1 - x4)) fun x22 =>
        some (x22, v19, m_5)) (
        some (x0_1, v3, m_3))) fun ⟨x0_2, v3_1, m_6⟩ =>
    forceI (wr .i64 (x4 - x5)) fun x26 =>
    forceI (wr .i64 (x6 - 1)) fun x12 =>
    some (.inl (x0_2, v3_1, x5, x26, x12, m_6))) (
    some (.inr (v3, m_3)))
def g60 (M : Means) (ro : List ABlk) (x0 : Int) (m0 : Mm) : Option (AVal × Heap × Nat × Nat) :=
  bindP (callM M.call m0 71 [(.i .i64 88)]) fun v7 m_1 =>
  asI .i64 v7 fun x7 =>
  bindP (callM M.call m_1 71 [(.i .i64 87)]) fun v8 m_2 =>
  asI .i64 v8 fun x8 =>
  bindO (M.loop (S := Int × AVal × Int × Int × Int × Mm) (R := (AVal × Mm)) (fun s => g60_b0 M ro  s.1 s.2.1 s.2.2.1 s.2.2.2.1 s.2.2.2.2.1 s.2.2.2.2.2) (x0, AVal.nsl, x7, x8, 88, m_2)) fun ⟨v3_2, m_7⟩ =>
  finM m0.h.length (tupA [v3_2]) m_7

theorem g60_ok {ro : List ABlk} {O : Caller} {M : Means} (hM : M.Ok ⟨F, O⟩ ro) {x0 h r} (ho : O 60 [(.i .i64 x0)] h = none) (hr : g60 M ro x0 ⟨h, h.length, h.length⟩ = some r) : callX ⟨F, O⟩ ro 60 [(.i .i64 x0)] h = some r := by
  refine callX_of (F := ⟨F, O⟩) (fn := fn60) (g := g60 M ro x0) ho rfl rfl hr ?_
  clear ho
  clear hr
  intro m0 t0 ht hr
  have g0 : t0.get 0 = (.i .i64 x0) := ht 0
  clear ht
  unfold g60 at hr
  refine w_seq ?_
  refine w_ops ?_
  refine wo_step (v := AVal.nsl) (s_pure (p_mv rfl)) ?_
  refine wo_nil ?_
  refine nx_norm ?_
  refine w_seq ?_
  refine w_ops ?_
  refine wo_step (v := AVal.nsl) (s_pure (p_mv rfl)) ?_
  refine wo_nil ?_
  refine nx_norm ?_
  refine w_seq ?_
  refine w_ops ?_
  have hq := bindP_inv hr
  clear hr
  obtain ⟨v7, m_1, e7, hr⟩ := hq
  have hq := asI_inv hr
  clear hr
  obtain ⟨x7, rfl, hr⟩ := hq
  refine wo_step (v := (.i .i64 x7)) (s_call (mc rfl mn) (callM_le hM.call e7)) ?_
  have hq := bindP_inv hr
  clear hr
  obtain ⟨v8, m_2, e8, hr⟩ := hq
  have hq := asI_inv hr
  clear hr
  obtain ⟨x8, rfl, hr⟩ := hq
  refine wo_step (v := (.i .i64 x8)) (s_call (mc rfl mn) (callM_le hM.call e8)) ?_
  refine wo_step (v := (.i .i64 x7)) (s_pure (p_mv rfl)) ?_
  refine wo_step (v := (.i .i64 x8)) (s_pure (p_mv rfl)) ?_
  refine wo_nil ?_
  refine nx_norm ?_
  refine w_seq ?_
  refine w_seq ?_
  refine w_ops ?_
  refine wo_step (v := (.i .i64 88)) (s_pure (p_mv rfl)) ?_
  refine wo_nil ?_
  refine nx_norm ?_
  refine w_block ?_
  have hq := bindO_inv hr
  clear hr
  obtain ⟨o_1, hl, hr⟩ := hq
  obtain ⟨n, hl⟩ := hM.loop _ _ _ hl
  refine jp_mono (w_loop _ (g60_I0 ) (g60_J0 ) ?_ n _ _ _ _ hl ⟨rfl, gl g0, gl rfl, gl rfl, gl rfl, gl rfl⟩) ?_
  · clear hr hl
    intro s mm_2 t_1 o hi hr
    obtain ⟨x0_1, v3, x4, x5, x6, m_3⟩ := s
    obtain ⟨rfl, g0, g3, g4, g5, g6⟩ := hi
    unfold g60_b0 at hr
    refine w_seq ?_
    refine w_seq ?_
    refine w_ops ?_
    refine wo_step (v := (.i .i64 x0_1)) (s_pure (p_mv g0)) ?_
    have hq := forceB_inv hr
    clear hr
    obtain ⟨c10, e10, hr⟩ := hq
    refine wo_step (v := (.b c10)) (s_pure (p_bin rfl rfl (b_gtr.trans (cb e10)))) ?_
    refine wo_nil ?_
    refine nx_norm ?_
    have hq := cond_inv hr
    clear hr
    rcases hq with ⟨rfl, hr⟩ | ⟨rfl, hr⟩
    · refine w_condT rfl ?_
      refine w_skip ?_
      refine nx_norm ?_
      refine w_seq ?_
      refine w_block ?_
      refine w_seq ?_
      refine w_seq ?_
      refine w_ops ?_
      refine wo_step (v := (.i .i64 x4)) (s_pure (p_mv g4)) ?_
      refine wo_step (v := (.i .i64 x0_1)) (s_pure (p_mv g0)) ?_
      have hq := forceB_inv hr
      clear hr
      obtain ⟨c15, e15, hr⟩ := hq
      refine wo_step (v := (.b c15)) (s_pure (p_bin rfl rfl (b_leq.trans (cb e15)))) ?_
      refine wo_nil ?_
      refine nx_norm ?_
      have hq := bindO_inv hr
      clear hr
      obtain ⟨o, hr, hk⟩ := hq
      refine jp_mono (J := g60_J1 x4 x5 x6 o) ?_ ?_
      · clear hk
        have hq := cond_inv hr
        clear hr
        rcases hq with ⟨rfl, hr⟩ | ⟨rfl, hr⟩
        · refine w_condT rfl ?_
          refine w_seq ?_
          refine w_ops ?_
          refine wo_step (v := v3) (s_pure (p_mv g3)) ?_
          refine wo_step (v := (.i .i64 x6)) (s_pure (p_mv g6)) ?_
          have hq := bindP_inv hr
          clear hr
          obtain ⟨v18, m_4, e18, hr⟩ := hq
          refine wo_step (v := v18) (s_bsl (qc rfl qn) e18) ?_
          have hq := bindP_inv hr
          clear hr
          obtain ⟨v19, m_5, e19, hr⟩ := hq
          refine wo_step (v := v19) (s_app rfl rfl e19) ?_
          refine wo_step (v := v19) (s_pure (p_mv rfl)) ?_
          refine wo_nil ?_
          refine nx_norm ?_
          refine w_ops ?_
          refine wo_step (v := (.i .i64 x0_1)) (s_pure (p_mv g0)) ?_
          refine wo_step (v := (.i .i64 x4)) (s_pure (p_mv g4)) ?_
          have hq := forceI_inv hr
          clear hr
          obtain ⟨x22, e22, hr⟩ := hq
          refine wo_step (v := (.i .i64 x22)) (s_pure (p_bin rfl rfl (b_sub.trans (ci e22)))) ?_
          refine wo_step (v := (.i .i64 x22)) (s_pure (p_mv rfl)) ?_
          refine wo_nil ?_
          cases hr
          exact ⟨_, _, rfl, rfl, rfl, gl rfl, gl rfl, gl g4, gl g5, gl g6⟩
        · refine w_condF rfl ?_
          refine w_skip ?_
          cases hr
          exact ⟨_, _, rfl, rfl, rfl, gl g0, gl g3, gl g4, gl g5, gl g6⟩
      · clear hr
        have hr := hk
        clear hk
        obtain ⟨x0_2, v3_1, m_6⟩ := o
        rintro _ mm t_2 ⟨rfl, rfl, g0, g3, g4, g5, g6⟩
        refine nx_norm ?_
        refine w_ops ?_
        refine wo_step (v := (.i .i64 x5)) (s_pure (p_mv g5)) ?_
        refine wo_step (v := (.i .i64 x4)) (s_pure (p_mv g4)) ?_
        refine wo_step (v := (.i .i64 x5)) (s_pure (p_mv g5)) ?_
        have hq := forceI_inv hr
        clear hr
        obtain ⟨x26, e26, hr⟩ := hq
        refine wo_step (v := (.i .i64 x26)) (s_pure (p_bin rfl rfl (b_sub.trans (ci e26)))) ?_
        refine wo_step (v := (.i .i64 x5)) (s_pure (p_mv rfl)) ?_
        refine wo_step (v := (.i .i64 x26)) (s_pure (p_mv rfl)) ?_
        refine wo_nil ?_
        refine bk_norm ?_
        refine nx_norm ?_
        refine w_ops ?_
        refine wo_step (v := (.i .i64 x6)) (s_pure (p_mv g6)) ?_
        have hq := forceI_inv hr
        clear hr
        obtain ⟨x12, e12, hr⟩ := hq
        refine wo_step (v := (.i .i64 x12)) (s_pure (p_bin rfl rfl (b_sub.trans (ci e12)))) ?_
        refine wo_step (v := (.i .i64 x12)) (s_pure (p_mv rfl)) ?_
        refine wo_nil ?_
        cases hr
        exact ⟨_, _, rfl, rfl, rfl, gl g0, gl g3, gl rfl, gl rfl, gl rfl⟩
    · refine w_condF rfl ?_
      refine w_exit ?_
      refine nx_exit ?_
      cases hr
      exact ⟨_, _, rfl, ne_norm_exit, rfl, rfl, gl g3⟩
  · obtain ⟨v3_2, m_7⟩ := o_1
    rintro _ mm_1 t_3 ⟨rfl, rfl, g3⟩
    refine bk_hit ?_
    refine nx_norm ?_
    refine w_seq ?_
    refine w_ops ?_
    refine wo_step (v := v3_2) (s_pure (p_mv g3)) ?_
    refine wo_step (v := v3_2) (s_pure (p_mv rfl)) ?_
    refine wo_nil ?_
    refine nx_norm ?_
    refine w_ret ?_
    exact qf ret_ok (rt rfl rn) hr

/- dibber/seed.fibonacci -/
abbrev g71_I0 (x0 : Int) (x6 : Int) (m0 : Mm) (s : Int × Int × Int) (m1 : Mm) (t1 : Tr) : Prop :=
  match s with
  | (x3, x4, x7) => m0 = m1 ∧ t1.get 3 = (.i .i64 x3) ∧ t1.get 4 = (.i .i64 x4) ∧ t1.get 7 = (.i .i64 x7) ∧ t1.get 0 = (.i .i64 x0) ∧ t1.get 6 = (.i .i64 x6)
abbrev g71_J0 (x0 : Int) (x6 : Int) (m0 : Mm) (o : (Int × Int)) (e : AExit) (m1 : Mm) (t1 : Tr) : Prop :=
  match o with
  | (y3, y4) => e = (.exit 0) ∧ m0 = m1 ∧ t1.get 3 = (.i .i64 y3) ∧ t1.get 4 = (.i .i64 y4) ∧ t1.get 0 = (.i .i64 x0)
def g71_b0 (M : Means) (ro : List ABlk) (x0 : Int) (x6 : Int) (m0 : Mm) (x3 : Int) (x4 : Int) (x7 : Int) : Option ((Int × Int × Int) ⊕ ((Int × Int))) :=
  forceB (ltI x7 x6) fun c8 =>
  cond c8 (
    forceI (wr .i64 (x3 + x4)) fun x12 =>
    forceI (mxV false x12 1152921504606846977) fun x13 =>
    forceI (wr .i64 (x7 + 1)) fun x14 =>
    some (.inl (x4, x13, x14))) (
    some (.inr (x3, x4)))
abbrev g71_I1 (x16 : Int) (m0 : Mm) (s : Int × Int × Int) (m1 : Mm) (t1 : Tr) : Prop :=
  match s with
  | (x3_2, x4_2, x17) => m0 = m1 ∧ t1.get 3 = (.i .i64 x3_2) ∧ t1.get 4 = (.i .i64 x4_2) ∧ t1.get 17 = (.i .i64 x17) ∧ t1.get 16 = (.i .i64 x16)
abbrev g71_J1 (x16 : Int) (m0 : Mm) (o : Int) (e : AExit) (m1 : Mm) (t1 : Tr) : Prop :=
  match o with
  | y3 => e = (.exit 2) ∧ m0 = m1 ∧ t1.get 3 = (.i .i64 y3)
def g71_b1 (M : Means) (ro : List ABlk) (x16 : Int) (m0 : Mm) (x3_2 : Int) (x4_2 : Int) (x17 : Int) : Option ((Int × Int × Int) ⊕ (Int)) :=
  forceB (ltI x17 x16) fun c18 =>
  cond c18 (
    forceI (wr .i64 (x4_2 - x3_2)) fun x21 =>
    forceI (wr .i64 (x17 + 1)) fun x23 =>
    some (.inl (x21, x3_2, x23))) (
    some (.inr x3_2))
def g71 (M : Means) (ro : List ABlk) (x0 : Int) (m0 : Mm) : Option (AVal × Heap × Nat × Nat) :=
  forceI (mxV false x0 89) fun x6 =>
  bindO (M.loop (S := Int × Int × Int) (R := (Int × Int)) (fun s => g71_b0 M ro x0 x6 m0 s.1 s.2.1 s.2.2) (0, 1, 0)) fun ⟨x3_1, x4_1⟩ =>
  forceI (wr .i64 (0 - x0)) fun x16 =>
  bindO (M.loop (S := Int × Int × Int) (R := Int) (fun s => g71_b1 M ro x16 m0 s.1 s.2.1 s.2.2) (x3_1, x4_1, 0)) fun x3_3 =>
  finM m0.h.length (tupA [(.i .i64 x3_3)]) m0

theorem g71_ok {ro : List ABlk} {O : Caller} {M : Means} (hM : M.Ok ⟨F, O⟩ ro) {x0 h r} (ho : O 71 [(.i .i64 x0)] h = none) (hr : g71 M ro x0 ⟨h, h.length, h.length⟩ = some r) : callX ⟨F, O⟩ ro 71 [(.i .i64 x0)] h = some r := by
  refine callX_of (F := ⟨F, O⟩) (fn := fn71) (g := g71 M ro x0) ho rfl rfl hr ?_
  clear ho
  clear hr
  intro m0 t0 ht hr
  have g0 : t0.get 0 = (.i .i64 x0) := ht 0
  clear ht
  unfold g71 at hr
  refine w_seq ?_
  refine w_ops ?_
  refine wo_step (v := (.i .i64 0)) (s_pure (p_mv rfl)) ?_
  refine wo_nil ?_
  refine nx_norm ?_
  refine w_seq ?_
  refine w_ops ?_
  refine wo_step (v := (.i .i64 0)) (s_pure (p_mv rfl)) ?_
  refine wo_step (v := (.i .i64 1)) (s_pure (p_mv rfl)) ?_
  refine wo_nil ?_
  refine nx_norm ?_
  refine w_seq ?_
  refine w_seq ?_
  refine w_ops ?_
  refine wo_step (v := (.i .i64 x0)) (s_pure (p_mv g0)) ?_
  have hq := forceI_inv hr
  clear hr
  obtain ⟨x6, e6, hr⟩ := hq
  refine wo_step (v := (.i .i64 x6)) (s_pure ((p_mx rfl rfl).trans (ci e6))) ?_
  refine wo_step (v := (.i .i64 0)) (s_pure (p_mv rfl)) ?_
  refine wo_nil ?_
  refine nx_norm ?_
  refine w_block ?_
  have hq := bindO_inv hr
  clear hr
  obtain ⟨o, hl_1, hr⟩ := hq
  obtain ⟨n_1, hl_1⟩ := hM.loop _ _ _ hl_1
  refine jp_mono (w_loop _ (g71_I0 x0 x6 m0) (g71_J0 x0 x6 m0) ?_ n_1 _ _ _ _ hl_1 ⟨rfl, gl rfl, gl rfl, gl rfl, gl g0, gl rfl⟩) ?_
  · clear hr hl_1
    intro s mm_3 t_1 o hi hr
    obtain ⟨x3, x4, x7⟩ := s
    obtain ⟨rfl, g3, g4, g7, g0, g6⟩ := hi
    unfold g71_b0 at hr
    refine w_seq ?_
    refine w_ops ?_
    have hq := forceB_inv hr
    clear hr
    obtain ⟨c8, e8, hr⟩ := hq
    refine wo_step (v := (.b c8)) (s_pure (p_bin g7 g6 (b_lss.trans (cb e8)))) ?_
    refine wo_nil ?_
    refine nx_norm ?_
    refine w_seq ?_
    have hq := cond_inv hr
    clear hr
    rcases hq with ⟨rfl, hr⟩ | ⟨rfl, hr⟩
    · refine w_condT rfl ?_
      refine w_skip ?_
      refine nx_norm ?_
      refine w_seq ?_
      refine w_block ?_
      refine w_ops ?_
      refine wo_step (v := (.i .i64 x4)) (s_pure (p_mv g4)) ?_
      refine wo_step (v := (.i .i64 x3)) (s_pure (p_mv g3)) ?_
      refine wo_step (v := (.i .i64 x4)) (s_pure (p_mv g4)) ?_
      have hq := forceI_inv hr
      clear hr
      obtain ⟨x12, e12, hr⟩ := hq
      refine wo_step (v := (.i .i64 x12)) (s_pure (p_bin rfl rfl (b_add.trans (ci e12)))) ?_
      have hq := forceI_inv hr
      clear hr
      obtain ⟨x13, e13, hr⟩ := hq
      refine wo_step (v := (.i .i64 x13)) (s_pure ((p_mx rfl rfl).trans (ci e13))) ?_
      refine wo_step (v := (.i .i64 x4)) (s_pure (p_mv rfl)) ?_
      refine wo_step (v := (.i .i64 x13)) (s_pure (p_mv rfl)) ?_
      refine wo_nil ?_
      refine bk_norm ?_
      refine nx_norm ?_
      refine w_ops ?_
      have hq := forceI_inv hr
      clear hr
      obtain ⟨x14, e14, hr⟩ := hq
      refine wo_step (v := (.i .i64 x14)) (s_pure (p_bin g7 rfl (b_add.trans (ci e14)))) ?_
      refine wo_step (v := (.i .i64 x14)) (s_pure (p_mv rfl)) ?_
      refine wo_nil ?_
      cases hr
      exact ⟨_, _, rfl, rfl, rfl, gl rfl, gl rfl, gl rfl, gl g0, gl g6⟩
    · refine w_condF rfl ?_
      refine w_exit ?_
      refine nx_exit ?_
      cases hr
      exact ⟨_, _, rfl, ne_norm_exit, rfl, rfl, gl g3, gl g4, gl g0⟩
  · obtain ⟨x3_1, x4_1⟩ := o
    rintro _ mm_2 t_2 ⟨rfl, rfl, g3, g4, g0⟩
    refine bk_hit ?_
    refine nx_norm ?_
    refine w_seq ?_
    refine w_seq ?_
    refine w_ops ?_
    refine wo_step (v := (.i .i64 x0)) (s_pure (p_mv g0)) ?_
    have hq := forceI_inv hr
    clear hr
    obtain ⟨x16, e16, hr⟩ := hq
    refine wo_step (v := (.i .i64 x16)) (s_pure ((p_neg rfl).trans (ci e16))) ?_
    refine wo_step (v := (.i .i64 0)) (s_pure (p_mv rfl)) ?_
    refine wo_nil ?_
    refine nx_norm ?_
    refine w_block ?_
    have hq := bindO_inv hr
    clear hr
    obtain ⟨o_1, hl, hr⟩ := hq
    obtain ⟨n, hl⟩ := hM.loop _ _ _ hl
    refine jp_mono (w_loop _ (g71_I1 x16 m0) (g71_J1 x16 m0) ?_ n _ _ _ _ hl ⟨rfl, gl g3, gl g4, gl rfl, gl rfl⟩) ?_
    · clear hr hl
      intro s mm_1 t_3 o hi hr
      obtain ⟨x3_2, x4_2, x17⟩ := s
      obtain ⟨rfl, g3, g4, g17, g16⟩ := hi
      unfold g71_b1 at hr
      refine w_seq ?_
      refine w_ops ?_
      have hq := forceB_inv hr
      clear hr
      obtain ⟨c18, e18, hr⟩ := hq
      refine wo_step (v := (.b c18)) (s_pure (p_bin g17 g16 (b_lss.trans (cb e18)))) ?_
      refine wo_nil ?_
      refine nx_norm ?_
      refine w_seq ?_
      have hq := cond_inv hr
      clear hr
      rcases hq with ⟨rfl, hr⟩ | ⟨rfl, hr⟩
      · refine w_condT rfl ?_
        refine w_skip ?_
        refine nx_norm ?_
        refine w_seq ?_
        refine w_block ?_
        refine w_ops ?_
        refine wo_step (v := (.i .i64 x4_2)) (s_pure (p_mv g4)) ?_
        refine wo_step (v := (.i .i64 x3_2)) (s_pure (p_mv g3)) ?_
        have hq := forceI_inv hr
        clear hr
        obtain ⟨x21, e21, hr⟩ := hq
        refine wo_step (v := (.i .i64 x21)) (s_pure (p_bin rfl rfl (b_sub.trans (ci e21)))) ?_
        refine wo_step (v := (.i .i64 x3_2)) (s_pure (p_mv g3)) ?_
        refine wo_step (v := (.i .i64 x21)) (s_pure (p_mv rfl)) ?_
        refine wo_step (v := (.i .i64 x3_2)) (s_pure (p_mv rfl)) ?_
        refine wo_nil ?_
        refine bk_norm ?_
        refine nx_norm ?_
        refine w_ops ?_
        have hq := forceI_inv hr
        clear hr
        obtain ⟨x23, e23, hr⟩ := hq
        refine wo_step (v := (.i .i64 x23)) (s_pure (p_bin g17 rfl (b_add.trans (ci e23)))) ?_
        refine wo_step (v := (.i .i64 x23)) (s_pure (p_mv rfl)) ?_
        refine wo_nil ?_
        cases hr
        exact ⟨_, _, rfl, rfl, rfl, gl rfl, gl rfl, gl rfl, gl g16⟩
      · refine w_condF rfl ?_
        refine w_exit ?_
        refine nx_exit ?_
        cases hr
        exact ⟨_, _, rfl, ne_norm_exit, rfl, rfl, gl g3⟩
    · obtain ⟨x3_3, ho⟩ : ∃ z, z = o_1 := ⟨_, rfl⟩
      subst ho
      rintro _ mm t_4 ⟨rfl, rfl, g3⟩
      refine bk_hit ?_
      refine nx_norm ?_
      refine w_seq ?_
      refine w_ops ?_
      refine wo_step (v := (.i .i64 x3_3)) (s_pure (p_mv g3)) ?_
      refine wo_step (v := (.i .i64 x3_3)) (s_pure (p_mv rfl)) ?_
      refine wo_nil ?_
      refine nx_norm ?_
      refine w_ret ?_
      exact qf ret_ok (rt rfl rn) hr

/- dibber/seed.leastPart -/

def g72 (M : Means) (ro : List ABlk) (x0 : Int) (m0 : Mm) : Option (AVal × Heap × Nat × Nat) :=
  bindP (callM M.call m0 60 [(.i .i64 x0)]) fun v5 m_1 =>
  bindO (evP .e (.len false (.c v5))) fun v8 =>
  asI .i64 v8 fun x8 =>
  forceI (wr .i64 (x8 - 1)) fun x9 =>
  bindO (evP .e (.ixS 1 (.c v5) (.c (.i .i64 x9)))) fun v10 =>
  bindO (ldM ro m_1 true 1 v10) fun v11 =>
  asI .i64 v11 fun x11 =>
  finM m0.h.length (tupA [(.i .i64 x11)]) m_1

theorem g72_ok {ro : List ABlk} {O : Caller} {M : Means} (hM : M.Ok ⟨F, O⟩ ro) {x0 h r} (ho : O 72 [(.i .i64 x0)] h = none) (hr : g72 M ro x0 ⟨h, h.length, h.length⟩ = some r) : callX ⟨F, O⟩ ro 72 [(.i .i64 x0)] h = some r := by
  refine callX_of (F := ⟨F, O⟩) (fn := fn72) (g := g72 M ro x0) ho rfl rfl hr ?_
  clear ho
  clear hr
  intro m0 t0 ht hr
  have g0 : t0.get 0 = (.i .i64 x0) := ht 0
  clear ht
  unfold g72 at hr
  refine w_seq ?_
  refine w_ops ?_
  refine wo_step (v := (.i .i64 0)) (s_pure (p_mv rfl)) ?_
  refine wo_nil ?_
  refine nx_norm ?_
  refine w_seq ?_
  refine w_ops ?_
  refine wo_step (v := (.i .i64 x0)) (s_pure (p_mv g0)) ?_
  have hq := bindP_inv hr
  clear hr
  obtain ⟨v5, m_1, e5, hr⟩ := hq
  refine wo_step (v := v5) (s_call (mc rfl mn) (callM_le hM.call e5)) ?_
  refine wo_step (v := v5) (s_pure (p_mv rfl)) ?_
  refine wo_nil ?_
  refine nx_norm ?_
  refine w_seq ?_
  refine w_ops ?_
  refine wo_step (v := v5) (s_pure (p_mv rfl)) ?_
  refine wo_step (v := v5) (s_pure (p_mv rfl)) ?_
  have hq := bindO_inv hr
  clear hr
  obtain ⟨v8, e8, hr⟩ := hq
  have hq := asI_inv hr
  clear hr
  obtain ⟨x8, rfl, hr⟩ := hq
  refine wo_step (v := (.i .i64 x8)) (s_pure (o_len rfl e8)) ?_
  have hq := forceI_inv hr
  clear hr
  obtain ⟨x9, e9, hr⟩ := hq
  refine wo_step (v := (.i .i64 x9)) (s_pure (p_bin rfl rfl (b_sub.trans (ci e9)))) ?_
  have hq := bindO_inv hr
  clear hr
  obtain ⟨v10, e10, hr⟩ := hq
  refine wo_step (v := v10) (s_pure (o_ixS rfl rfl e10)) ?_
  have hq := bindO_inv hr
  clear hr
  obtain ⟨v11, e11, hr⟩ := hq
  have hq := asI_inv hr
  clear hr
  obtain ⟨x11, rfl, hr⟩ := hq
  refine wo_step (v := (.i .i64 x11)) (s_ld rfl e11) ?_
  refine wo_step (v := (.i .i64 x11)) (s_pure (p_mv rfl)) ?_
  refine wo_nil ?_
  refine nx_norm ?_
  refine w_ret ?_
  exact qf ret_ok (rt rfl rn) hr

/- bytes.Repeat -/
abbrev g73_J0 (v0 : AVal) (x26 : Int) (m_2 : Mm) (o : Bool) (m1 : Mm) (t1 : Tr) : Prop :=
  match o with
  | c32 => m_2 = m1 ∧ t1.get 32 = (.b c32) ∧ t1.get 0 = v0 ∧ t1.get 6 = (.i .u64 x26)
abbrev g73_J1 (v0 : AVal) (x35 : Int) (m_2 : Mm) (o : Int) (e : AExit) (m1 : Mm) (t1 : Tr) : Prop :=
  match o with
  | y8 => e = .norm ∧ m_2 = m1 ∧ t1.get 8 = (.i .i64 y8) ∧ t1.get 0 = v0 ∧ t1.get 7 = (.i .i64 x35)
abbrev g73_J2 (v0 : AVal) (x35 : Int) (m_2 : Mm) (o : Int) (e : AExit) (m1 : Mm) (t1 : Tr) : Prop :=
  match o with
  | y8 => e = .norm ∧ m_2 = m1 ∧ t1.get 8 = (.i .i64 y8) ∧ t1.get 0 = v0 ∧ t1.get 7 = (.i .i64 x35)
abbrev g73_I3 (x35 : Int) (x8_1 : Int) (v57 : AVal) (s : Int × Mm) (m1 : Mm) (t1 : Tr) : Prop :=
  match s with
  | (x10, m_6) => m_6 = m1 ∧ t1.get 10 = (.i .i64 x10) ∧ t1.get 7 = (.i .i64 x35) ∧ t1.get 8 = (.i .i64 x8_1) ∧ t1.get 9 = v57
abbrev g73_J3 (x35 : Int) (x8_1 : Int) (v57 : AVal) (o : Mm) (e : AExit) (m1 : Mm) (t1 : Tr) : Prop :=
  match o with
  | mo => e = (.exit 0) ∧ mo = m1 ∧ t1.get 9 = v57
def g73_b3 (M : Means) (ro : List ABlk) (x35 : Int) (x8_1 : Int) (v57 : AVal) (x10 : Int) (m_6 : Mm) : Option ((Int × Mm) ⊕ (Mm)) :=
  forceB (ltI x10 x35) fun c63 =>
  cond c63 (
    forceI (mxV false x10 x8_1) fun x66 =>
    bindO (evP .e (.slS 1 (.c v57) (some (.c (.i .i64 x10))) none none)) fun v70 =>
    bindO (evP .e (.slS 1 (.c v57) none (some (.c (.i .i64 x66))) none)) fun v73 =>
    bindP (stepM ro m_6 (.cpy 1 (.c v70) (.c v73))) fun v74 m_7 =>
    asI .i64 v74 fun x74 =>
    forceI (wr .i64 (x10 + x74)) fun x75 =>
    some (.inl (x75, m_7))) (
    some (.inr m_6))
def g73 (M : Means) (ro : List ABlk) (v0 : AVal) (x1 : Int) (m0 : Mm) : Option (AVal × Heap × Nat × Nat) :=
  forceB (eqI x1 0) fun c13 =>
  cond c13 (
    bindP (stepM ro m0 (.bsl 5 1 [(AVal.i IntKind.u8 0)] 0 [])) fun v14 m_1 =>
    finM m0.h.length (tupA [v14]) m_1) (
    forceB (ltI x1 0) fun c16 =>
    cond c16 (
      none) (
      bindO (evP .e (.len false (.c v0))) fun v20 =>
      asI .i64 v20 fun x20 =>
      forceI (wr .u64 x20) fun x21 =>
      forceI (wr .u64 x1) fun x23 =>
      bindP (callM M.call m0 78 [(.i .u64 x21), (.i .u64 x23)]) fun v24 m_2 =>
      bindO (evP .e (.ext 0 (.c v24))) fun v25 =>
      asI .u64 v25 fun x25 =>
      bindO (evP .e (.ext 1 (.c v24))) fun v26 =>
      asI .u64 v26 fun x26 =>
      forceB (ltI 0 x25) fun c28 =>
      bindO (cond c28 (
        some true) (
        forceB (ltI 9223372036854775807 x26) fun c31 =>
        some c31)) fun c32 =>
      cond c32 (
        none) (
        forceI (wr .i64 x26) fun x35 =>
        bindO (evP .e (.len false (.c v0))) fun v37 =>
        asI .i64 v37 fun x37 =>
        forceB (eqI x37 0) fun c38 =>
        cond c38 (
          bindP (stepM ro m_2 (.bsl 5 1 [(AVal.i IntKind.u8 0)] 0 [])) fun v39 m_3 =>
          finM m0.h.length (tupA [v39]) m_3) (
          forceB (ltI 8192 x35) fun c42 =>
          bindO (α := Int) (
            cond c42 (
              bindO (evP .e (.len false (.c v0))) fun v44 =>
              asI .i64 v44 fun x44 =>
              chk (!eqI x44 (.ofNat 0)) <|
              forceI (wr .i64 (Int.tdiv 8192 x44)) fun x45 =>
              bindO (evP .e (.len false (.c v0))) fun v47 =>
              asI .i64 v47 fun x47 =>
              forceI (wr .i64 (x45 * x47)) fun x48 =>
              forceB (eqI x48 0) fun c50 =>
              bindO (α := Int) (
                cond c50 (
                  bindO (evP .e (.len false (.c v0))) fun v52 =>
                  asI .i64 v52 fun x52 =>
                  some x52) (
                  some x48)) fun x8 =>
              some x8) (
              some x35)) fun x8_1 =>
          bindP (stepM ro m_2 (.mnz 5 (.c (.i .i64 x35)))) fun v54 m_4 =>
          bindO (evP .e (.slS 1 (.c v54) none (some (.c (.i .i64 x35))) (some (.c (.i .i64 x35))))) fun v57 =>
          bindP (stepM ro m_4 (.cpy 1 (.c v57) (.c v0))) fun v60 m_5 =>
          asI .i64 v60 fun x60 =>
          bindO (M.loop (S := Int × Mm) (R := Mm) (fun s => g73_b3 M ro x35 x8_1 v57 s.1 s.2) (x60, m_5)) fun m_8 =>
          finM m0.h.length (tupA [v57]) m_8))))

theorem g73_ok {ro : List ABlk} {O : Caller} {M : Means} (hM : M.Ok ⟨F, O⟩ ro) {v0 x1 h r} (ho : O 73 [v0, (.i .i64 x1)] h = none) (hr : g73 M ro v0 x1 ⟨h, h.length, h.length⟩ = some r) : callX ⟨F, O⟩ ro 73 [v0, (.i .i64 x1)] h = some r := by
  refine callX_of (F := ⟨F, O⟩) (fn := fn73) (g := g73 M ro v0 x1) ho rfl rfl hr ?_
  clear ho
  clear hr
  intro m0 t0 ht hr
  have g0 : t0.get 0 = v0 := ht 0
  have g1 : t0.get 1 = (.i .i64 x1) := ht 1
  clear ht
  unfold g73 at hr
  refine w_seq ?_
  refine w_ops ?_
  refine wo_step (v := AVal.nsl) (s_pure (p_mv rfl)) ?_
  refine wo_nil ?_
  refine nx_norm ?_
  refine w_seq ?_
  refine w_seq ?_
  refine w_ops ?_
  refine wo_step (v := (.i .i64 x1)) (s_pure (p_mv g1)) ?_
  have hq := forceB_inv hr
  clear hr
  obtain ⟨c13, e13, hr⟩ := hq
  refine wo_step (v := (.b c13)) (s_pure (p_bin rfl rfl (b_eql.trans (cb e13)))) ?_
  refine wo_nil ?_
  refine nx_norm ?_
  have hq := cond_inv hr
  clear hr
  rcases hq with ⟨rfl, hr⟩ | ⟨rfl, hr⟩
  · refine w_condT rfl ?_
    refine w_seq ?_
    refine w_ops ?_
    have hq := bindP_inv hr
    clear hr
    obtain ⟨v14, m_1, e14, hr⟩ := hq
    refine wo_step (v := v14) (s_bsl qn e14) ?_
    refine wo_step (v := v14) (s_pure (p_mv rfl)) ?_
    refine wo_nil ?_
    refine nx_norm ?_
    refine w_ret ?_
    refine nx_ret ?_
    exact qf ret_ok (rt rfl rn) hr
  · refine w_condF rfl ?_
    refine w_skip ?_
    refine nx_norm ?_
    refine w_seq ?_
    refine w_seq ?_
    refine w_ops ?_
    refine wo_step (v := (.i .i64 x1)) (s_pure (p_mv g1)) ?_
    have hq := forceB_inv hr
    clear hr
    obtain ⟨c16, e16, hr⟩ := hq
    refine wo_step (v := (.b c16)) (s_pure (p_bin rfl rfl (b_lss.trans (cb e16)))) ?_
    refine wo_nil ?_
    refine nx_norm ?_
    have hq := cond_inv hr
    clear hr
    rcases hq with ⟨rfl, hr⟩ | ⟨rfl, hr⟩
    · refine w_condT rfl ?_
      cases hr
    · refine w_condF rfl ?_
      refine w_skip ?_
      refine nx_norm ?_
      refine w_seq ?_
      refine w_ops ?_
      refine wo_step (v := v0) (s_pure (p_mv g0)) ?_
      have hq := bindO_inv hr
      clear hr
      obtain ⟨v20, e20, hr⟩ := hq
      have hq := asI_inv hr
      clear hr
      obtain ⟨x20, rfl, hr⟩ := hq
      refine wo_step (v := (.i .i64 x20)) (s_pure (o_len rfl e20)) ?_
      have hq := forceI_inv hr
      clear hr
      obtain ⟨x21, e21, hr⟩ := hq
      refine wo_step (v := (.i .u64 x21)) (s_pure ((p_conv rfl).trans (ci e21))) ?_
      refine wo_step (v := (.i .i64 x1)) (s_pure (p_mv g1)) ?_
      have hq := forceI_inv hr
      clear hr
      obtain ⟨x23, e23, hr⟩ := hq
      refine wo_step (v := (.i .u64 x23)) (s_pure ((p_conv rfl).trans (ci e23))) ?_
      have hq := bindP_inv hr
      clear hr
      obtain ⟨v24, m_2, e24, hr⟩ := hq
      refine wo_step (v := v24) (s_call (mc rfl (mc rfl mn)) (callM_le hM.call e24)) ?_
      refine wo_step (v := v24) (s_pure (p_mv rfl)) ?_
      have hq := bindO_inv hr
      clear hr
      obtain ⟨v25, e25, hr⟩ := hq
      have hq := asI_inv hr
      clear hr
      obtain ⟨x25, rfl, hr⟩ := hq
      refine wo_step (v := (.i .u64 x25)) (s_pure (o_ext rfl e25)) ?_
      have hq := bindO_inv hr
      clear hr
      obtain ⟨v26, e26, hr⟩ := hq
      have hq := asI_inv hr
      clear hr
      obtain ⟨x26, rfl, hr⟩ := hq
      refine wo_step (v := (.i .u64 x26)) (s_pure (o_ext rfl e26)) ?_
      refine wo_step (v := (.i .u64 x25)) (s_pure (p_mv rfl)) ?_
      refine wo_step (v := (.i .u64 x26)) (s_pure (p_mv rfl)) ?_
      refine wo_nil ?_
      refine nx_norm ?_
      refine w_seq ?_
      refine w_seq ?_
      refine w_ops ?_
      refine wo_step (v := (.i .u64 x25)) (s_pure (p_mv rfl)) ?_
      have hq := forceB_inv hr
      clear hr
      obtain ⟨c28, e28, hr⟩ := hq
      refine wo_step (v := (.b c28)) (s_pure (p_bin rfl rfl (b_gtr.trans (cb e28)))) ?_
      refine wo_step (v := (.b c28)) (s_pure (p_mv rfl)) ?_
      have hq := bindO_inv hr
      clear hr
      obtain ⟨o, hr, hk⟩ := hq
      refine wo_join 3 (g73_J0 v0 x26 m_2 o) ?_ ?_
      · clear hk
        have hq := cond_inv hr
        clear hr
        rcases hq with ⟨rfl, hr⟩ | ⟨rfl, hr⟩
        · refine wo_skip (v := (.b true)) rfl rfl ?_
          refine wo_skip (v := (.b true)) rfl rfl ?_
          refine wo_step (v := (.b true)) (s_pure (p_pickT rfl rfl)) ?_
          refine wo_nil ?_
          cases hr
          exact ⟨_, _, rfl, rfl, gl rfl, gl g0, gl rfl⟩
        · refine wo_take (v := (.i .u64 x26)) rfl (s_pure (p_mv rfl)) ?_
          have hq := forceB_inv hr
          clear hr
          obtain ⟨c31, e31, hr⟩ := hq
          refine wo_take (v := (.b c31)) rfl (s_pure (p_bin rfl rfl (b_gtr.trans (cb e31)))) ?_
          refine wo_step (v := (.b c31)) (s_pure (p_pickF rfl rfl)) ?_
          refine wo_nil ?_
          cases hr
          exact ⟨_, _, rfl, rfl, gl rfl, gl g0, gl rfl⟩
      · clear hr
        have hr := hk
        clear hk
        obtain ⟨c32, ho⟩ : ∃ z, z = o := ⟨_, rfl⟩
        subst ho
        rintro mm t_1 ⟨rfl, g32, g0, g6⟩
        refine wo_nil ?_
        refine nx_norm ?_
        have hq := cond_inv hr
        clear hr
        rcases hq with ⟨rfl, hr⟩ | ⟨rfl, hr⟩
        · refine w_condT g32 ?_
          cases hr
        · refine w_condF g32 ?_
          refine w_skip ?_
          refine nx_norm ?_
          refine w_seq ?_
          refine w_ops ?_
          refine wo_step (v := (.i .u64 x26)) (s_pure (p_mv g6)) ?_
          have hq := forceI_inv hr
          clear hr
          obtain ⟨x35, e35, hr⟩ := hq
          refine wo_step (v := (.i .i64 x35)) (s_pure ((p_conv rfl).trans (ci e35))) ?_
          refine wo_step (v := (.i .i64 x35)) (s_pure (p_mv rfl)) ?_
          refine wo_nil ?_
          refine nx_norm ?_
          refine w_seq ?_
          refine w_seq ?_
          refine w_ops ?_
          refine wo_step (v := v0) (s_pure (p_mv g0)) ?_
          have hq := bindO_inv hr
          clear hr
          obtain ⟨v37, e37, hr⟩ := hq
          have hq := asI_inv hr
          clear hr
          obtain ⟨x37, rfl, hr⟩ := hq
          refine wo_step (v := (.i .i64 x37)) (s_pure (o_len rfl e37)) ?_
          have hq := forceB_inv hr
          clear hr
          obtain ⟨c38, e38, hr⟩ := hq
          refine wo_step (v := (.b c38)) (s_pure (p_bin rfl rfl (b_eql.trans (cb e38)))) ?_
          refine wo_nil ?_
          refine nx_norm ?_
          have hq := cond_inv hr
          clear hr
          rcases hq with ⟨rfl, hr⟩ | ⟨rfl, hr⟩
          · refine w_condT rfl ?_
            refine w_seq ?_
            refine w_ops ?_
            have hq := bindP_inv hr
            clear hr
            obtain ⟨v39, m_3, e39, hr⟩ := hq
            refine wo_step (v := v39) (s_bsl qn e39) ?_
            refine wo_step (v := v39) (s_pure (p_mv rfl)) ?_
            refine wo_nil ?_
            refine nx_norm ?_
            refine w_ret ?_
            refine nx_ret ?_
            exact qf ret_ok (rt rfl rn) hr
          · refine w_condF rfl ?_
            refine w_skip ?_
            refine nx_norm ?_
            refine w_seq ?_
            refine w_ops ?_
            refine wo_step (v := (.i .i64 x35)) (s_pure (p_mv rfl)) ?_
            refine wo_step (v := (.i .i64 x35)) (s_pure (p_mv rfl)) ?_
            refine wo_nil ?_
            refine nx_norm ?_
            refine w_seq ?_
            refine w_seq ?_
            refine w_ops ?_
            refine wo_step (v := (.i .i64 x35)) (s_pure (p_mv rfl)) ?_
            have hq := forceB_inv hr
            clear hr
            obtain ⟨c42, e42, hr⟩ := hq
            refine wo_step (v := (.b c42)) (s_pure (p_bin rfl rfl (b_gtr.trans (cb e42)))) ?_
            refine wo_nil ?_
            refine nx_norm ?_
            have hq := bindO_inv hr
            clear hr
            obtain ⟨o_1, hr, hk⟩ := hq
            refine jp_mono (J := g73_J1 v0 x35 m_2 o_1) ?_ ?_
            · clear hk
              have hq := cond_inv hr
              clear hr
              rcases hq with ⟨rfl, hr⟩ | ⟨rfl, hr⟩
              · refine w_condT rfl ?_
                refine w_seq ?_
                refine w_ops ?_
                refine wo_step (v := v0) (s_pure (p_mv g0)) ?_
                have hq := bindO_inv hr
                clear hr
                obtain ⟨v44, e44, hr⟩ := hq
                have hq := asI_inv hr
                clear hr
                obtain ⟨x44, rfl, hr⟩ := hq
                refine wo_step (v := (.i .i64 x44)) (s_pure (o_len rfl e44)) ?_
                have hq := chk_inv hr
                clear hr
                obtain ⟨hc45, hr⟩ := hq
                have hq := forceI_inv hr
                clear hr
                obtain ⟨x45, e45, hr⟩ := hq
                refine wo_step (v := (.i .i64 x45)) (s_pure (p_bin rfl rfl ((b_quo hc45).trans (ci e45)))) ?_
                refine wo_step (v := v0) (s_pure (p_mv g0)) ?_
                have hq := bindO_inv hr
                clear hr
                obtain ⟨v47, e47, hr⟩ := hq
                have hq := asI_inv hr
                clear hr
                obtain ⟨x47, rfl, hr⟩ := hq
                refine wo_step (v := (.i .i64 x47)) (s_pure (o_len rfl e47)) ?_
                have hq := forceI_inv hr
                clear hr
                obtain ⟨x48, e48, hr⟩ := hq
                refine wo_step (v := (.i .i64 x48)) (s_pure (p_bin rfl rfl (b_mul.trans (ci e48)))) ?_
                refine wo_step (v := (.i .i64 x48)) (s_pure (p_mv rfl)) ?_
                refine wo_nil ?_
                refine nx_norm ?_
                refine w_seq ?_
                refine w_ops ?_
                refine wo_step (v := (.i .i64 x48)) (s_pure (p_mv rfl)) ?_
                have hq := forceB_inv hr
                clear hr
                obtain ⟨c50, e50, hr⟩ := hq
                refine wo_step (v := (.b c50)) (s_pure (p_bin rfl rfl (b_eql.trans (cb e50)))) ?_
                refine wo_nil ?_
                refine nx_norm ?_
                have hq := bindO_inv hr
                clear hr
                obtain ⟨o_2, hr, hk⟩ := hq
                refine jp_mono (J := g73_J2 v0 x35 m_2 o_2) ?_ ?_
                · clear hk
                  have hq := cond_inv hr
                  clear hr
                  rcases hq with ⟨rfl, hr⟩ | ⟨rfl, hr⟩
                  · refine w_condT rfl ?_
                    refine w_ops ?_
                    refine wo_step (v := v0) (s_pure (p_mv g0)) ?_
                    have hq := bindO_inv hr
                    clear hr
                    obtain ⟨v52, e52, hr⟩ := hq
                    have hq := asI_inv hr
                    clear hr
                    obtain ⟨x52, rfl, hr⟩ := hq
                    refine wo_step (v := (.i .i64 x52)) (s_pure (o_len rfl e52)) ?_
                    refine wo_step (v := (.i .i64 x52)) (s_pure (p_mv rfl)) ?_
                    refine wo_nil ?_
                    cases hr
                    exact ⟨_, _, rfl, rfl, rfl, gl rfl, gl g0, gl rfl⟩
                  · refine w_condF rfl ?_
                    refine w_skip ?_
                    cases hr
                    exact ⟨_, _, rfl, rfl, rfl, gl rfl, gl g0, gl rfl⟩
                · clear hr
                  have hr := hk
                  clear hk
                  obtain ⟨x8, ho⟩ : ∃ z, z = o_2 := ⟨_, rfl⟩
                  subst ho
                  rintro _ mm_1 t_2 ⟨rfl, rfl, g8, g0, g7⟩
                  cases hr
                  exact ⟨_, _, rfl, rfl, rfl, gl g8, gl g0, gl g7⟩
              · refine w_condF rfl ?_
                refine w_skip ?_
                cases hr
                exact ⟨_, _, rfl, rfl, rfl, gl rfl, gl g0, gl rfl⟩
            · clear hr
              have hr := hk
              clear hk
              obtain ⟨x8_1, ho⟩ : ∃ z, z = o_1 := ⟨_, rfl⟩
              subst ho
              rintro _ mm_4 t_3 ⟨rfl, rfl, g8, g0, g7⟩
              refine nx_norm ?_
              refine w_seq ?_
              refine w_ops ?_
              refine wo_step (v := (.i .i64 x35)) (s_pure (p_mv g7)) ?_
              have hq := bindP_inv hr
              clear hr
              obtain ⟨v54, m_4, e54, hr⟩ := hq
              refine wo_step (v := v54) (s_mnz rfl e54) ?_
              refine wo_step (v := (.i .i64 x35)) (s_pure (p_mv g7)) ?_
              refine wo_step (v := (.i .i64 x35)) (s_pure (p_mv g7)) ?_
              have hq := bindO_inv hr
              clear hr
              obtain ⟨v57, e57, hr⟩ := hq
              refine wo_step (v := v57) (s_pure (o_slS rfl on (os rfl) (os rfl) e57)) ?_
              refine wo_step (v := v57) (s_pure (p_mv rfl)) ?_
              refine wo_nil ?_
              refine nx_norm ?_
              refine w_seq ?_
              refine w_ops ?_
              refine wo_step (v := v57) (s_pure (p_mv rfl)) ?_
              refine wo_step (v := v0) (s_pure (p_mv g0)) ?_
              have hq := bindP_inv hr
              clear hr
              obtain ⟨v60, m_5, e60, hr⟩ := hq
              have hq := asI_inv hr
              clear hr
              obtain ⟨x60, rfl, hr⟩ := hq
              refine wo_step (v := (.i .i64 x60)) (s_cpy rfl rfl e60) ?_
              refine wo_step (v := (.i .i64 x60)) (s_pure (p_mv rfl)) ?_
              refine wo_nil ?_
              refine nx_norm ?_
              refine w_seq ?_
              refine w_block ?_
              have hq := bindO_inv hr
              clear hr
              obtain ⟨o_3, hl, hr⟩ := hq
              obtain ⟨n, hl⟩ := hM.loop _ _ _ hl
              refine jp_mono (w_loop _ (g73_I3 x35 x8_1 v57) (g73_J3 x35 x8_1 v57) ?_ n _ _ _ _ hl ⟨rfl, gl rfl, gl g7, gl g8, gl rfl⟩) ?_
              · clear hr hl
                intro s mm_3 t_4 o hi hr
                obtain ⟨x10, m_6⟩ := s
                obtain ⟨rfl, g10, g7, g8, g9⟩ := hi
                unfold g73_b3 at hr
                refine w_seq ?_
                refine w_seq ?_
                refine w_ops ?_
                refine wo_step (v := (.i .i64 x10)) (s_pure (p_mv g10)) ?_
                refine wo_step (v := (.i .i64 x35)) (s_pure (p_mv g7)) ?_
                have hq := forceB_inv hr
                clear hr
                obtain ⟨c63, e63, hr⟩ := hq
                refine wo_step (v := (.b c63)) (s_pure (p_bin rfl rfl (b_lss.trans (cb e63)))) ?_
                refine wo_nil ?_
                refine nx_norm ?_
                have hq := cond_inv hr
                clear hr
                rcases hq with ⟨rfl, hr⟩ | ⟨rfl, hr⟩
                · refine w_condT rfl ?_
                  refine w_skip ?_
                  refine nx_norm ?_
                  refine w_block ?_
                  refine w_seq ?_
                  refine w_ops ?_
                  refine wo_step (v := (.i .i64 x10)) (s_pure (p_mv g10)) ?_
                  refine wo_step (v := (.i .i64 x8_1)) (s_pure (p_mv g8)) ?_
                  have hq := forceI_inv hr
                  clear hr
                  obtain ⟨x66, e66, hr⟩ := hq
                  refine wo_step (v := (.i .i64 x66)) (s_pure ((p_mx rfl rfl).trans (ci e66))) ?_
                  refine wo_step (v := (.i .i64 x66)) (s_pure (p_mv rfl)) ?_
                  refine wo_nil ?_
                  refine nx_norm ?_
                  refine w_ops ?_
                  refine wo_step (v := (.i .i64 x10)) (s_pure (p_mv g10)) ?_
                  refine wo_step (v := v57) (s_pure (p_mv g9)) ?_
                  refine wo_step (v := (.i .i64 x10)) (s_pure (p_mv g10)) ?_
                  have hq := bindO_inv hr
                  clear hr
                  obtain ⟨v70, e70, hr⟩ := hq
                  refine wo_step (v := v70) (s_pure (o_slS rfl (os rfl) on on e70)) ?_
                  refine wo_step (v := v57) (s_pure (p_mv g9)) ?_
                  refine wo_step (v := (.i .i64 x66)) (s_pure (p_mv rfl)) ?_
                  have hq := bindO_inv hr
                  clear hr
                  obtain ⟨v73, e73, hr⟩ := hq
                  refine wo_step (v := v73) (s_pure (o_slS rfl on (os rfl) on e73)) ?_
                  have hq := bindP_inv hr
                  clear hr
                  obtain ⟨v74, m_7, e74, hr⟩ := hq
                  have hq := asI_inv hr
                  clear hr
                  obtain ⟨x74, rfl, hr⟩ := hq
                  refine wo_step (v := (.i .i64 x74)) (s_cpy rfl rfl e74) ?_
                  have hq := forceI_inv hr
                  clear hr
                  obtain ⟨x75, e75, hr⟩ := hq
                  refine wo_step (v := (.i .i64 x75)) (s_pure (p_bin rfl rfl (b_add.trans (ci e75)))) ?_
                  refine wo_step (v := (.i .i64 x75)) (s_pure (p_mv rfl)) ?_
                  refine wo_nil ?_
                  refine bk_norm ?_
                  cases hr
                  exact ⟨_, _, rfl, rfl, rfl, gl rfl, gl g7, gl g8, gl g9⟩
                · refine w_condF rfl ?_
                  refine w_exit ?_
                  refine nx_exit ?_
                  cases hr
                  exact ⟨_, _, rfl, ne_norm_exit, rfl, rfl, gl g9⟩
              · obtain ⟨m_8, ho⟩ : ∃ z, z = o_3 := ⟨_, rfl⟩
                subst ho
                rintro _ mm_2 t_5 ⟨rfl, rfl, g9⟩
                refine bk_hit ?_
                refine nx_norm ?_
                refine w_seq ?_
                refine w_ops ?_
                refine wo_step (v := v57) (s_pure (p_mv g9)) ?_
                refine wo_step (v := v57) (s_pure (p_mv rfl)) ?_
                refine wo_nil ?_
                refine nx_norm ?_
                refine w_ret ?_
                exact qf ret_ok (rt rfl rn) hr

/- strings.HasPrefix -/

def g74 (M : Means) (ro : List ABlk) (s0 : List UInt8) (s1 : List UInt8) (m0 : Mm) : Option (AVal × Heap × Nat × Nat) :=
  bindP (callM M.call m0 80 [(.s s0), (.s s1)]) fun v7 m_1 =>
  asB v7 fun c7 =>
  finM m0.h.length (tupA [(.b c7)]) m_1

theorem g74_ok {ro : List ABlk} {O : Caller} {M : Means} (hM : M.Ok ⟨F, O⟩ ro) {s0 s1 h r} (ho : O 74 [(.s s0), (.s s1)] h = none) (hr : g74 M ro s0 s1 ⟨h, h.length, h.length⟩ = some r) : callX ⟨F, O⟩ ro 74 [(.s s0), (.s s1)] h = some r := by
  refine callX_of (F := ⟨F, O⟩) (fn := fn74) (g := g74 M ro s0 s1) ho rfl rfl hr ?_
  clear ho
  clear hr
  intro m0 t0 ht hr
  have g0 : t0.get 0 = (.s s0) := ht 0
  have g1 : t0.get 1 = (.s s1) := ht 1
  clear ht
  unfold g74 at hr
  refine w_seq ?_
  refine w_ops ?_
  refine wo_step (v := (.b false)) (s_pure (p_mv rfl)) ?_
  refine wo_nil ?_
  refine nx_norm ?_
  refine w_seq ?_
  refine w_ops ?_
  refine wo_step (v := (.s s0)) (s_pure (p_mv g0)) ?_
  refine wo_step (v := (.s s1)) (s_pure (p_mv g1)) ?_
  have hq := bindP_inv hr
  clear hr
  obtain ⟨v7, m_1, e7, hr⟩ := hq
  have hq := asB_inv hr
  clear hr
  obtain ⟨c7, rfl, hr⟩ := hq
  refine wo_step (v := (.b c7)) (s_call (mc rfl (mc rfl mn)) (callM_le hM.call e7)) ?_
  refine wo_step (v := (.b c7)) (s_pure (p_mv rfl)) ?_
  refine wo_nil ?_
  refine nx_norm ?_
  refine w_ret ?_
  exact qf ret_ok (rt rfl rn) hr

/- math/bits.Mul -/

def g78 (M : Means) (ro : List ABlk) (x0 : Int) (x1 : Int) (m0 : Mm) : Option (AVal × Heap × Nat × Nat) :=
  bindP (callM M.call m0 86 [(.i .u64 x0), (.i .u64 x1)]) fun v25 m_1 =>
  bindO (evP .e (.ext 0 (.c v25))) fun v26 =>
  asI .u64 v26 fun x26 =>
  bindO (evP .e (.ext 1 (.c v25))) fun v27 =>
  asI .u64 v27 fun x27 =>
  finM m0.h.length (tupA [(.i .u64 x26), (.i .u64 x27)]) m_1

theorem g78_ok {ro : List ABlk} {O : Caller} {M : Means} (hM : M.Ok ⟨F, O⟩ ro) {x0 x1 h r} (ho : O 78 [(.i .u64 x0), (.i .u64 x1)] h = none) (hr : g78 M ro x0 x1 ⟨h, h.length, h.length⟩ = some r) : callX ⟨F, O⟩ ro 78 [(.i .u64 x0), (.i .u64 x1)] h = some r := by
  refine callX_of (F := ⟨F, O⟩) (fn := fn78) (g := g78 M ro x0 x1) ho rfl rfl hr ?_
  clear ho
  clear hr
  intro m0 t0 ht hr
  have g0 : t0.get 0 = (.i .u64 x0) := ht 0
  have g1 : t0.get 1 = (.i .u64 x1) := ht 1
  clear ht
  unfold g78 at hr
  refine w_seq ?_
  refine w_ops ?_
  refine wo_step (v := (.i .u64 0)) (s_pure (p_mv rfl)) ?_
  refine wo_step (v := (.i .u64 0)) (s_pure (p_mv rfl)) ?_
  refine wo_nil ?_
  refine nx_norm ?_
  refine w_seq ?_
  refine w_condF rfl ?_
  refine w_skip ?_
  refine nx_norm ?_
  refine w_seq ?_
  refine w_ops ?_
  refine wo_step (v := (.i .u64 x0)) (s_pure (p_mv g0)) ?_
  refine wo_step (v := (.i .u64 x1)) (s_pure (p_mv g1)) ?_
  have hq := bindP_inv hr
  clear hr
  obtain ⟨v25, m_1, e25, hr⟩ := hq
  refine wo_step (v := v25) (s_call (mc rfl (mc rfl mn)) (callM_le hM.call e25)) ?_
  refine wo_step (v := v25) (s_pure (p_mv rfl)) ?_
  have hq := bindO_inv hr
  clear hr
  obtain ⟨v26, e26, hr⟩ := hq
  have hq := asI_inv hr
  clear hr
  obtain ⟨x26, rfl, hr⟩ := hq
  refine wo_step (v := (.i .u64 x26)) (s_pure (o_ext rfl e26)) ?_
  have hq := bindO_inv hr
  clear hr
  obtain ⟨v27, e27, hr⟩ := hq
  have hq := asI_inv hr
  clear hr
  obtain ⟨x27, rfl, hr⟩ := hq
  refine wo_step (v := (.i .u64 x27)) (s_pure (o_ext rfl e27)) ?_
  refine wo_step (v := (.i .u64 x26)) (s_pure (p_mv rfl)) ?_
  refine wo_step (v := (.i .u64 x27)) (s_pure (p_mv rfl)) ?_
  refine wo_nil ?_
  refine nx_norm ?_
  refine w_seq ?_
  refine w_ops ?_
  refine wo_step (v := (.i .u64 x26)) (s_pure (p_mv rfl)) ?_
  refine wo_step (v := (.i .u64 x27)) (s_pure (p_mv rfl)) ?_
  refine wo_step (v := (.i .u64 x26)) (s_pure (p_mv rfl)) ?_
  refine wo_step (v := (.i .u64 x27)) (s_pure (p_mv rfl)) ?_
  refine wo_nil ?_
  refine nx_norm ?_
  refine w_ret ?_
  exact qf ret_ok (rt rfl (rt rfl rn)) hr

/- internal/stringslite.HasPrefix -/
abbrev g80_J0 (m0 : Mm) (o : Bool) (m1 : Mm) (t1 : Tr) : Prop :=
  match o with
  | c17 => m0 = m1 ∧ t1.get 17 = (.b c17)
def g80 (M : Means) (ro : List ABlk) (s0 : List UInt8) (s1 : List UInt8) (m0 : Mm) : Option (AVal × Heap × Nat × Nat) :=
  bindO (evP .e (.len true (.c (.s s0)))) fun v6 =>
  asI .i64 v6 fun x6 =>
  bindO (evP .e (.len true (.c (.s s1)))) fun v8 =>
  asI .i64 v8 fun x8 =>
  forceB (!ltI x6 x8) fun c9 =>
  bindO (cond c9 (
    bindO (evP .e (.len true (.c (.s s1)))) fun v13 =>
    asI .i64 v13 fun x13 =>
    bindO (evP .e (.slStr (.c (.s s0)) none (some (.c (.i .i64 x13))))) fun v14 =>
    asS v14 fun s14 =>
    bindO (evP .e (.sbin BinOp.eql (.c (.s s14)) (.c (.s s1)))) fun v16 =>
    asB v16 fun c16 =>
    some c16) (
    some false)) fun c17 =>
  finM m0.h.length (tupA [(.b c17)]) m0

theorem g80_ok {ro : List ABlk} {O : Caller} {M : Means} (hM : M.Ok ⟨F, O⟩ ro) {s0 s1 h r} (ho : O 80 [(.s s0), (.s s1)] h = none) (hr : g80 M ro s0 s1 ⟨h, h.length, h.length⟩ = some r) : callX ⟨F, O⟩ ro 80 [(.s s0), (.s s1)] h = some r := by
  refine callX_of (F := ⟨F, O⟩) (fn := fn80) (g := g80 M ro s0 s1) ho rfl rfl hr ?_
  clear ho
  clear hr
  intro m0 t0 ht hr
  have g0 : t0.get 0 = (.s s0) := ht 0
  have g1 : t0.get 1 = (.s s1) := ht 1
  clear ht
  unfold g80 at hr
  refine w_seq ?_
  refine w_ops ?_
  refine wo_step (v := (.b false)) (s_pure (p_mv rfl)) ?_
  refine wo_nil ?_
  refine nx_norm ?_
  refine w_seq ?_
  refine w_ops ?_
  refine wo_step (v := (.s s0)) (s_pure (p_mv g0)) ?_
  have hq := bindO_inv hr
  clear hr
  obtain ⟨v6, e6, hr⟩ := hq
  have hq := asI_inv hr
  clear hr
  obtain ⟨x6, rfl, hr⟩ := hq
  refine wo_step (v := (.i .i64 x6)) (s_pure (o_len rfl e6)) ?_
  refine wo_step (v := (.s s1)) (s_pure (p_mv g1)) ?_
  have hq := bindO_inv hr
  clear hr
  obtain ⟨v8, e8, hr⟩ := hq
  have hq := asI_inv hr
  clear hr
  obtain ⟨x8, rfl, hr⟩ := hq
  refine wo_step (v := (.i .i64 x8)) (s_pure (o_len rfl e8)) ?_
  have hq := forceB_inv hr
  clear hr
  obtain ⟨c9, e9, hr⟩ := hq
  refine wo_step (v := (.b c9)) (s_pure (p_bin rfl rfl (b_geq.trans (cb e9)))) ?_
  refine wo_step (v := (.b c9)) (s_pure (p_mv rfl)) ?_
  have hq := bindO_inv hr
  clear hr
  obtain ⟨o, hr, hk⟩ := hq
  refine wo_join 7 (g80_J0 m0 o) ?_ ?_
  · clear hk
    have hq := cond_inv hr
    clear hr
    rcases hq with ⟨rfl, hr⟩ | ⟨rfl, hr⟩
    · refine wo_take (v := (.s s0)) rfl (s_pure (p_mv g0)) ?_
      refine wo_take (v := (.s s1)) rfl (s_pure (p_mv g1)) ?_
      have hq := bindO_inv hr
      clear hr
      obtain ⟨v13, e13, hr⟩ := hq
      have hq := asI_inv hr
      clear hr
      obtain ⟨x13, rfl, hr⟩ := hq
      refine wo_take (v := (.i .i64 x13)) rfl (s_pure (o_len rfl e13)) ?_
      have hq := bindO_inv hr
      clear hr
      obtain ⟨v14, e14, hr⟩ := hq
      have hq := asS_inv hr
      clear hr
      obtain ⟨s14, rfl, hr⟩ := hq
      refine wo_take (v := (.s s14)) rfl (s_pure (o_slStr rfl on (os rfl) e14)) ?_
      refine wo_take (v := (.s s1)) rfl (s_pure (p_mv g1)) ?_
      have hq := bindO_inv hr
      clear hr
      obtain ⟨v16, e16, hr⟩ := hq
      have hq := asB_inv hr
      clear hr
      obtain ⟨c16, rfl, hr⟩ := hq
      refine wo_take (v := (.b c16)) rfl (s_pure (o_sbin rfl rfl e16)) ?_
      refine wo_step (v := (.b c16)) (s_pure (p_pickT rfl rfl)) ?_
      refine wo_nil ?_
      cases hr
      exact ⟨_, _, rfl, rfl, gl rfl⟩
    · refine wo_skip (v := (.b false)) rfl rfl ?_
      refine wo_skip (v := (.b false)) rfl rfl ?_
      refine wo_skip (v := (.b false)) rfl rfl ?_
      refine wo_skip (v := (.b false)) rfl rfl ?_
      refine wo_skip (v := (.b false)) rfl rfl ?_
      refine wo_skip (v := (.b false)) rfl rfl ?_
      refine wo_step (v := (.b false)) (s_pure (p_pickF rfl rfl)) ?_
      refine wo_nil ?_
      cases hr
      exact ⟨_, _, rfl, rfl, gl rfl⟩
  · clear hr
    have hr := hk
    clear hk
    obtain ⟨c17, ho⟩ : ∃ z, z = o := ⟨_, rfl⟩
    subst ho
    rintro mm t_1 ⟨rfl, g17⟩
    refine wo_step (v := (.b c17)) (s_pure (p_mv g17)) ?_
    refine wo_nil ?_
    refine nx_norm ?_
    refine w_ret ?_
    exact qf ret_ok (rt rfl rn) hr

/- math/bits.Mul64 -/

def g86 (M : Means) (ro : List ABlk) (x0 : Int) (x1 : Int) (m0 : Mm) : Option (AVal × Heap × Nat × Nat) :=
  forceI (bitV .and .u64 x0 4294967295) fun x15 =>
  forceI (shrV .u64 x0 32) fun x17 =>
  forceI (bitV .and .u64 x1 4294967295) fun x19 =>
  forceI (shrV .u64 x1 32) fun x21 =>
  forceI (wr .u64 (x15 * x19)) fun x24 =>
  forceI (wr .u64 (x17 * x19)) fun x27 =>
  forceI (shrV .u64 x24 32) fun x29 =>
  forceI (wr .u64 (x27 + x29)) fun x30 =>
  forceI (bitV .and .u64 x30 4294967295) fun x32 =>
  forceI (shrV .u64 x30 32) fun x34 =>
  forceI (wr .u64 (x15 * x21)) fun x38 =>
  forceI (wr .u64 (x32 + x38)) fun x39 =>
  forceI (wr .u64 (x17 * x21)) fun x42 =>
  forceI (wr .u64 (x42 + x34)) fun x44 =>
  forceI (shrV .u64 x39 32) fun x46 =>
  forceI (wr .u64 (x44 + x46)) fun x47 =>
  forceI (wr .u64 (x0 * x1)) fun x50 =>
  finM m0.h.length (tupA [(.i .u64 x47), (.i .u64 x50)]) m0

theorem g86_ok {ro : List ABlk} {O : Caller} {M : Means} (hM : M.Ok ⟨F, O⟩ ro) {x0 x1 h r} (ho : O 86 [(.i .u64 x0), (.i .u64 x1)] h = none) (hr : g86 M ro x0 x1 ⟨h, h.length, h.length⟩ = some r) : callX ⟨F, O⟩ ro 86 [(.i .u64 x0), (.i .u64 x1)] h = some r := by
  refine callX_of (F := ⟨F, O⟩) (fn := fn86) (g := g86 M ro x0 x1) ho rfl rfl hr ?_
  clear ho
  clear hr
  intro m0 t0 ht hr
  have g0 : t0.get 0 = (.i .u64 x0) := ht 0
  have g1 : t0.get 1 = (.i .u64 x1) := ht 1
  clear ht
  unfold g86 at hr
  refine w_seq ?_
  refine w_ops ?_
  refine wo_step (v := (.i .u64 0)) (s_pure (p_mv rfl)) ?_
  refine wo_step (v := (.i .u64 0)) (s_pure (p_mv rfl)) ?_
  refine wo_nil ?_
  refine nx_norm ?_
  refine w_seq ?_
  refine w_ops ?_
  refine wo_step (v := (.i .u64 x0)) (s_pure (p_mv g0)) ?_
  have hq := forceI_inv hr
  clear hr
  obtain ⟨x15, e15, hr⟩ := hq
  refine wo_step (v := (.i .u64 x15)) (s_pure (p_bin rfl rfl (b_and.trans (ci e15)))) ?_
  refine wo_step (v := (.i .u64 x15)) (s_pure (p_mv rfl)) ?_
  refine wo_nil ?_
  refine nx_norm ?_
  refine w_seq ?_
  refine w_ops ?_
  refine wo_step (v := (.i .u64 x0)) (s_pure (p_mv g0)) ?_
  have hq := forceI_inv hr
  clear hr
  obtain ⟨x17, e17, hr⟩ := hq
  refine wo_step (v := (.i .u64 x17)) (s_pure (p_bin rfl rfl ((b_shr rfl).trans (ci e17)))) ?_
  refine wo_step (v := (.i .u64 x17)) (s_pure (p_mv rfl)) ?_
  refine wo_nil ?_
  refine nx_norm ?_
  refine w_seq ?_
  refine w_ops ?_
  refine wo_step (v := (.i .u64 x1)) (s_pure (p_mv g1)) ?_
  have hq := forceI_inv hr
  clear hr
  obtain ⟨x19, e19, hr⟩ := hq
  refine wo_step (v := (.i .u64 x19)) (s_pure (p_bin rfl rfl (b_and.trans (ci e19)))) ?_
  refine wo_step (v := (.i .u64 x19)) (s_pure (p_mv rfl)) ?_
  refine wo_nil ?_
  refine nx_norm ?_
  refine w_seq ?_
  refine w_ops ?_
  refine wo_step (v := (.i .u64 x1)) (s_pure (p_mv g1)) ?_
  have hq := forceI_inv hr
  clear hr
  obtain ⟨x21, e21, hr⟩ := hq
  refine wo_step (v := (.i .u64 x21)) (s_pure (p_bin rfl rfl ((b_shr rfl).trans (ci e21)))) ?_
  refine wo_step (v := (.i .u64 x21)) (s_pure (p_mv rfl)) ?_
  refine wo_nil ?_
  refine nx_norm ?_
  refine w_seq ?_
  refine w_ops ?_
  refine wo_step (v := (.i .u64 x15)) (s_pure (p_mv rfl)) ?_
  refine wo_step (v := (.i .u64 x19)) (s_pure (p_mv rfl)) ?_
  have hq := forceI_inv hr
  clear hr
  obtain ⟨x24, e24, hr⟩ := hq
  refine wo_step (v := (.i .u64 x24)) (s_pure (p_bin rfl rfl (b_mul.trans (ci e24)))) ?_
  refine wo_step (v := (.i .u64 x24)) (s_pure (p_mv rfl)) ?_
  refine wo_nil ?_
  refine nx_norm ?_
  refine w_seq ?_
  refine w_ops ?_
  refine wo_step (v := (.i .u64 x17)) (s_pure (p_mv rfl)) ?_
  refine wo_step (v := (.i .u64 x19)) (s_pure (p_mv rfl)) ?_
  have hq := forceI_inv hr
  clear hr
  obtain ⟨x27, e27, hr⟩ := hq
  refine wo_step (v := (.i .u64 x27)) (s_pure (p_bin rfl rfl (b_mul.trans (ci e27)))) ?_
  refine wo_step (v := (.i .u64 x24)) (s_pure (p_mv rfl)) ?_
  have hq := forceI_inv hr
  clear hr
  obtain ⟨x29, e29, hr⟩ := hq
  refine wo_step (v := (.i .u64 x29)) (s_pure (p_bin rfl rfl ((b_shr rfl).trans (ci e29)))) ?_
  have hq := forceI_inv hr
  clear hr
  obtain ⟨x30, e30, hr⟩ := hq
  refine wo_step (v := (.i .u64 x30)) (s_pure (p_bin rfl rfl (b_add.trans (ci e30)))) ?_
  refine wo_step (v := (.i .u64 x30)) (s_pure (p_mv rfl)) ?_
  refine wo_nil ?_
  refine nx_norm ?_
  refine w_seq ?_
  refine w_ops ?_
  refine wo_step (v := (.i .u64 x30)) (s_pure (p_mv rfl)) ?_
  have hq := forceI_inv hr
  clear hr
  obtain ⟨x32, e32, hr⟩ := hq
  refine wo_step (v := (.i .u64 x32)) (s_pure (p_bin rfl rfl (b_and.trans (ci e32)))) ?_
  refine wo_step (v := (.i .u64 x32)) (s_pure (p_mv rfl)) ?_
  refine wo_nil ?_
  refine nx_norm ?_
  refine w_seq ?_
  refine w_ops ?_
  refine wo_step (v := (.i .u64 x30)) (s_pure (p_mv rfl)) ?_
  have hq := forceI_inv hr
  clear hr
  obtain ⟨x34, e34, hr⟩ := hq
  refine wo_step (v := (.i .u64 x34)) (s_pure (p_bin rfl rfl ((b_shr rfl).trans (ci e34)))) ?_
  refine wo_step (v := (.i .u64 x34)) (s_pure (p_mv rfl)) ?_
  refine wo_nil ?_
  refine nx_norm ?_
  refine w_seq ?_
  refine w_ops ?_
  refine wo_step (v := (.i .u64 x32)) (s_pure (p_mv rfl)) ?_
  refine wo_step (v := (.i .u64 x15)) (s_pure (p_mv rfl)) ?_
  refine wo_step (v := (.i .u64 x21)) (s_pure (p_mv rfl)) ?_
  have hq := forceI_inv hr
  clear hr
  obtain ⟨x38, e38, hr⟩ := hq
  refine wo_step (v := (.i .u64 x38)) (s_pure (p_bin rfl rfl (b_mul.trans (ci e38)))) ?_
  have hq := forceI_inv hr
  clear hr
  obtain ⟨x39, e39, hr⟩ := hq
  refine wo_step (v := (.i .u64 x39)) (s_pure (p_bin rfl rfl (b_add.trans (ci e39)))) ?_
  refine wo_step (v := (.i .u64 x39)) (s_pure (p_mv rfl)) ?_
  refine wo_nil ?_
  refine nx_norm ?_
  refine w_seq ?_
  refine w_ops ?_
  refine wo_step (v := (.i .u64 x17)) (s_pure (p_mv rfl)) ?_
  refine wo_step (v := (.i .u64 x21)) (s_pure (p_mv rfl)) ?_
  have hq := forceI_inv hr
  clear hr
  obtain ⟨x42, e42, hr⟩ := hq
  refine wo_step (v := (.i .u64 x42)) (s_pure (p_bin rfl rfl (b_mul.trans (ci e42)))) ?_
  refine wo_step (v := (.i .u64 x34)) (s_pure (p_mv rfl)) ?_
  have hq := forceI_inv hr
  clear hr
  obtain ⟨x44, e44, hr⟩ := hq
  refine wo_step (v := (.i .u64 x44)) (s_pure (p_bin rfl rfl (b_add.trans (ci e44)))) ?_
  refine wo_step (v := (.i .u64 x39)) (s_pure (p_mv rfl)) ?_
  have hq := forceI_inv hr
  clear hr
  obtain ⟨x46, e46, hr⟩ := hq
  refine wo_step (v := (.i .u64 x46)) (s_pure (p_bin rfl rfl ((b_shr rfl).trans (ci e46)))) ?_
  have hq := forceI_inv hr
  clear hr
  obtain ⟨x47, e47, hr⟩ := hq
  refine wo_step (v := (.i .u64 x47)) (s_pure (p_bin rfl rfl (b_add.trans (ci e47)))) ?_
  refine wo_step (v := (.i .u64 x47)) (s_pure (p_mv rfl)) ?_
  refine wo_nil ?_
  refine nx_norm ?_
  refine w_seq ?_
  refine w_ops ?_
  refine wo_step (v := (.i .u64 x0)) (s_pure (p_mv g0)) ?_
  refine wo_step (v := (.i .u64 x1)) (s_pure (p_mv g1)) ?_
  have hq := forceI_inv hr
  clear hr
  obtain ⟨x50, e50, hr⟩ := hq
  refine wo_step (v := (.i .u64 x50)) (s_pure (p_bin rfl rfl (b_mul.trans (ci e50)))) ?_
  refine wo_step (v := (.i .u64 x50)) (s_pure (p_mv rfl)) ?_
  refine wo_nil ?_
  refine nx_norm ?_
  refine w_ret ?_
  exact qf ret_ok (rt rfl (rt rfl rn)) hr

end Go.Proofs.Ytobmcofkcfifkaa.T

/- Plain functions, and that the small machine answers as they do. -/
import Derived.Test.YthcadkmfbgonjaaVmP
import Derived.Test.YthcadkmfbgonjaaVmAE
open Go.Vm
set_option linter.unusedVariables false
namespace Go.Proofs.Ythcadkmfbgonjaa.T
open Go
/- dibber/dibberlaw07.NoteHides -/
abbrev g16_J0 (v0 : AVal) (o : (Mm ⊕ (Bool × Mm))) (e : AExit) (m1 : Mm) (t1 : Tr) : Prop :=
  match o with
  | (.inl mo) => e = .norm ∧ mo = m1 ∧ t1.get 0 = v0
  | (.inr (y4, mo)) => e = .ret ∧ mo = m1 ∧ t1.get 4 = (.b y4)
abbrev g16_J1 (v0 : AVal) (x1 : Int) (v27 : AVal) (o : Bool × Mm) (m1 : Mm) (t1 : Tr) : Prop :=
  match o with
  | (c45, m_4) => m_4 = m1 ∧ t1.get 45 = (.b c45) ∧ t1.get 0 = v0 ∧ t1.get 1 = (.i .i64 x1) ∧ t1.get 5 = v27
abbrev g16_J2 (v0 : AVal) (x1 : Int) (v27 : AVal) (m_4 : Mm) (o : Bool) (m1 : Mm) (t1 : Tr) : Prop :=
  match o with
  | c49 => m_4 = m1 ∧ t1.get 49 = (.b c49) ∧ t1.get 0 = v0 ∧ t1.get 1 = (.i .i64 x1) ∧ t1.get 5 = v27
abbrev g16_J3 (v0 : AVal) (x1 : Int) (v27 : AVal) (m_4 : Mm) (o : Bool) (m1 : Mm) (t1 : Tr) : Prop :=
  match o with
  | c55 => m_4 = m1 ∧ t1.get 55 = (.b c55) ∧ t1.get 0 = v0 ∧ t1.get 1 = (.i .i64 x1) ∧ t1.get 5 = v27
abbrev g16_J4 (v0 : AVal) (m_4 : Mm) (o : Bool) (m1 : Mm) (t1 : Tr) : Prop :=
  match o with
  | c63 => m_4 = m1 ∧ t1.get 63 = (.b c63) ∧ t1.get 0 = v0
abbrev g16_J5 (v72 : AVal) (m_9 : Mm) (o : Bool) (m1 : Mm) (t1 : Tr) : Prop :=
  match o with
  | c87 => m_9 = m1 ∧ t1.get 87 = (.b c87) ∧ t1.get 10 = v72
abbrev g16_J6 (m_9 : Mm) (o : Bool) (m1 : Mm) (t1 : Tr) : Prop :=
  match o with
  | c92 => m_9 = m1 ∧ t1.get 92 = (.b c92)
abbrev g16_J7  (o : Bool × Mm) (m1 : Mm) (t1 : Tr) : Prop :=
  match o with
  | (c95, m_10) => m_10 = m1 ∧ t1.get 95 = (.b c95)
abbrev g16_J8 (v0 : AVal) (s67 : List UInt8) (v72 : AVal) (s77 : List UInt8) (m_9 : Mm) (o : Bool) (m1 : Mm) (t1 : Tr) : Prop :=
  match o with
  | c101 => m_9 = m1 ∧ t1.get 101 = (.b c101) ∧ t1.get 0 = v0 ∧ t1.get 9 = (.s s67) ∧ t1.get 10 = v72 ∧ t1.get 12 = (.s s77)
abbrev g16_J9 (v0 : AVal) (s67 : List UInt8) (v72 : AVal) (m_9 : Mm) (o : Bool) (m1 : Mm) (t1 : Tr) : Prop :=
  match o with
  | c106 => m_9 = m1 ∧ t1.get 106 = (.b c106) ∧ t1.get 0 = v0 ∧ t1.get 9 = (.s s67) ∧ t1.get 10 = v72
abbrev g16_J10 (v0 : AVal) (s67 : List UInt8) (v72 : AVal) (m_9 : Mm) (o : Bool) (m1 : Mm) (t1 : Tr) : Prop :=
  match o with
  | c113 => m_9 = m1 ∧ t1.get 113 = (.b c113) ∧ t1.get 0 = v0 ∧ t1.get 9 = (.s s67) ∧ t1.get 10 = v72
abbrev g16_I11 (v0 : AVal) (s67 : List UInt8) (v72 : AVal) (s : Int × Mm) (m1 : Mm) (t1 : Tr) : Prop :=
  match s with
  | (x14, m_12) => m_12 = m1 ∧ t1.get 14 = (.i .i64 x14) ∧ t1.get 0 = v0 ∧ t1.get 9 = (.s s67) ∧ t1.get 10 = v72
abbrev g16_J11 (v0 : AVal) (s67 : List UInt8) (v72 : AVal) (o : (Mm ⊕ (Bool × Mm))) (e : AExit) (m1 : Mm) (t1 : Tr) : Prop :=
  match o with
  | (.inl mo) => e = (.exit 0) ∧ mo = m1 ∧ t1.get 0 = v0 ∧ t1.get 9 = (.s s67)
  | (.inr (y4, mo)) => e = .ret ∧ mo = m1 ∧ t1.get 4 = (.b y4)
abbrev g16_J12 (v0 : AVal) (s67 : List UInt8) (v72 : AVal) (x14 : Int) (x124 : Int) (m_13 : Mm) (o : Bool) (m1 : Mm) (t1 : Tr) : Prop :=
  match o with
  | c131 => m_13 = m1 ∧ t1.get 131 = (.b c131) ∧ t1.get 0 = v0 ∧ t1.get 9 = (.s s67) ∧ t1.get 10 = v72 ∧ t1.get 14 = (.i .i64 x14) ∧ t1.get 15 = (.i .i64 x124)
abbrev g16_J13 (v0 : AVal) (s67 : List UInt8) (v72 : AVal) (x14 : Int) (x124 : Int) (m_13 : Mm) (o : Bool) (m1 : Mm) (t1 : Tr) : Prop :=
  match o with
  | c137 => m_13 = m1 ∧ t1.get 137 = (.b c137) ∧ t1.get 0 = v0 ∧ t1.get 9 = (.s s67) ∧ t1.get 10 = v72 ∧ t1.get 14 = (.i .i64 x14) ∧ t1.get 15 = (.i .i64 x124)
abbrev g16_J14 (v0 : AVal) (s67 : List UInt8) (v72 : AVal) (x14 : Int) (x124 : Int) (m_13 : Mm) (o : Bool) (m1 : Mm) (t1 : Tr) : Prop :=
  match o with
  | c144 => m_13 = m1 ∧ t1.get 144 = (.b c144) ∧ t1.get 0 = v0 ∧ t1.get 9 = (.s s67) ∧ t1.get 10 = v72 ∧ t1.get 14 = (.i .i64 x14) ∧ t1.get 15 = (.i .i64 x124)
abbrev g16_J15 (v0 : AVal) (s67 : List UInt8) (v72 : AVal) (x14 : Int) (x124 : Int) (m_13 : Mm) (o : Bool) (m1 : Mm) (t1 : Tr) : Prop :=
  match o with
  | c155 => m_13 = m1 ∧ t1.get 155 = (.b c155) ∧ t1.get 0 = v0 ∧ t1.get 9 = (.s s67) ∧ t1.get 10 = v72 ∧ t1.get 14 = (.i .i64 x14) ∧ t1.get 15 = (.i .i64 x124)
abbrev g16_J16 (v0 : AVal) (s67 : List UInt8) (v72 : AVal) (x14 : Int) (m_13 : Mm) (o : Bool) (m1 : Mm) (t1 : Tr) : Prop :=
  match o with
  | c166 => m_13 = m1 ∧ t1.get 166 = (.b c166) ∧ t1.get 0 = v0 ∧ t1.get 9 = (.s s67) ∧ t1.get 10 = v72 ∧ t1.get 14 = (.i .i64 x14)
def g16_b11 (M : Means) (ro : List ABlk) (v0 : AVal) (s67 : List UInt8) (v72 : AVal) (x14 : Int) (m_12 : Mm) : Option ((Int × Mm) ⊕ ((Mm ⊕ (Bool × Mm)))) :=
  bindO (evP .e (.len false (.c v72))) fun v116 =>
  asI .i64 v116 fun x116 =>
  forceB (ltI x14 x116) fun c117 =>
  cond c117 (
    bindP (callM M.call m_12 36 [v0, (.i .i64 x14)]) fun v123 m_13 =>
    bindO (evP .e (.ext 0 (.c v123))) fun v124 =>
    asI .i64 v124 fun x124 =>
    bindO (evP .e (.ext 1 (.c v123))) fun v125 =>
    asI .i64 v125 fun x125 =>
    forceB (!eqI x125 0) fun c127 =>
    bindO (cond c127 (
      some true) (
      forceB (ltI x124 0) fun c130 =>
      some c130)) fun c131 =>
    bindO (cond c131 (
      some true) (
      bindO (evP .e (.len false (.c v0))) fun v135 =>
      asI .i64 v135 fun x135 =>
      forceB (!ltI x124 x135) fun c136 =>
      some c136)) fun c137 =>
    bindO (cond c137 (
      some true) (
      bindO (evP .e (.ixS 2 (.c v0) (.c (.i .i64 x124)))) fun v141 =>
      bindO (evP .e (.faddr 1 (.c v141))) fun v142 =>
      bindO (ldA ro m_13.h true 1 v142) fun v143 =>
      asB v143 fun c143 =>
      some c143)) fun c144 =>
    bindO (cond c144 (
      some true) (
      bindO (evP .e (.ixS 2 (.c v0) (.c (.i .i64 x124)))) fun v148 =>
      bindO (evP .e (.faddr 0 (.c v148))) fun v149 =>
      bindO (ldA ro m_13.h true 1 v149) fun v150 =>
      asI .u8 v150 fun x150 =>
      bindO (evP .e (.ixStr (.c (.s s67)) (.c (.i .i64 x14)))) fun v153 =>
      asI .u8 v153 fun x153 =>
      forceB (!eqI x150 x153) fun c154 =>
      some c154)) fun c155 =>
    bindO (cond c155 (
      some true) (
      bindO (evP .e (.ixS 2 (.c v72) (.c (.i .i64 x14)))) fun v159 =>
      bindO (ldA ro m_13.h false 2 v159) fun v160 =>
      bindO (evP .e (.ixS 2 (.c v0) (.c (.i .i64 x124)))) fun v163 =>
      bindO (ldA ro m_13.h false 2 v163) fun v164 =>
      bindO (evP .e (.seq true [(0, false), (1, true)] (.c v160) (.c v164))) fun v165 =>
      asB v165 fun c165 =>
      some c165)) fun c166 =>
    cond c166 (
      some (.inr (.inr (false, m_13)))) (
      forceI (wr .i64 (x14 + 1)) fun x119 =>
      some (.inl (x119, m_13)))) (
    some (.inr (.inl m_12)))
abbrev g16_J17 (m_15 : Mm) (o : Bool) (m1 : Mm) (t1 : Tr) : Prop :=
  match o with
  | c181 => m_15 = m1 ∧ t1.get 181 = (.b c181)
abbrev g16_J18  (o : Bool × Mm) (m1 : Mm) (t1 : Tr) : Prop :=
  match o with
  | (c184, m_16) => m_16 = m1 ∧ t1.get 184 = (.b c184)
def g16 (M : Means) (ro : List ABlk) (v0 : AVal) (x1 : Int) (m0 : Mm) : Option (AVal × Heap × Nat × Nat) :=
  bindO (evP .e (.len false (.c v0))) fun v19 =>
  asI .i64 v19 fun x19 =>
  forceB (ltI 400 x19) fun c20 =>
  cond c20 (
    bindP (callM M.call m0 17 []) fun v21 m_1 =>
    asB v21 fun c21 =>
    finM m0.h.length (tupA [(.b c21)]) m_1) (
    bindO ((fillA [(AVal.i IntKind.i64 0), (AVal.i IntKind.i64 0), (AVal.i IntKind.u8 0), (AVal.i IntKind.i64 0)] [((0, 1), (.i .i64 2)), ((1, 1), (.i .i64 x1))]).map AVal.agg) fun v25 =>
    bindP (callM M.call m0 19 [v0, v25]) fun v26 m_2 =>
    bindO (evP .e (.ext 0 (.c v26))) fun v27 =>
    bindO (evP .e (.ext 1 (.c v26))) fun v28 =>
    asI .i64 v28 fun x28 =>
    forceB (eqI x28 0) fun c30 =>
    bindO (α := (Mm ⊕ (Bool × Mm))) (
      cond c30 (
        bindO ((fillA [(AVal.i IntKind.i64 0), (AVal.i IntKind.i64 0), (AVal.i IntKind.u8 0), (AVal.i IntKind.i64 0)] [((0, 1), (.i .i64 2)), ((1, 1), (.i .i64 x1))]).map AVal.agg) fun v34 =>
        bindP (callM M.call m_2 19 [v27, v34]) fun v35 m_3 =>
        bindO (evP .e (.ext 0 (.c v35))) fun v36 =>
        bindO (evP .e (.ext 1 (.c v35))) fun v37 =>
        asI .i64 v37 fun x37 =>
        forceB (!eqI x37 0) fun c39 =>
        bindO (cond c39 (
          some (true, m_3)) (
          bindP (callM M.call m_3 20 [v27, v36]) fun v43 m_5 =>
          asB v43 fun c43 =>
          forceB (!c43) fun c44 =>
          some (c44, m_5))) fun ⟨c45, m_4⟩ =>
        bindO (cond c45 (
          some true) (
          forceB (ltI x1 0) fun c48 =>
          some c48)) fun c49 =>
        bindO (cond c49 (
          some true) (
          bindO (evP .e (.len false (.c v27))) fun v53 =>
          asI .i64 v53 fun x53 =>
          forceB (!ltI x1 x53) fun c54 =>
          some c54)) fun c55 =>
        bindO (cond c55 (
          some true) (
          bindO (evP .e (.ixS 2 (.c v27) (.c (.i .i64 x1)))) fun v59 =>
          bindO (evP .e (.faddr 1 (.c v59))) fun v60 =>
          bindO (ldM ro m_4 true 1 v60) fun v61 =>
          asB v61 fun c61 =>
          forceB (!c61) fun c62 =>
          some c62)) fun c63 =>
        cond c63 (
          some (.inr (false, m_4))) (
          some (.inl m_4))) (
        some (.inl m_2))) fun o => match o with
    | (.inl m_6) =>
      bindP (callM M.call m_6 21 [v0]) fun v66 m_7 =>
      bindO (evP .e (.ext 0 (.c v66))) fun v67 =>
      asS v67 fun s67 =>
      bindO (evP .e (.ext 1 (.c v66))) fun v68 =>
      asI .i64 v68 fun x68 =>
      bindP (callM M.call m_7 23 [v0]) fun v71 m_8 =>
      bindO (evP .e (.ext 0 (.c v71))) fun v72 =>
      bindO (evP .e (.ext 1 (.c v71))) fun v73 =>
      asI .i64 v73 fun x73 =>
      bindP (callM M.call m_8 21 [v72]) fun v76 m_9 =>
      bindO (evP .e (.ext 0 (.c v76))) fun v77 =>
      asS v77 fun s77 =>
      bindO (evP .e (.ext 1 (.c v76))) fun v78 =>
      asI .i64 v78 fun x78 =>
      forceB (!eqI x68 0) fun c80 =>
      cond c80 (
        forceB (eqI x68 x73) fun c83 =>
        bindO (cond c83 (
          bindO (evP .e (.sbin BinOp.eql (.c (.s s67)) (.c (AVal.s [])))) fun v86 =>
          asB v86 fun c86 =>
          some c86) (
          some false)) fun c87 =>
        bindO (cond c87 (
          bindO (evP .e (.len false (.c v72))) fun v90 =>
          asI .i64 v90 fun x90 =>
          forceB (eqI x90 0) fun c91 =>
          some c91) (
          some false)) fun c92 =>
        bindO (cond c92 (
          bindP (callM M.call m_9 17 []) fun v94 m_11 =>
          asB v94 fun c94 =>
          some (c94, m_11)) (
          some (false, m_9))) fun ⟨c95, m_10⟩ =>
        finM m0.h.length (tupA [(.b c95)]) m_10) (
        forceB (!eqI x73 0) fun c97 =>
        bindO (cond c97 (
          some true) (
          forceB (!eqI x78 0) fun c100 =>
          some c100)) fun c101 =>
        bindO (cond c101 (
          some true) (
          bindO (evP .e (.sbin BinOp.neq (.c (.s s67)) (.c (.s s77)))) fun v105 =>
          asB v105 fun c105 =>
          some c105)) fun c106 =>
        bindO (cond c106 (
          some true) (
          bindO (evP .e (.len false (.c v72))) fun v109 =>
          asI .i64 v109 fun x109 =>
          bindO (evP .e (.len true (.c (.s s67)))) fun v111 =>
          asI .i64 v111 fun x111 =>
          forceB (!eqI x109 x111) fun c112 =>
          some c112)) fun c113 =>
        cond c113 (
          finM m0.h.length (tupA [(.b false)]) m_9) (
          bindO (M.loop (S := Int × Mm) (R := (Mm ⊕ (Bool × Mm))) (fun s => g16_b11 M ro v0 s67 v72 s.1 s.2) (0, m_9)) fun o_16 => match o_16 with
          | (.inl m_14) =>
            bindO (evP .e (.len true (.c (.s s67)))) fun v170 =>
            asI .i64 v170 fun x170 =>
            bindP (callM M.call m_14 36 [v0, (.i .i64 x170)]) fun v171 m_15 =>
            bindO (evP .e (.ext 0 (.c v171))) fun v172 =>
            asI .i64 v172 fun x172 =>
            bindO (evP .e (.ext 1 (.c v171))) fun v173 =>
            asI .i64 v173 fun x173 =>
            forceB (eqI x173 0) fun c175 =>
            bindO (cond c175 (
              bindO (evP .e (.len false (.c v0))) fun v179 =>
              asI .i64 v179 fun x179 =>
              forceB (eqI x172 x179) fun c180 =>
              some c180) (
              some false)) fun c181 =>
            bindO (cond c181 (
              bindP (callM M.call m_15 17 []) fun v183 m_17 =>
              asB v183 fun c183 =>
              some (c183, m_17)) (
              some (false, m_15))) fun ⟨c184, m_16⟩ =>
            finM m0.h.length (tupA [(.b c184)]) m_16
          | (.inr (c4, m_18)) =>
            finM m0.h.length (tupA [(.b c4)]) m_18))
    | (.inr (c4_1, m_19)) =>
      finM m0.h.length (tupA [(.b c4_1)]) m_19)

theorem g16_ok {ro : List ABlk} {O : Caller} {M : Means} (hM : M.Ok ⟨F, O⟩ ro) {v0 x1 h r} (ho : O 16 [v0, (.i .i64 x1)] h = none) (hr : g16 M ro v0 x1 ⟨h, h.length, h.length⟩ = some r) : callX ⟨F, O⟩ ro 16 [v0, (.i .i64 x1)] h = some r := by
  refine callX_of (F := ⟨F, O⟩) (fn := fn16) (g := g16 M ro v0 x1) ho rfl rfl hr ?_
  clear ho
  clear hr
  intro m0 t0 ht hr
  have g0 : t0.get 0 = v0 := ht 0
  have g1 : t0.get 1 = (.i .i64 x1) := ht 1
  clear ht
  unfold g16 at hr
  refine w_seq ?_
  refine w_ops ?_
  refine wo_step (v := (.b false)) (s_pure (p_mv rfl)) ?_
  refine wo_nil ?_
  refine nx_norm ?_
  refine w_seq ?_
  refine w_seq ?_
  refine w_ops ?_
  refine wo_step (v := v0) (s_pure (p_mv g0)) ?_
  have hq := bindO_inv hr
  clear hr
  obtain ⟨v19, e19, hr⟩ := hq
  have hq := asI_inv hr
  clear hr
  obtain ⟨x19, rfl, hr⟩ := hq
  refine wo_step (v := (.i .i64 x19)) (s_pure (o_len rfl e19)) ?_
  have hq := forceB_inv hr
  clear hr
  obtain ⟨c20, e20, hr⟩ := hq
  refine wo_step (v := (.b c20)) (s_pure (p_bin rfl rfl (b_gtr.trans (cb e20)))) ?_
  refine wo_nil ?_
  refine nx_norm ?_
  have hq := cond_inv hr
  clear hr
  rcases hq with ⟨rfl, hr⟩ | ⟨rfl, hr⟩
  · refine w_condT rfl ?_
    refine w_seq ?_
    refine w_ops ?_
    have hq := bindP_inv hr
    clear hr
    obtain ⟨v21, m_1, e21, hr⟩ := hq
    have hq := asB_inv hr
    clear hr
    obtain ⟨c21, rfl, hr⟩ := hq
    refine wo_step (v := (.b c21)) (s_call mn (callM_le hM.call e21)) ?_
    refine wo_step (v := (.b c21)) (s_pure (p_mv rfl)) ?_
    refine wo_nil ?_
    refine nx_norm ?_
    refine w_ret ?_
    refine nx_ret ?_
    exact qf ret_ok (rt rfl rn) hr
  · refine w_condF rfl ?_
    refine w_skip ?_
    refine nx_norm ?_
    refine w_seq ?_
    refine w_ops ?_
    refine wo_step (v := v0) (s_pure (p_mv g0)) ?_
    refine wo_step (v := (.i .i64 x1)) (s_pure (p_mv g1)) ?_
    have hq := bindO_inv hr
    clear hr
    obtain ⟨v25, e25, hr⟩ := hq
    refine wo_step (v := v25) (s_pure (o_build (qc rfl (qc rfl qn)) e25)) ?_
    have hq := bindP_inv hr
    clear hr
    obtain ⟨v26, m_2, e26, hr⟩ := hq
    refine wo_step (v := v26) (s_call (mc rfl (mc rfl mn)) (callM_le hM.call e26)) ?_
    refine wo_step (v := v26) (s_pure (p_mv rfl)) ?_
    have hq := bindO_inv hr
    clear hr
    obtain ⟨v27, e27, hr⟩ := hq
    refine wo_step (v := v27) (s_pure (o_ext rfl e27)) ?_
    have hq := bindO_inv hr
    clear hr
    obtain ⟨v28, e28, hr⟩ := hq
    have hq := asI_inv hr
    clear hr
    obtain ⟨x28, rfl, hr⟩ := hq
    refine wo_step (v := (.i .i64 x28)) (s_pure (o_ext rfl e28)) ?_
    refine wo_step (v := v27) (s_pure (p_mv rfl)) ?_
    refine wo_step (v := (.i .i64 x28)) (s_pure (p_mv rfl)) ?_
    refine wo_nil ?_
    refine nx_norm ?_
    refine w_seq ?_
    refine w_seq ?_
    refine w_ops ?_
    refine wo_step (v := (.i .i64 x28)) (s_pure (p_mv rfl)) ?_
    have hq := forceB_inv hr
    clear hr
    obtain ⟨c30, e30, hr⟩ := hq
    refine wo_step (v := (.b c30)) (s_pure (p_bin rfl rfl (b_eql.trans (cb e30)))) ?_
    refine wo_nil ?_
    refine nx_norm ?_
    have hq := bindO_inv hr
    clear hr
    obtain ⟨o, hr, hk⟩ := hq
    refine jp_mono (J := g16_J0 v0 o) ?_ ?_
    · clear hk
      have hq := cond_inv hr
      clear hr
      rcases hq with ⟨rfl, hr⟩ | ⟨rfl, hr⟩
      · refine w_condT rfl ?_
        refine w_seq ?_
        refine w_ops ?_
        refine wo_step (v := v27) (s_pure (p_mv rfl)) ?_
        refine wo_step (v := (.i .i64 x1)) (s_pure (p_mv g1)) ?_
        have hq := bindO_inv hr
        clear hr
        obtain ⟨v34, e34, hr⟩ := hq
        refine wo_step (v := v34) (s_pure (o_build (qc rfl (qc rfl qn)) e34)) ?_
        have hq := bindP_inv hr
        clear hr
        obtain ⟨v35, m_3, e35, hr⟩ := hq
        refine wo_step (v := v35) (s_call (mc rfl (mc rfl mn)) (callM_le hM.call e35)) ?_
        refine wo_step (v := v35) (s_pure (p_mv rfl)) ?_
        have hq := bindO_inv hr
        clear hr
        obtain ⟨v36, e36, hr⟩ := hq
        refine wo_step (v := v36) (s_pure (o_ext rfl e36)) ?_
        have hq := bindO_inv hr
        clear hr
        obtain ⟨v37, e37, hr⟩ := hq
        have hq := asI_inv hr
        clear hr
        obtain ⟨x37, rfl, hr⟩ := hq
        refine wo_step (v := (.i .i64 x37)) (s_pure (o_ext rfl e37)) ?_
        refine wo_step (v := v36) (s_pure (p_mv rfl)) ?_
        refine wo_step (v := (.i .i64 x37)) (s_pure (p_mv rfl)) ?_
        refine wo_nil ?_
        refine nx_norm ?_
        refine w_seq ?_
        refine w_ops ?_
        refine wo_step (v := (.i .i64 x37)) (s_pure (p_mv rfl)) ?_
        have hq := forceB_inv hr
        clear hr
        obtain ⟨c39, e39, hr⟩ := hq
        refine wo_step (v := (.b c39)) (s_pure (p_bin rfl rfl (b_neq.trans (cb e39)))) ?_
        refine wo_step (v := (.b c39)) (s_pure (p_mv rfl)) ?_
        have hq := bindO_inv hr
        clear hr
        obtain ⟨o_1, hr, hk⟩ := hq
        refine wo_join 5 (g16_J1 v0 x1 v27 o_1) ?_ ?_
        · clear hk
          have hq := cond_inv hr
          clear hr
          rcases hq with ⟨rfl, hr⟩ | ⟨rfl, hr⟩
          · refine wo_skip (v := (.b true)) rfl rfl ?_
            refine wo_skip (v := (.b true)) rfl rfl ?_
            refine wo_skip (v := (.b true)) rfl rfl ?_
            refine wo_skip (v := (.b true)) rfl rfl ?_
            refine wo_step (v := (.b true)) (s_pure (p_pickT rfl rfl)) ?_
            refine wo_nil ?_
            cases hr
            exact ⟨_, _, rfl, rfl, gl rfl, gl g0, gl g1, gl rfl⟩
          · refine wo_take (v := v27) rfl (s_pure (p_mv rfl)) ?_
            refine wo_take (v := v36) rfl (s_pure (p_mv rfl)) ?_
            have hq := bindP_inv hr
            clear hr
            obtain ⟨v43, m_5, e43, hr⟩ := hq
            have hq := asB_inv hr
            clear hr
            obtain ⟨c43, rfl, hr⟩ := hq
            refine wo_take (v := (.b c43)) rfl (s_call (mc rfl (mc rfl mn)) (callM_le hM.call e43)) ?_
            have hq := forceB_inv hr
            clear hr
            obtain ⟨c44, e44, hr⟩ := hq
            refine wo_take (v := (.b c44)) rfl (s_pure ((p_not rfl).trans (cb e44))) ?_
            refine wo_step (v := (.b c44)) (s_pure (p_pickF rfl rfl)) ?_
            refine wo_nil ?_
            cases hr
            exact ⟨_, _, rfl, rfl, gl rfl, gl g0, gl g1, gl rfl⟩
        · clear hr
          have hr := hk
          clear hk
          obtain ⟨c45, m_4⟩ := o_1
          rintro mm t_1 ⟨rfl, g45, g0, g1, g5⟩
          refine wo_step (v := (.b c45)) (s_pure (p_mv g45)) ?_
          have hq := bindO_inv hr
          clear hr
          obtain ⟨o_2, hr, hk⟩ := hq
          refine wo_join 3 (g16_J2 v0 x1 v27 m_4 o_2) ?_ ?_
          · clear hk
            have hq := cond_inv hr
            clear hr
            rcases hq with ⟨rfl, hr⟩ | ⟨rfl, hr⟩
            · refine wo_skip (v := (.b true)) rfl rfl ?_
              refine wo_skip (v := (.b true)) rfl rfl ?_
              refine wo_step (v := (.b true)) (s_pure (p_pickT rfl rfl)) ?_
              refine wo_nil ?_
              cases hr
              exact ⟨_, _, rfl, rfl, gl rfl, gl g0, gl g1, gl g5⟩
            · refine wo_take (v := (.i .i64 x1)) rfl (s_pure (p_mv g1)) ?_
              have hq := forceB_inv hr
              clear hr
              obtain ⟨c48, e48, hr⟩ := hq
              refine wo_take (v := (.b c48)) rfl (s_pure (p_bin rfl rfl (b_lss.trans (cb e48)))) ?_
              refine wo_step (v := (.b c48)) (s_pure (p_pickF rfl rfl)) ?_
              refine wo_nil ?_
              cases hr
              exact ⟨_, _, rfl, rfl, gl rfl, gl g0, gl g1, gl g5⟩
          · clear hr
            have hr := hk
            clear hk
            obtain ⟨c49, ho⟩ : ∃ z, z = o_2 := ⟨_, rfl⟩
            subst ho
            rintro mm_1 t_2 ⟨rfl, g49, g0, g1, g5⟩
            refine wo_step (v := (.b c49)) (s_pure (p_mv g49)) ?_
            have hq := bindO_inv hr
            clear hr
            obtain ⟨o_3, hr, hk⟩ := hq
            refine wo_join 5 (g16_J3 v0 x1 v27 m_4 o_3) ?_ ?_
            · clear hk
              have hq := cond_inv hr
              clear hr
              rcases hq with ⟨rfl, hr⟩ | ⟨rfl, hr⟩
              · refine wo_skip (v := (.b true)) rfl rfl ?_
                refine wo_skip (v := (.b true)) rfl rfl ?_
                refine wo_skip (v := (.b true)) rfl rfl ?_
                refine wo_skip (v := (.b true)) rfl rfl ?_
                refine wo_step (v := (.b true)) (s_pure (p_pickT rfl rfl)) ?_
                refine wo_nil ?_
                cases hr
                exact ⟨_, _, rfl, rfl, gl rfl, gl g0, gl g1, gl g5⟩
              · refine wo_take (v := (.i .i64 x1)) rfl (s_pure (p_mv g1)) ?_
                refine wo_take (v := v27) rfl (s_pure (p_mv g5)) ?_
                have hq := bindO_inv hr
                clear hr
                obtain ⟨v53, e53, hr⟩ := hq
                have hq := asI_inv hr
                clear hr
                obtain ⟨x53, rfl, hr⟩ := hq
                refine wo_take (v := (.i .i64 x53)) rfl (s_pure (o_len rfl e53)) ?_
                have hq := forceB_inv hr
                clear hr
                obtain ⟨c54, e54, hr⟩ := hq
                refine wo_take (v := (.b c54)) rfl (s_pure (p_bin rfl rfl (b_geq.trans (cb e54)))) ?_
                refine wo_step (v := (.b c54)) (s_pure (p_pickF rfl rfl)) ?_
                refine wo_nil ?_
                cases hr
                exact ⟨_, _, rfl, rfl, gl rfl, gl g0, gl g1, gl g5⟩
            · clear hr
              have hr := hk
              clear hk
              obtain ⟨c55, ho⟩ : ∃ z, z = o_3 := ⟨_, rfl⟩
              subst ho
              rintro mm_2 t_3 ⟨rfl, g55, g0, g1, g5⟩
              refine wo_step (v := (.b c55)) (s_pure (p_mv g55)) ?_
              have hq := bindO_inv hr
              clear hr
              obtain ⟨o_4, hr, hk⟩ := hq
              refine wo_join 7 (g16_J4 v0 m_4 o_4) ?_ ?_
              · clear hk
                have hq := cond_inv hr
                clear hr
                rcases hq with ⟨rfl, hr⟩ | ⟨rfl, hr⟩
                · refine wo_skip (v := (.b true)) rfl rfl ?_
                  refine wo_skip (v := (.b true)) rfl rfl ?_
                  refine wo_skip (v := (.b true)) rfl rfl ?_
                  refine wo_skip (v := (.b true)) rfl rfl ?_
                  refine wo_skip (v := (.b true)) rfl rfl ?_
                  refine wo_skip (v := (.b true)) rfl rfl ?_
                  refine wo_step (v := (.b true)) (s_pure (p_pickT rfl rfl)) ?_
                  refine wo_nil ?_
                  cases hr
                  exact ⟨_, _, rfl, rfl, gl rfl, gl g0⟩
                · refine wo_take (v := v27) rfl (s_pure (p_mv g5)) ?_
                  refine wo_take (v := (.i .i64 x1)) rfl (s_pure (p_mv g1)) ?_
                  have hq := bindO_inv hr
                  clear hr
                  obtain ⟨v59, e59, hr⟩ := hq
                  refine wo_take (v := v59) rfl (s_pure (o_ixS rfl rfl e59)) ?_
                  have hq := bindO_inv hr
                  clear hr
                  obtain ⟨v60, e60, hr⟩ := hq
                  refine wo_take (v := v60) rfl (s_pure (o_faddr rfl e60)) ?_
                  have hq := bindO_inv hr
                  clear hr
                  obtain ⟨v61, e61, hr⟩ := hq
                  have hq := asB_inv hr
                  clear hr
                  obtain ⟨c61, rfl, hr⟩ := hq
                  refine wo_take (v := (.b c61)) rfl (s_ld rfl e61) ?_
                  have hq := forceB_inv hr
                  clear hr
                  obtain ⟨c62, e62, hr⟩ := hq
                  refine wo_take (v := (.b c62)) rfl (s_pure ((p_not rfl).trans (cb e62))) ?_
                  refine wo_step (v := (.b c62)) (s_pure (p_pickF rfl rfl)) ?_
                  refine wo_nil ?_
                  cases hr
                  exact ⟨_, _, rfl, rfl, gl rfl, gl g0⟩
              · clear hr
                have hr := hk
                clear hk
                obtain ⟨c63, ho⟩ : ∃ z, z = o_4 := ⟨_, rfl⟩
                subst ho
                rintro mm_3 t_4 ⟨rfl, g63, g0⟩
                refine wo_nil ?_
                refine nx_norm ?_
                have hq := cond_inv hr
                clear hr
                rcases hq with ⟨rfl, hr⟩ | ⟨rfl, hr⟩
                · refine w_condT g63 ?_
                  refine w_seq ?_
                  refine w_ops ?_
                  refine wo_step (v := (.b false)) (s_pure (p_mv rfl)) ?_
                  refine wo_nil ?_
                  refine nx_norm ?_
                  refine w_ret ?_
                  cases hr
                  exact ⟨_, _, rfl, rfl, rfl, gl rfl⟩
                · refine w_condF g63 ?_
                  refine w_skip ?_
                  cases hr
                  exact ⟨_, _, rfl, rfl, rfl, gl g0⟩
      · refine w_condF rfl ?_
        refine w_skip ?_
        cases hr
        exact ⟨_, _, rfl, rfl, rfl, gl g0⟩
    · clear hr
      have hr := hk
      clear hk
      rcases o with o | o
      · obtain ⟨m_6, ho⟩ : ∃ z, z = o := ⟨_, rfl⟩
        subst ho
        rintro _ mm_15 t_5 ⟨rfl, rfl, g0⟩
        refine nx_norm ?_
        refine w_seq ?_
        refine w_ops ?_
        refine wo_step (v := v0) (s_pure (p_mv g0)) ?_
        have hq := bindP_inv hr
        clear hr
        obtain ⟨v66, m_7, e66, hr⟩ := hq
        refine wo_step (v := v66) (s_call (mc rfl mn) (callM_le hM.call e66)) ?_
        refine wo_step (v := v66) (s_pure (p_mv rfl)) ?_
        have hq := bindO_inv hr
        clear hr
        obtain ⟨v67, e67, hr⟩ := hq
        have hq := asS_inv hr
        clear hr
        obtain ⟨s67, rfl, hr⟩ := hq
        refine wo_step (v := (.s s67)) (s_pure (o_ext rfl e67)) ?_
        have hq := bindO_inv hr
        clear hr
        obtain ⟨v68, e68, hr⟩ := hq
        have hq := asI_inv hr
        clear hr
        obtain ⟨x68, rfl, hr⟩ := hq
        refine wo_step (v := (.i .i64 x68)) (s_pure (o_ext rfl e68)) ?_
        refine wo_step (v := (.s s67)) (s_pure (p_mv rfl)) ?_
        refine wo_step (v := (.i .i64 x68)) (s_pure (p_mv rfl)) ?_
        refine wo_nil ?_
        refine nx_norm ?_
        refine w_seq ?_
        refine w_ops ?_
        refine wo_step (v := v0) (s_pure (p_mv g0)) ?_
        have hq := bindP_inv hr
        clear hr
        obtain ⟨v71, m_8, e71, hr⟩ := hq
        refine wo_step (v := v71) (s_call (mc rfl mn) (callM_le hM.call e71)) ?_
        refine wo_step (v := v71) (s_pure (p_mv rfl)) ?_
        have hq := bindO_inv hr
        clear hr
        obtain ⟨v72, e72, hr⟩ := hq
        refine wo_step (v := v72) (s_pure (o_ext rfl e72)) ?_
        have hq := bindO_inv hr
        clear hr
        obtain ⟨v73, e73, hr⟩ := hq
        have hq := asI_inv hr
        clear hr
        obtain ⟨x73, rfl, hr⟩ := hq
        refine wo_step (v := (.i .i64 x73)) (s_pure (o_ext rfl e73)) ?_
        refine wo_step (v := v72) (s_pure (p_mv rfl)) ?_
        refine wo_step (v := (.i .i64 x73)) (s_pure (p_mv rfl)) ?_
        refine wo_nil ?_
        refine nx_norm ?_
        refine w_seq ?_
        refine w_ops ?_
        refine wo_step (v := v72) (s_pure (p_mv rfl)) ?_
        have hq := bindP_inv hr
        clear hr
        obtain ⟨v76, m_9, e76, hr⟩ := hq
        refine wo_step (v := v76) (s_call (mc rfl mn) (callM_le hM.call e76)) ?_
        refine wo_step (v := v76) (s_pure (p_mv rfl)) ?_
        have hq := bindO_inv hr
        clear hr
        obtain ⟨v77, e77, hr⟩ := hq
        have hq := asS_inv hr
        clear hr
        obtain ⟨s77, rfl, hr⟩ := hq
        refine wo_step (v := (.s s77)) (s_pure (o_ext rfl e77)) ?_
        have hq := bindO_inv hr
        clear hr
        obtain ⟨v78, e78, hr⟩ := hq
        have hq := asI_inv hr
        clear hr
        obtain ⟨x78, rfl, hr⟩ := hq
        refine wo_step (v := (.i .i64 x78)) (s_pure (o_ext rfl e78)) ?_
        refine wo_step (v := (.s s77)) (s_pure (p_mv rfl)) ?_
        refine wo_step (v := (.i .i64 x78)) (s_pure (p_mv rfl)) ?_
        refine wo_nil ?_
        refine nx_norm ?_
        refine w_seq ?_
        refine w_seq ?_
        refine w_ops ?_
        refine wo_step (v := (.i .i64 x68)) (s_pure (p_mv rfl)) ?_
        have hq := forceB_inv hr
        clear hr
        obtain ⟨c80, e80, hr⟩ := hq
        refine wo_step (v := (.b c80)) (s_pure (p_bin rfl rfl (b_neq.trans (cb e80)))) ?_
        refine wo_nil ?_
        refine nx_norm ?_
        have hq := cond_inv hr
        clear hr
        rcases hq with ⟨rfl, hr⟩ | ⟨rfl, hr⟩
        · refine w_condT rfl ?_
          refine w_seq ?_
          refine w_ops ?_
          refine wo_step (v := (.i .i64 x68)) (s_pure (p_mv rfl)) ?_
          refine wo_step (v := (.i .i64 x73)) (s_pure (p_mv rfl)) ?_
          have hq := forceB_inv hr
          clear hr
          obtain ⟨c83, e83, hr⟩ := hq
          refine wo_step (v := (.b c83)) (s_pure (p_bin rfl rfl (b_eql.trans (cb e83)))) ?_
          refine wo_step (v := (.b c83)) (s_pure (p_mv rfl)) ?_
          have hq := bindO_inv hr
          clear hr
          obtain ⟨o_5, hr, hk⟩ := hq
          refine wo_join 3 (g16_J5 v72 m_9 o_5) ?_ ?_
          · clear hk
            have hq := cond_inv hr
            clear hr
            rcases hq with ⟨rfl, hr⟩ | ⟨rfl, hr⟩
            · refine wo_take (v := (.s s67)) rfl (s_pure (p_mv rfl)) ?_
              have hq := bindO_inv hr
              clear hr
              obtain ⟨v86, e86, hr⟩ := hq
              have hq := asB_inv hr
              clear hr
              obtain ⟨c86, rfl, hr⟩ := hq
              refine wo_take (v := (.b c86)) rfl (s_pure (o_sbin rfl rfl e86)) ?_
              refine wo_step (v := (.b c86)) (s_pure (p_pickT rfl rfl)) ?_
              refine wo_nil ?_
              cases hr
              exact ⟨_, _, rfl, rfl, gl rfl, gl rfl⟩
            · refine wo_skip (v := (.b false)) rfl rfl ?_
              refine wo_skip (v := (.b false)) rfl rfl ?_
              refine wo_step (v := (.b false)) (s_pure (p_pickF rfl rfl)) ?_
              refine wo_nil ?_
              cases hr
              exact ⟨_, _, rfl, rfl, gl rfl, gl rfl⟩
          · clear hr
            have hr := hk
            clear hk
            obtain ⟨c87, ho⟩ : ∃ z, z = o_5 := ⟨_, rfl⟩
            subst ho
            rintro mm_4 t_6 ⟨rfl, g87, g10⟩
            refine wo_step (v := (.b c87)) (s_pure (p_mv g87)) ?_
            have hq := bindO_inv hr
            clear hr
            obtain ⟨o_6, hr, hk⟩ := hq
            refine wo_join 4 (g16_J6 m_9 o_6) ?_ ?_
            · clear hk
              have hq := cond_inv hr
              clear hr
              rcases hq with ⟨rfl, hr⟩ | ⟨rfl, hr⟩
              · refine wo_take (v := v72) rfl (s_pure (p_mv g10)) ?_
                have hq := bindO_inv hr
                clear hr
                obtain ⟨v90, e90, hr⟩ := hq
                have hq := asI_inv hr
                clear hr
                obtain ⟨x90, rfl, hr⟩ := hq
                refine wo_take (v := (.i .i64 x90)) rfl (s_pure (o_len rfl e90)) ?_
                have hq := forceB_inv hr
                clear hr
                obtain ⟨c91, e91, hr⟩ := hq
                refine wo_take (v := (.b c91)) rfl (s_pure (p_bin rfl rfl (b_eql.trans (cb e91)))) ?_
                refine wo_step (v := (.b c91)) (s_pure (p_pickT rfl rfl)) ?_
                refine wo_nil ?_
                cases hr
                exact ⟨_, _, rfl, rfl, gl rfl⟩
              · refine wo_skip (v := (.b false)) rfl rfl ?_
                refine wo_skip (v := (.b false)) rfl rfl ?_
                refine wo_skip (v := (.b false)) rfl rfl ?_
                refine wo_step (v := (.b false)) (s_pure (p_pickF rfl rfl)) ?_
                refine wo_nil ?_
                cases hr
                exact ⟨_, _, rfl, rfl, gl rfl⟩
            · clear hr
              have hr := hk
              clear hk
              obtain ⟨c92, ho⟩ : ∃ z, z = o_6 := ⟨_, rfl⟩
              subst ho
              rintro mm_5 t_7 ⟨rfl, g92⟩
              refine wo_step (v := (.b c92)) (s_pure (p_mv g92)) ?_
              have hq := bindO_inv hr
              clear hr
              obtain ⟨o_7, hr, hk⟩ := hq
              refine wo_join 2 (g16_J7  o_7) ?_ ?_
              · clear hk
                have hq := cond_inv hr
                clear hr
                rcases hq with ⟨rfl, hr⟩ | ⟨rfl, hr⟩
                · have hq := bindP_inv hr
                  clear hr
                  obtain ⟨v94, m_11, e94, hr⟩ := hq
                  have hq := asB_inv hr
                  clear hr
                  obtain ⟨c94, rfl, hr⟩ := hq
                  refine wo_take (v := (.b c94)) rfl (s_call mn (callM_le hM.call e94)) ?_
                  refine wo_step (v := (.b c94)) (s_pure (p_pickT rfl rfl)) ?_
                  refine wo_nil ?_
                  cases hr
                  exact ⟨_, _, rfl, rfl, gl rfl⟩
                · refine wo_skip (v := (.b false)) rfl rfl ?_
                  refine wo_step (v := (.b false)) (s_pure (p_pickF rfl rfl)) ?_
                  refine wo_nil ?_
                  cases hr
                  exact ⟨_, _, rfl, rfl, gl rfl⟩
              · clear hr
                have hr := hk
                clear hk
                obtain ⟨c95, m_10⟩ := o_7
                rintro mm_6 t_8 ⟨rfl, g95⟩
                refine wo_step (v := (.b c95)) (s_pure (p_mv g95)) ?_
                refine wo_nil ?_
                refine nx_norm ?_
                refine w_ret ?_
                refine nx_ret ?_
                exact qf ret_ok (rt rfl rn) hr
        · refine w_condF rfl ?_
          refine w_skip ?_
          refine nx_norm ?_
          refine w_seq ?_
          refine w_seq ?_
          refine w_ops ?_
          refine wo_step (v := (.i .i64 x73)) (s_pure (p_mv rfl)) ?_
          have hq := forceB_inv hr
          clear hr
          obtain ⟨c97, e97, hr⟩ := hq
          refine wo_step (v := (.b c97)) (s_pure (p_bin rfl rfl (b_neq.trans (cb e97)))) ?_
          refine wo_step (v := (.b c97)) (s_pure (p_mv rfl)) ?_
          have hq := bindO_inv hr
          clear hr
          obtain ⟨o_8, hr, hk⟩ := hq
          refine wo_join 3 (g16_J8 v0 s67 v72 s77 m_9 o_8) ?_ ?_
          · clear hk
            have hq := cond_inv hr
            clear hr
            rcases hq with ⟨rfl, hr⟩ | ⟨rfl, hr⟩
            · refine wo_skip (v := (.b true)) rfl rfl ?_
              refine wo_skip (v := (.b true)) rfl rfl ?_
              refine wo_step (v := (.b true)) (s_pure (p_pickT rfl rfl)) ?_
              refine wo_nil ?_
              cases hr
              exact ⟨_, _, rfl, rfl, gl rfl, gl g0, gl rfl, gl rfl, gl rfl⟩
            · refine wo_take (v := (.i .i64 x78)) rfl (s_pure (p_mv rfl)) ?_
              have hq := forceB_inv hr
              clear hr
              obtain ⟨c100, e100, hr⟩ := hq
              refine wo_take (v := (.b c100)) rfl (s_pure (p_bin rfl rfl (b_neq.trans (cb e100)))) ?_
              refine wo_step (v := (.b c100)) (s_pure (p_pickF rfl rfl)) ?_
              refine wo_nil ?_
              cases hr
              exact ⟨_, _, rfl, rfl, gl rfl, gl g0, gl rfl, gl rfl, gl rfl⟩
          · clear hr
            have hr := hk
            clear hk
            obtain ⟨c101, ho⟩ : ∃ z, z = o_8 := ⟨_, rfl⟩
            subst ho
            rintro mm_7 t_9 ⟨rfl, g101, g0, g9, g10, g12⟩
            refine wo_step (v := (.b c101)) (s_pure (p_mv g101)) ?_
            have hq := bindO_inv hr
            clear hr
            obtain ⟨o_9, hr, hk⟩ := hq
            refine wo_join 4 (g16_J9 v0 s67 v72 m_9 o_9) ?_ ?_
            · clear hk
              have hq := cond_inv hr
              clear hr
              rcases hq with ⟨rfl, hr⟩ | ⟨rfl, hr⟩
              · refine wo_skip (v := (.b true)) rfl rfl ?_
                refine wo_skip (v := (.b true)) rfl rfl ?_
                refine wo_skip (v := (.b true)) rfl rfl ?_
                refine wo_step (v := (.b true)) (s_pure (p_pickT rfl rfl)) ?_
                refine wo_nil ?_
                cases hr
                exact ⟨_, _, rfl, rfl, gl rfl, gl g0, gl g9, gl g10⟩
              · refine wo_take (v := (.s s67)) rfl (s_pure (p_mv g9)) ?_
                refine wo_take (v := (.s s77)) rfl (s_pure (p_mv g12)) ?_
                have hq := bindO_inv hr
                clear hr
                obtain ⟨v105, e105, hr⟩ := hq
                have hq := asB_inv hr
                clear hr
                obtain ⟨c105, rfl, hr⟩ := hq
                refine wo_take (v := (.b c105)) rfl (s_pure (o_sbin rfl rfl e105)) ?_
                refine wo_step (v := (.b c105)) (s_pure (p_pickF rfl rfl)) ?_
                refine wo_nil ?_
                cases hr
                exact ⟨_, _, rfl, rfl, gl rfl, gl g0, gl g9, gl g10⟩
            · clear hr
              have hr := hk
              clear hk
              obtain ⟨c106, ho⟩ : ∃ z, z = o_9 := ⟨_, rfl⟩
              subst ho
              rintro mm_8 t_10 ⟨rfl, g106, g0, g9, g10⟩
              refine wo_step (v := (.b c106)) (s_pure (p_mv g106)) ?_
              have hq := bindO_inv hr
              clear hr
              obtain ⟨o_10, hr, hk⟩ := hq
              refine wo_join 6 (g16_J10 v0 s67 v72 m_9 o_10) ?_ ?_
              · clear hk
                have hq := cond_inv hr
                clear hr
                rcases hq with ⟨rfl, hr⟩ | ⟨rfl, hr⟩
                · refine wo_skip (v := (.b true)) rfl rfl ?_
                  refine wo_skip (v := (.b true)) rfl rfl ?_
                  refine wo_skip (v := (.b true)) rfl rfl ?_
                  refine wo_skip (v := (.b true)) rfl rfl ?_
                  refine wo_skip (v := (.b true)) rfl rfl ?_
                  refine wo_step (v := (.b true)) (s_pure (p_pickT rfl rfl)) ?_
                  refine wo_nil ?_
                  cases hr
                  exact ⟨_, _, rfl, rfl, gl rfl, gl g0, gl g9, gl g10⟩
                · refine wo_take (v := v72) rfl (s_pure (p_mv g10)) ?_
                  have hq := bindO_inv hr
                  clear hr
                  obtain ⟨v109, e109, hr⟩ := hq
                  have hq := asI_inv hr
                  clear hr
                  obtain ⟨x109, rfl, hr⟩ := hq
                  refine wo_take (v := (.i .i64 x109)) rfl (s_pure (o_len rfl e109)) ?_
                  refine wo_take (v := (.s s67)) rfl (s_pure (p_mv g9)) ?_
                  have hq := bindO_inv hr
                  clear hr
                  obtain ⟨v111, e111, hr⟩ := hq
                  have hq := asI_inv hr
                  clear hr
                  obtain ⟨x111, rfl, hr⟩ := hq
                  refine wo_take (v := (.i .i64 x111)) rfl (s_pure (o_len rfl e111)) ?_
                  have hq := forceB_inv hr
                  clear hr
                  obtain ⟨c112, e112, hr⟩ := hq
                  refine wo_take (v := (.b c112)) rfl (s_pure (p_bin rfl rfl (b_neq.trans (cb e112)))) ?_
                  refine wo_step (v := (.b c112)) (s_pure (p_pickF rfl rfl)) ?_
                  refine wo_nil ?_
                  cases hr
                  exact ⟨_, _, rfl, rfl, gl rfl, gl g0, gl g9, gl g10⟩
              · clear hr
                have hr := hk
                clear hk
                obtain ⟨c113, ho⟩ : ∃ z, z = o_10 := ⟨_, rfl⟩
                subst ho
                rintro mm_9 t_11 ⟨rfl, g113, g0, g9, g10⟩
                refine wo_nil ?_
                refine nx_norm ?_
                have hq := cond_inv hr
                clear hr
                rcases hq with ⟨rfl, hr⟩ | ⟨rfl, hr⟩
                · refine w_condT g113 ?_
                  refine w_seq ?_
                  refine w_ops ?_
                  refine wo_step (v := (.b false)) (s_pure (p_mv rfl)) ?_
                  refine wo_nil ?_
                  refine nx_norm ?_
                  refine w_ret ?_
                  refine nx_ret ?_
                  exact qf ret_ok (rt rfl rn) hr
                · refine w_condF g113 ?_
                  refine w_skip ?_
                  refine nx_norm ?_
                  refine w_seq ?_
                  refine w_seq ?_
                  refine w_ops ?_
                  refine wo_step (v := (.i .i64 0)) (s_pure (p_mv rfl)) ?_
                  refine wo_nil ?_
                  refine nx_norm ?_
                  refine w_block ?_
                  have hq := bindO_inv hr
                  clear hr
                  obtain ⟨o_16, hl, hr⟩ := hq
                  obtain ⟨n, hl⟩ := hM.loop _ _ _ hl
                  refine jp_mono (w_loop _ (g16_I11 v0 s67 v72) (g16_J11 v0 s67 v72) ?_ n _ _ _ _ hl ⟨rfl, gl rfl, gl g0, gl g9, gl g10⟩) ?_
                  · clear hr hl
                    intro s mm_14 t_12 o hi hr
                    obtain ⟨x14, m_12⟩ := s
                    obtain ⟨rfl, g14, g0, g9, g10⟩ := hi
                    unfold g16_b11 at hr
                    refine w_seq ?_
                    refine w_seq ?_
                    refine w_ops ?_
                    refine wo_step (v := (.i .i64 x14)) (s_pure (p_mv g14)) ?_
                    refine wo_step (v := v72) (s_pure (p_mv g10)) ?_
                    have hq := bindO_inv hr
                    clear hr
                    obtain ⟨v116, e116, hr⟩ := hq
                    have hq := asI_inv hr
                    clear hr
                    obtain ⟨x116, rfl, hr⟩ := hq
                    refine wo_step (v := (.i .i64 x116)) (s_pure (o_len rfl e116)) ?_
                    have hq := forceB_inv hr
                    clear hr
                    obtain ⟨c117, e117, hr⟩ := hq
                    refine wo_step (v := (.b c117)) (s_pure (p_bin rfl rfl (b_lss.trans (cb e117)))) ?_
                    refine wo_nil ?_
                    refine nx_norm ?_
                    have hq := cond_inv hr
                    clear hr
                    rcases hq with ⟨rfl, hr⟩ | ⟨rfl, hr⟩
                    · refine w_condT rfl ?_
                      refine w_skip ?_
                      refine nx_norm ?_
                      refine w_seq ?_
                      refine w_block ?_
                      refine w_seq ?_
                      refine w_ops ?_
                      refine wo_step (v := v0) (s_pure (p_mv g0)) ?_
                      refine wo_step (v := (.i .i64 x14)) (s_pure (p_mv g14)) ?_
                      have hq := bindP_inv hr
                      clear hr
                      obtain ⟨v123, m_13, e123, hr⟩ := hq
                      refine wo_step (v := v123) (s_call (mc rfl (mc rfl mn)) (callM_le hM.call e123)) ?_
                      refine wo_step (v := v123) (s_pure (p_mv rfl)) ?_
                      have hq := bindO_inv hr
                      clear hr
                      obtain ⟨v124, e124, hr⟩ := hq
                      have hq := asI_inv hr
                      clear hr
                      obtain ⟨x124, rfl, hr⟩ := hq
                      refine wo_step (v := (.i .i64 x124)) (s_pure (o_ext rfl e124)) ?_
                      have hq := bindO_inv hr
                      clear hr
                      obtain ⟨v125, e125, hr⟩ := hq
                      have hq := asI_inv hr
                      clear hr
                      obtain ⟨x125, rfl, hr⟩ := hq
                      refine wo_step (v := (.i .i64 x125)) (s_pure (o_ext rfl e125)) ?_
                      refine wo_step (v := (.i .i64 x124)) (s_pure (p_mv rfl)) ?_
                      refine wo_step (v := (.i .i64 x125)) (s_pure (p_mv rfl)) ?_
                      refine wo_nil ?_
                      refine nx_norm ?_
                      refine w_seq ?_
                      refine w_any ?_
                      refine wa_step (v := (.i .i64 x125)) (a_pure (p_mv rfl)) ?_
                      have hq := forceB_inv hr
                      clear hr
                      obtain ⟨c127, e127, hr⟩ := hq
                      refine wa_step (v := (.b c127)) (a_pure (p_bin rfl rfl (b_neq.trans (cb e127)))) ?_
                      refine wa_step (v := (.b c127)) (a_pure (p_mv rfl)) ?_
                      have hq := bindO_inv hr
                      clear hr
                      obtain ⟨o_11, hr, hk⟩ := hq
                      refine wa_join 3 (JA (g16_J12 v0 s67 v72 x14 x124 m_13 o_11) m_13 (m_13.h) [] []) ?_ ?_
                      · clear hk
                        have hq := cond_inv hr
                        clear hr
                        rcases hq with ⟨rfl, hr⟩ | ⟨rfl, hr⟩
                        · refine wa_skip (v := (.b true)) rfl rfl ?_
                          refine wa_skip (v := (.b true)) rfl rfl ?_
                          refine wa_step (v := (.b true)) (a_pure (p_pickT rfl rfl)) ?_
                          refine wa_nil ?_
                          cases hr
                          exact ja_in ⟨rfl, gl rfl, gl g0, gl g9, gl g10, gl g14, gl rfl⟩
                        · refine wa_take (v := (.i .i64 x124)) rfl (a_pure (p_mv rfl)) ?_
                          have hq := forceB_inv hr
                          clear hr
                          obtain ⟨c130, e130, hr⟩ := hq
                          refine wa_take (v := (.b c130)) rfl (a_pure (p_bin rfl rfl (b_lss.trans (cb e130)))) ?_
                          refine wa_step (v := (.b c130)) (a_pure (p_pickF rfl rfl)) ?_
                          refine wa_nil ?_
                          cases hr
                          exact ja_in ⟨rfl, gl rfl, gl g0, gl g9, gl g10, gl g14, gl rfl⟩
                      · clear hr
                        have hr := hk
                        clear hk
                        obtain ⟨c131, ho⟩ : ∃ z, z = o_11 := ⟨_, rfl⟩
                        subst ho
                        refine ja_out ?_
                        rintro t_13 ⟨-, g131, g0, g9, g10, g14, g15⟩
                        refine wa_step (v := (.b c131)) (a_pure (p_mv g131)) ?_
                        have hq := bindO_inv hr
                        clear hr
                        obtain ⟨o_12, hr, hk⟩ := hq
                        refine wa_join 5 (JA (g16_J13 v0 s67 v72 x14 x124 m_13 o_12) m_13 (m_13.h) [] []) ?_ ?_
                        · clear hk
                          have hq := cond_inv hr
                          clear hr
                          rcases hq with ⟨rfl, hr⟩ | ⟨rfl, hr⟩
                          · refine wa_skip (v := (.b true)) rfl rfl ?_
                            refine wa_skip (v := (.b true)) rfl rfl ?_
                            refine wa_skip (v := (.b true)) rfl rfl ?_
                            refine wa_skip (v := (.b true)) rfl rfl ?_
                            refine wa_step (v := (.b true)) (a_pure (p_pickT rfl rfl)) ?_
                            refine wa_nil ?_
                            cases hr
                            exact ja_in ⟨rfl, gl rfl, gl g0, gl g9, gl g10, gl g14, gl g15⟩
                          · refine wa_take (v := (.i .i64 x124)) rfl (a_pure (p_mv g15)) ?_
                            refine wa_take (v := v0) rfl (a_pure (p_mv g0)) ?_
                            have hq := bindO_inv hr
                            clear hr
                            obtain ⟨v135, e135, hr⟩ := hq
                            have hq := asI_inv hr
                            clear hr
                            obtain ⟨x135, rfl, hr⟩ := hq
                            refine wa_take (v := (.i .i64 x135)) rfl (a_pure (o_len rfl e135)) ?_
                            have hq := forceB_inv hr
                            clear hr
                            obtain ⟨c136, e136, hr⟩ := hq
                            refine wa_take (v := (.b c136)) rfl (a_pure (p_bin rfl rfl (b_geq.trans (cb e136)))) ?_
                            refine wa_step (v := (.b c136)) (a_pure (p_pickF rfl rfl)) ?_
                            refine wa_nil ?_
                            cases hr
                            exact ja_in ⟨rfl, gl rfl, gl g0, gl g9, gl g10, gl g14, gl g15⟩
                        · clear hr
                          have hr := hk
                          clear hk
                          obtain ⟨c137, ho⟩ : ∃ z, z = o_12 := ⟨_, rfl⟩
                          subst ho
                          refine ja_out ?_
                          rintro t_14 ⟨-, g137, g0, g9, g10, g14, g15⟩
                          refine wa_step (v := (.b c137)) (a_pure (p_mv g137)) ?_
                          have hq := bindO_inv hr
                          clear hr
                          obtain ⟨o_13, hr, hk⟩ := hq
                          refine wa_join 6 (JA (g16_J14 v0 s67 v72 x14 x124 m_13 o_13) m_13 (m_13.h) [] []) ?_ ?_
                          · clear hk
                            have hq := cond_inv hr
                            clear hr
                            rcases hq with ⟨rfl, hr⟩ | ⟨rfl, hr⟩
                            · refine wa_skip (v := (.b true)) rfl rfl ?_
                              refine wa_skip (v := (.b true)) rfl rfl ?_
                              refine wa_skip (v := (.b true)) rfl rfl ?_
                              refine wa_skip (v := (.b true)) rfl rfl ?_
                              refine wa_skip (v := (.b true)) rfl rfl ?_
                              refine wa_step (v := (.b true)) (a_pure (p_pickT rfl rfl)) ?_
                              refine wa_nil ?_
                              cases hr
                              exact ja_in ⟨rfl, gl rfl, gl g0, gl g9, gl g10, gl g14, gl g15⟩
                            · refine wa_take (v := v0) rfl (a_pure (p_mv g0)) ?_
                              refine wa_take (v := (.i .i64 x124)) rfl (a_pure (p_mv g15)) ?_
                              have hq := bindO_inv hr
                              clear hr
                              obtain ⟨v141, e141, hr⟩ := hq
                              refine wa_take (v := v141) rfl (a_pure (o_ixS rfl rfl e141)) ?_
                              have hq := bindO_inv hr
                              clear hr
                              obtain ⟨v142, e142, hr⟩ := hq
                              refine wa_take (v := v142) rfl (a_pure (o_faddr rfl e142)) ?_
                              have hq := bindO_inv hr
                              clear hr
                              obtain ⟨v143, e143, hr⟩ := hq
                              have hq := asB_inv hr
                              clear hr
                              obtain ⟨c143, rfl, hr⟩ := hq
                              refine wa_take (v := (.b c143)) rfl (a_ld rfl e143) ?_
                              refine wa_step (v := (.b c143)) (a_pure (p_pickF rfl rfl)) ?_
                              refine wa_nil ?_
                              cases hr
                              exact ja_in ⟨rfl, gl rfl, gl g0, gl g9, gl g10, gl g14, gl g15⟩
                          · clear hr
                            have hr := hk
                            clear hk
                            obtain ⟨c144, ho⟩ : ∃ z, z = o_13 := ⟨_, rfl⟩
                            subst ho
                            refine ja_out ?_
                            rintro t_15 ⟨-, g144, g0, g9, g10, g14, g15⟩
                            refine wa_step (v := (.b c144)) (a_pure (p_mv g144)) ?_
                            have hq := bindO_inv hr
                            clear hr
                            obtain ⟨o_14, hr, hk⟩ := hq
                            refine wa_join 10 (JA (g16_J15 v0 s67 v72 x14 x124 m_13 o_14) m_13 (m_13.h) [] []) ?_ ?_
                            · clear hk
                              have hq := cond_inv hr
                              clear hr
                              rcases hq with ⟨rfl, hr⟩ | ⟨rfl, hr⟩
                              · refine wa_skip (v := (.b true)) rfl rfl ?_
                                refine wa_skip (v := (.b true)) rfl rfl ?_
                                refine wa_skip (v := (.b true)) rfl rfl ?_
                                refine wa_skip (v := (.b true)) rfl rfl ?_
                                refine wa_skip (v := (.b true)) rfl rfl ?_
                                refine wa_skip (v := (.b true)) rfl rfl ?_
                                refine wa_skip (v := (.b true)) rfl rfl ?_
                                refine wa_skip (v := (.b true)) rfl rfl ?_
                                refine wa_skip (v := (.b true)) rfl rfl ?_
                                refine wa_step (v := (.b true)) (a_pure (p_pickT rfl rfl)) ?_
                                refine wa_nil ?_
                                cases hr
                                exact ja_in ⟨rfl, gl rfl, gl g0, gl g9, gl g10, gl g14, gl g15⟩
                              · refine wa_take (v := v0) rfl (a_pure (p_mv g0)) ?_
                                refine wa_take (v := (.i .i64 x124)) rfl (a_pure (p_mv g15)) ?_
                                have hq := bindO_inv hr
                                clear hr
                                obtain ⟨v148, e148, hr⟩ := hq
                                refine wa_take (v := v148) rfl (a_pure (o_ixS rfl rfl e148)) ?_
                                have hq := bindO_inv hr
                                clear hr
                                obtain ⟨v149, e149, hr⟩ := hq
                                refine wa_take (v := v149) rfl (a_pure (o_faddr rfl e149)) ?_
                                have hq := bindO_inv hr
                                clear hr
                                obtain ⟨v150, e150, hr⟩ := hq
                                have hq := asI_inv hr
                                clear hr
                                obtain ⟨x150, rfl, hr⟩ := hq
                                refine wa_take (v := (.i .u8 x150)) rfl (a_ld rfl e150) ?_
                                refine wa_take (v := (.s s67)) rfl (a_pure (p_mv g9)) ?_
                                refine wa_take (v := (.i .i64 x14)) rfl (a_pure (p_mv g14)) ?_
                                have hq := bindO_inv hr
                                clear hr
                                obtain ⟨v153, e153, hr⟩ := hq
                                have hq := asI_inv hr
                                clear hr
                                obtain ⟨x153, rfl, hr⟩ := hq
                                refine wa_take (v := (.i .u8 x153)) rfl (a_pure (o_ixStr rfl rfl e153)) ?_
                                have hq := forceB_inv hr
                                clear hr
                                obtain ⟨c154, e154, hr⟩ := hq
                                refine wa_take (v := (.b c154)) rfl (a_pure (p_bin rfl rfl (b_neq.trans (cb e154)))) ?_
                                refine wa_step (v := (.b c154)) (a_pure (p_pickF rfl rfl)) ?_
                                refine wa_nil ?_
                                cases hr
                                exact ja_in ⟨rfl, gl rfl, gl g0, gl g9, gl g10, gl g14, gl g15⟩
                            · clear hr
                              have hr := hk
                              clear hk
                              obtain ⟨c155, ho⟩ : ∃ z, z = o_14 := ⟨_, rfl⟩
                              subst ho
                              refine ja_out ?_
                              rintro t_16 ⟨-, g155, g0, g9, g10, g14, g15⟩
                              refine wa_step (v := (.b c155)) (a_pure (p_mv g155)) ?_
                              have hq := bindO_inv hr
                              clear hr
                              obtain ⟨o_15, hr, hk⟩ := hq
                              refine wa_join 10 (JA (g16_J16 v0 s67 v72 x14 m_13 o_15) m_13 (m_13.h) [] []) ?_ ?_
                              · clear hk
                                have hq := cond_inv hr
                                clear hr
                                rcases hq with ⟨rfl, hr⟩ | ⟨rfl, hr⟩
                                · refine wa_skip (v := (.b true)) rfl rfl ?_
                                  refine wa_skip (v := (.b true)) rfl rfl ?_
                                  refine wa_skip (v := (.b true)) rfl rfl ?_
                                  refine wa_skip (v := (.b true)) rfl rfl ?_
                                  refine wa_skip (v := (.b true)) rfl rfl ?_
                                  refine wa_skip (v := (.b true)) rfl rfl ?_
                                  refine wa_skip (v := (.b true)) rfl rfl ?_
                                  refine wa_skip (v := (.b true)) rfl rfl ?_
                                  refine wa_skip (v := (.b true)) rfl rfl ?_
                                  refine wa_step (v := (.b true)) (a_pure (p_pickT rfl rfl)) ?_
                                  refine wa_nil ?_
                                  cases hr
                                  exact ja_in ⟨rfl, gl rfl, gl g0, gl g9, gl g10, gl g14⟩
                                · refine wa_take (v := v72) rfl (a_pure (p_mv g10)) ?_
                                  refine wa_take (v := (.i .i64 x14)) rfl (a_pure (p_mv g14)) ?_
                                  have hq := bindO_inv hr
                                  clear hr
                                  obtain ⟨v159, e159, hr⟩ := hq
                                  refine wa_take (v := v159) rfl (a_pure (o_ixS rfl rfl e159)) ?_
                                  have hq := bindO_inv hr
                                  clear hr
                                  obtain ⟨v160, e160, hr⟩ := hq
                                  refine wa_take (v := v160) rfl (a_ld rfl e160) ?_
                                  refine wa_take (v := v0) rfl (a_pure (p_mv g0)) ?_
                                  refine wa_take (v := (.i .i64 x124)) rfl (a_pure (p_mv g15)) ?_
                                  have hq := bindO_inv hr
                                  clear hr
                                  obtain ⟨v163, e163, hr⟩ := hq
                                  refine wa_take (v := v163) rfl (a_pure (o_ixS rfl rfl e163)) ?_
                                  have hq := bindO_inv hr
                                  clear hr
                                  obtain ⟨v164, e164, hr⟩ := hq
                                  refine wa_take (v := v164) rfl (a_ld rfl e164) ?_
                                  have hq := bindO_inv hr
                                  clear hr
                                  obtain ⟨v165, e165, hr⟩ := hq
                                  have hq := asB_inv hr
                                  clear hr
                                  obtain ⟨c165, rfl, hr⟩ := hq
                                  refine wa_take (v := (.b c165)) rfl (a_pure (o_seq rfl rfl e165)) ?_
                                  refine wa_step (v := (.b c165)) (a_pure (p_pickF rfl rfl)) ?_
                                  refine wa_nil ?_
                                  cases hr
                                  exact ja_in ⟨rfl, gl rfl, gl g0, gl g9, gl g10, gl g14⟩
                              · clear hr
                                have hr := hk
                                clear hk
                                obtain ⟨c166, ho⟩ : ∃ z, z = o_15 := ⟨_, rfl⟩
                                subst ho
                                refine ja_out ?_
                                rintro t_17 ⟨-, g166, g0, g9, g10, g14⟩
                                refine wa_nil ?_
                                refine ⟨m_13, rfl, ?_⟩
                                refine nx_norm ?_
                                have hq := cond_inv hr
                                clear hr
                                rcases hq with ⟨rfl, hr⟩ | ⟨rfl, hr⟩
                                · refine w_condT g166 ?_
                                  refine w_seq ?_
                                  refine w_ops ?_
                                  refine wo_step (v := (.b false)) (s_pure (p_mv rfl)) ?_
                                  refine wo_nil ?_
                                  refine nx_norm ?_
                                  refine w_ret ?_
                                  refine bk_ret ?_
                                  refine nx_ret ?_
                                  cases hr
                                  exact ⟨_, _, rfl, ne_norm_ret, rfl, rfl, gl rfl⟩
                                · refine w_condF g166 ?_
                                  refine w_skip ?_
                                  refine bk_norm ?_
                                  refine nx_norm ?_
                                  refine w_ops ?_
                                  refine wo_step (v := (.i .i64 x14)) (s_pure (p_mv g14)) ?_
                                  have hq := forceI_inv hr
                                  clear hr
                                  obtain ⟨x119, e119, hr⟩ := hq
                                  refine wo_step (v := (.i .i64 x119)) (s_pure (p_bin rfl rfl (b_add.trans (ci e119)))) ?_
                                  refine wo_step (v := (.i .i64 x119)) (s_pure (p_mv rfl)) ?_
                                  refine wo_nil ?_
                                  cases hr
                                  exact ⟨_, _, rfl, rfl, rfl, gl rfl, gl g0, gl g9, gl g10⟩
                    · refine w_condF rfl ?_
                      refine w_exit ?_
                      refine nx_exit ?_
                      cases hr
                      exact ⟨_, _, rfl, ne_norm_exit, rfl, rfl, gl g0, gl g9⟩
                  · rcases o_16 with o_16 | o_16
                    · obtain ⟨m_14, ho⟩ : ∃ z, z = o_16 := ⟨_, rfl⟩
                      subst ho
                      rintro _ mm_12 t_18 ⟨rfl, rfl, g0, g9⟩
                      refine bk_hit ?_
                      refine nx_norm ?_
                      refine w_seq ?_
                      refine w_ops ?_
                      refine wo_step (v := v0) (s_pure (p_mv g0)) ?_
                      refine wo_step (v := (.s s67)) (s_pure (p_mv g9)) ?_
                      have hq := bindO_inv hr
                      clear hr
                      obtain ⟨v170, e170, hr⟩ := hq
                      have hq := asI_inv hr
                      clear hr
                      obtain ⟨x170, rfl, hr⟩ := hq
                      refine wo_step (v := (.i .i64 x170)) (s_pure (o_len rfl e170)) ?_
                      have hq := bindP_inv hr
                      clear hr
                      obtain ⟨v171, m_15, e171, hr⟩ := hq
                      refine wo_step (v := v171) (s_call (mc rfl (mc rfl mn)) (callM_le hM.call e171)) ?_
                      refine wo_step (v := v171) (s_pure (p_mv rfl)) ?_
                      have hq := bindO_inv hr
                      clear hr
                      obtain ⟨v172, e172, hr⟩ := hq
                      have hq := asI_inv hr
                      clear hr
                      obtain ⟨x172, rfl, hr⟩ := hq
                      refine wo_step (v := (.i .i64 x172)) (s_pure (o_ext rfl e172)) ?_
                      have hq := bindO_inv hr
                      clear hr
                      obtain ⟨v173, e173, hr⟩ := hq
                      have hq := asI_inv hr
                      clear hr
                      obtain ⟨x173, rfl, hr⟩ := hq
                      refine wo_step (v := (.i .i64 x173)) (s_pure (o_ext rfl e173)) ?_
                      refine wo_step (v := (.i .i64 x172)) (s_pure (p_mv rfl)) ?_
                      refine wo_step (v := (.i .i64 x173)) (s_pure (p_mv rfl)) ?_
                      refine wo_nil ?_
                      refine nx_norm ?_
                      refine w_seq ?_
                      refine w_ops ?_
                      refine wo_step (v := (.i .i64 x173)) (s_pure (p_mv rfl)) ?_
                      have hq := forceB_inv hr
                      clear hr
                      obtain ⟨c175, e175, hr⟩ := hq
                      refine wo_step (v := (.b c175)) (s_pure (p_bin rfl rfl (b_eql.trans (cb e175)))) ?_
                      refine wo_step (v := (.b c175)) (s_pure (p_mv rfl)) ?_
                      have hq := bindO_inv hr
                      clear hr
                      obtain ⟨o_17, hr, hk⟩ := hq
                      refine wo_join 5 (g16_J17 m_15 o_17) ?_ ?_
                      · clear hk
                        have hq := cond_inv hr
                        clear hr
                        rcases hq with ⟨rfl, hr⟩ | ⟨rfl, hr⟩
                        · refine wo_take (v := (.i .i64 x172)) rfl (s_pure (p_mv rfl)) ?_
                          refine wo_take (v := v0) rfl (s_pure (p_mv g0)) ?_
                          have hq := bindO_inv hr
                          clear hr
                          obtain ⟨v179, e179, hr⟩ := hq
                          have hq := asI_inv hr
                          clear hr
                          obtain ⟨x179, rfl, hr⟩ := hq
                          refine wo_take (v := (.i .i64 x179)) rfl (s_pure (o_len rfl e179)) ?_
                          have hq := forceB_inv hr
                          clear hr
                          obtain ⟨c180, e180, hr⟩ := hq
                          refine wo_take (v := (.b c180)) rfl (s_pure (p_bin rfl rfl (b_eql.trans (cb e180)))) ?_
                          refine wo_step (v := (.b c180)) (s_pure (p_pickT rfl rfl)) ?_
                          refine wo_nil ?_
                          cases hr
                          exact ⟨_, _, rfl, rfl, gl rfl⟩
                        · refine wo_skip (v := (.b false)) rfl rfl ?_
                          refine wo_skip (v := (.b false)) rfl rfl ?_
                          refine wo_skip (v := (.b false)) rfl rfl ?_
                          refine wo_skip (v := (.b false)) rfl rfl ?_
                          refine wo_step (v := (.b false)) (s_pure (p_pickF rfl rfl)) ?_
                          refine wo_nil ?_
                          cases hr
                          exact ⟨_, _, rfl, rfl, gl rfl⟩
                      · clear hr
                        have hr := hk
                        clear hk
                        obtain ⟨c181, ho⟩ : ∃ z, z = o_17 := ⟨_, rfl⟩
                        subst ho
                        rintro mm_10 t_19 ⟨rfl, g181⟩
                        refine wo_step (v := (.b c181)) (s_pure (p_mv g181)) ?_
                        have hq := bindO_inv hr
                        clear hr
                        obtain ⟨o_18, hr, hk⟩ := hq
                        refine wo_join 2 (g16_J18  o_18) ?_ ?_
                        · clear hk
                          have hq := cond_inv hr
                          clear hr
                          rcases hq with ⟨rfl, hr⟩ | ⟨rfl, hr⟩
                          · have hq := bindP_inv hr
                            clear hr
                            obtain ⟨v183, m_17, e183, hr⟩ := hq
                            have hq := asB_inv hr
                            clear hr
                            obtain ⟨c183, rfl, hr⟩ := hq
                            refine wo_take (v := (.b c183)) rfl (s_call mn (callM_le hM.call e183)) ?_
                            refine wo_step (v := (.b c183)) (s_pure (p_pickT rfl rfl)) ?_
                            refine wo_nil ?_
                            cases hr
                            exact ⟨_, _, rfl, rfl, gl rfl⟩
                          · refine wo_skip (v := (.b false)) rfl rfl ?_
                            refine wo_step (v := (.b false)) (s_pure (p_pickF rfl rfl)) ?_
                            refine wo_nil ?_
                            cases hr
                            exact ⟨_, _, rfl, rfl, gl rfl⟩
                        · clear hr
                          have hr := hk
                          clear hk
                          obtain ⟨c184, m_16⟩ := o_18
                          rintro mm_11 t_20 ⟨rfl, g184⟩
                          refine wo_step (v := (.b c184)) (s_pure (p_mv g184)) ?_
                          refine wo_nil ?_
                          refine nx_norm ?_
                          refine w_ret ?_
                          exact qf ret_ok (rt rfl rn) hr
                    · obtain ⟨c4, m_18⟩ := o_16
                      rintro _ mm_13 t_21 ⟨rfl, rfl, g4⟩
                      refine bk_ret ?_
                      refine nx_ret ?_
                      exact qf ret_ok (rt g4 rn) hr
      · obtain ⟨c4_1, m_19⟩ := o
        rintro _ mm_16 t_22 ⟨rfl, rfl, g4⟩
        refine nx_ret ?_
        exact qf ret_ok (rt g4 rn) hr

/- dibber/note.Apply -/

def g19 (M : Means) (ro : List ABlk) (v0 : AVal) (v1 : AVal) (m0 : Mm) : Option (AVal × Heap × Nat × Nat) :=
  bindP (stepM ro m0 (.bx 24 4 (.c v1))) fun v3 m_1 =>
  bindP (callM M.call m_1 61 [v0]) fun v8 m_2 =>
  asI .i64 v8 fun x8 =>
  forceB (!eqI x8 0) fun c10 =>
  cond c10 (
    finM m0.h.length (tupA [AVal.nsl, (.i .i64 x8)]) m_2) (
    bindO (ldM ro m_2 false 4 v3) fun v12 =>
    bindO (evP .e (.len false (.c v0))) fun v14 =>
    asI .i64 v14 fun x14 =>
    bindP (callM M.call m_2 62 [v12, (.i .i64 x14)]) fun v15 m_3 =>
    asB v15 fun c15 =>
    forceB (!c15) fun c16 =>
    cond c16 (
      finM m0.h.length (tupA [AVal.nsl, (.i .i64 2)]) m_3) (
      bindO (ldM ro m_3 false 4 v3) fun v18 =>
      bindP (callM M.call m_3 63 [v0, v18]) fun v19 m_4 =>
      bindO (evP .e (.ext 0 (.c v19))) fun v20 =>
      bindO (evP .e (.ext 1 (.c v19))) fun v21 =>
      asI .i64 v21 fun x21 =>
      finM m0.h.length (tupA [v20, (.i .i64 x21)]) m_4))

theorem g19_ok {ro : List ABlk} {O : Caller} {M : Means} (hM : M.Ok ⟨F, O⟩ ro) {v0 v1 h r} (ho : O 19 [v0, v1] h = none) (hr : g19 M ro v0 v1 ⟨h, h.length, h.length⟩ = some r) : callX ⟨F, O⟩ ro 19 [v0, v1] h = some r := by
  refine callX_of (F := ⟨F, O⟩) (fn := fn19) (g := g19 M ro v0 v1) ho rfl rfl hr ?_
  clear ho
  clear hr
  intro m0 t0 ht hr
  have g0 : t0.get 0 = v0 := ht 0
  have g1 : t0.get 1 = v1 := ht 1
  clear ht
  unfold g19 at hr
  refine w_seq ?_
  refine w_ops ?_
  have hq := bindP_inv hr
  clear hr
  obtain ⟨v3, m_1, e3, hr⟩ := hq
  refine wo_step (v := v3) (s_bx g1 e3) ?_
  refine wo_step (v := AVal.nsl) (s_pure (p_mv rfl)) ?_
  refine wo_step (v := (.i .i64 0)) (s_pure (p_mv rfl)) ?_
  refine wo_nil ?_
  refine nx_norm ?_
  refine w_seq ?_
  refine w_seq ?_
  refine w_ops ?_
  refine wo_step (v := v0) (s_pure (p_mv g0)) ?_
  have hq := bindP_inv hr
  clear hr
  obtain ⟨v8, m_2, e8, hr⟩ := hq
  have hq := asI_inv hr
  clear hr
  obtain ⟨x8, rfl, hr⟩ := hq
  refine wo_step (v := (.i .i64 x8)) (s_call (mc rfl mn) (callM_le hM.call e8)) ?_
  refine wo_step (v := (.i .i64 x8)) (s_pure (p_mv rfl)) ?_
  refine wo_nil ?_
  refine nx_norm ?_
  refine w_seq ?_
  refine w_ops ?_
  refine wo_step (v := (.i .i64 x8)) (s_pure (p_mv rfl)) ?_
  have hq := forceB_inv hr
  clear hr
  obtain ⟨c10, e10, hr⟩ := hq
  refine wo_step (v := (.b c10)) (s_pure (p_bin rfl rfl (b_neq.trans (cb e10)))) ?_
  refine wo_nil ?_
  refine nx_norm ?_
  have hq := cond_inv hr
  clear hr
  rcases hq with ⟨rfl, hr⟩ | ⟨rfl, hr⟩
  · refine w_condT rfl ?_
    refine w_seq ?_
    refine w_ops ?_
    refine wo_step (v := (.i .i64 x8)) (s_pure (p_mv rfl)) ?_
    refine wo_step (v := AVal.nsl) (s_pure (p_mv rfl)) ?_
    refine wo_step (v := (.i .i64 x8)) (s_pure (p_mv rfl)) ?_
    refine wo_nil ?_
    refine nx_norm ?_
    refine w_ret ?_
    refine nx_ret ?_
    exact qf ret_ok (rt rfl (rt rfl rn)) hr
  · refine w_condF rfl ?_
    refine w_skip ?_
    refine nx_norm ?_
    refine w_seq ?_
    refine w_seq ?_
    refine w_ops ?_
    have hq := bindO_inv hr
    clear hr
    obtain ⟨v12, e12, hr⟩ := hq
    refine wo_step (v := v12) (s_ld rfl e12) ?_
    refine wo_step (v := v0) (s_pure (p_mv g0)) ?_
    have hq := bindO_inv hr
    clear hr
    obtain ⟨v14, e14, hr⟩ := hq
    have hq := asI_inv hr
    clear hr
    obtain ⟨x14, rfl, hr⟩ := hq
    refine wo_step (v := (.i .i64 x14)) (s_pure (o_len rfl e14)) ?_
    have hq := bindP_inv hr
    clear hr
    obtain ⟨v15, m_3, e15, hr⟩ := hq
    have hq := asB_inv hr
    clear hr
    obtain ⟨c15, rfl, hr⟩ := hq
    refine wo_step (v := (.b c15)) (s_call (mc rfl (mc rfl mn)) (callM_le hM.call e15)) ?_
    have hq := forceB_inv hr
    clear hr
    obtain ⟨c16, e16, hr⟩ := hq
    refine wo_step (v := (.b c16)) (s_pure ((p_not rfl).trans (cb e16))) ?_
    refine wo_nil ?_
    refine nx_norm ?_
    have hq := cond_inv hr
    clear hr
    rcases hq with ⟨rfl, hr⟩ | ⟨rfl, hr⟩
    · refine w_condT rfl ?_
      refine w_seq ?_
      refine w_ops ?_
      refine wo_step (v := AVal.nsl) (s_pure (p_mv rfl)) ?_
      refine wo_step (v := (.i .i64 2)) (s_pure (p_mv rfl)) ?_
      refine wo_nil ?_
      refine nx_norm ?_
      refine w_ret ?_
      refine nx_ret ?_
      exact qf ret_ok (rt rfl (rt rfl rn)) hr
    · refine w_condF rfl ?_
      refine w_skip ?_
      refine nx_norm ?_
      refine w_seq ?_
      refine w_ops ?_
      refine wo_step (v := v0) (s_pure (p_mv g0)) ?_
      have hq := bindO_inv hr
      clear hr
      obtain ⟨v18, e18, hr⟩ := hq
      refine wo_step (v := v18) (s_ld rfl e18) ?_
      have hq := bindP_inv hr
      clear hr
      obtain ⟨v19, m_4, e19, hr⟩ := hq
      refine wo_step (v := v19) (s_call (mc rfl (mc rfl mn)) (callM_le hM.call e19)) ?_
      have hq := bindO_inv hr
      clear hr
      obtain ⟨v20, e20, hr⟩ := hq
      refine wo_step (v := v20) (s_pure (o_ext rfl e20)) ?_
      have hq := bindO_inv hr
      clear hr
      obtain ⟨v21, e21, hr⟩ := hq
      have hq := asI_inv hr
      clear hr
      obtain ⟨x21, rfl, hr⟩ := hq
      refine wo_step (v := (.i .i64 x21)) (s_pure (o_ext rfl e21)) ?_
      refine wo_step (v := v20) (s_pure (p_mv rfl)) ?_
      refine wo_step (v := (.i .i64 x21)) (s_pure (p_mv rfl)) ?_
      refine wo_nil ?_
      refine nx_norm ?_
      refine w_ret ?_
      exact qf ret_ok (rt rfl (rt rfl rn)) hr

/- dibber/dibberlaw07.cells -/
abbrev g20_I0 (v0 : AVal) (v1 : AVal) (m0 : Mm) (s : Int) (m1 : Mm) (t1 : Tr) : Prop :=
  match s with
  | x5 => m0 = m1 ∧ t1.get 5 = (.i .i64 x5) ∧ t1.get 0 = v0 ∧ t1.get 1 = v1
abbrev g20_J0 (v0 : AVal) (v1 : AVal) (m0 : Mm) (o : (Unit ⊕ Bool)) (e : AExit) (m1 : Mm) (t1 : Tr) : Prop :=
  match o with
  | (.inl _) => e = (.exit 0) ∧ m0 = m1
  | (.inr y4) => e = .ret ∧ m0 = m1 ∧ t1.get 4 = (.b y4)
def g20_b0 (M : Means) (ro : List ABlk) (v0 : AVal) (v1 : AVal) (m0 : Mm) (x5 : Int) : Option ((Int) ⊕ ((Unit ⊕ Bool))) :=
  bindO (evP .e (.len false (.c v0))) fun v13 =>
  asI .i64 v13 fun x13 =>
  forceB (ltI x5 x13) fun c14 =>
  cond c14 (
    bindO (evP .e (.ixS 2 (.c v0) (.c (.i .i64 x5)))) fun v19 =>
    bindO (ldA ro m0.h false 2 v19) fun v20 =>
    bindO (evP .e (.ixS 2 (.c v1) (.c (.i .i64 x5)))) fun v23 =>
    bindO (ldA ro m0.h false 2 v23) fun v24 =>
    bindO (evP .e (.seq true [(0, false), (1, true)] (.c v20) (.c v24))) fun v25 =>
    asB v25 fun c25 =>
    cond c25 (
      some (.inr (.inr false))) (
      forceI (wr .i64 (x5 + 1)) fun x16 =>
      some (.inl x16))) (
    some (.inr (.inl ())))
def g20 (M : Means) (ro : List ABlk) (v0 : AVal) (v1 : AVal) (m0 : Mm) : Option (AVal × Heap × Nat × Nat) :=
  bindO (evP .e (.len false (.c v0))) fun v7 =>
  asI .i64 v7 fun x7 =>
  bindO (evP .e (.len false (.c v1))) fun v9 =>
  asI .i64 v9 fun x9 =>
  forceB (!eqI x7 x9) fun c10 =>
  cond c10 (
    finM m0.h.length (tupA [(.b false)]) m0) (
    bindO (M.loop (S := Int) (R := (Unit ⊕ Bool)) (fun s => g20_b0 M ro v0 v1 m0 s) 0) fun o => match o with
    | (.inl _) =>
      finM m0.h.length (tupA [(.b true)]) m0
    | (.inr c4) =>
      finM m0.h.length (tupA [(.b c4)]) m0)

theorem g20_ok {ro : List ABlk} {O : Caller} {M : Means} (hM : M.Ok ⟨F, O⟩ ro) {v0 v1 h r} (ho : O 20 [v0, v1] h = none) (hr : g20 M ro v0 v1 ⟨h, h.length, h.length⟩ = some r) : callX ⟨F, O⟩ ro 20 [v0, v1] h = some r := by
  refine callX_of (F := ⟨F, O⟩) (fn := fn20) (g := g20 M ro v0 v1) ho rfl rfl hr ?_
  clear ho
  clear hr
  intro m0 t0 ht hr
  have g0 : t0.get 0 = v0 := ht 0
  have g1 : t0.get 1 = v1 := ht 1
  clear ht
  unfold g20 at hr
  refine w_seq ?_
  refine w_ops ?_
  refine wo_step (v := (.b false)) (s_pure (p_mv rfl)) ?_
  refine wo_nil ?_
  refine nx_norm ?_
  refine w_seq ?_
  refine w_seq ?_
  refine w_ops ?_
  refine wo_step (v := v0) (s_pure (p_mv g0)) ?_
  have hq := bindO_inv hr
  clear hr
  obtain ⟨v7, e7, hr⟩ := hq
  have hq := asI_inv hr
  clear hr
  obtain ⟨x7, rfl, hr⟩ := hq
  refine wo_step (v := (.i .i64 x7)) (s_pure (o_len rfl e7)) ?_
  refine wo_step (v := v1) (s_pure (p_mv g1)) ?_
  have hq := bindO_inv hr
  clear hr
  obtain ⟨v9, e9, hr⟩ := hq
  have hq := asI_inv hr
  clear hr
  obtain ⟨x9, rfl, hr⟩ := hq
  refine wo_step (v := (.i .i64 x9)) (s_pure (o_len rfl e9)) ?_
  have hq := forceB_inv hr
  clear hr
  obtain ⟨c10, e10, hr⟩ := hq
  refine wo_step (v := (.b c10)) (s_pure (p_bin rfl rfl (b_neq.trans (cb e10)))) ?_
  refine wo_nil ?_
  refine nx_norm ?_
  have hq := cond_inv hr
  clear hr
  rcases hq with ⟨rfl, hr⟩ | ⟨rfl, hr⟩
  · refine w_condT rfl ?_
    refine w_seq ?_
    refine w_ops ?_
    refine wo_step (v := (.b false)) (s_pure (p_mv rfl)) ?_
    refine wo_nil ?_
    refine nx_norm ?_
    refine w_ret ?_
    refine nx_ret ?_
    exact qf ret_ok (rt rfl rn) hr
  · refine w_condF rfl ?_
    refine w_skip ?_
    refine nx_norm ?_
    refine w_seq ?_
    refine w_seq ?_
    refine w_ops ?_
    refine wo_step (v := (.i .i64 0)) (s_pure (p_mv rfl)) ?_
    refine wo_nil ?_
    refine nx_norm ?_
    refine w_block ?_
    have hq := bindO_inv hr
    clear hr
    obtain ⟨o, hl, hr⟩ := hq
    obtain ⟨n, hl⟩ := hM.loop _ _ _ hl
    refine jp_mono (w_loop _ (g20_I0 v0 v1 m0) (g20_J0 v0 v1 m0) ?_ n _ _ _ _ hl ⟨rfl, gl rfl, gl g0, gl g1⟩) ?_
    · clear hr hl
      intro s mm_2 t_1 o hi hr
      obtain ⟨x5, hs⟩ : ∃ z, z = s := ⟨_, rfl⟩
      subst hs
      obtain ⟨rfl, g5, g0, g1⟩ := hi
      unfold g20_b0 at hr
      refine w_seq ?_
      refine w_seq ?_
      refine w_ops ?_
      refine wo_step (v := (.i .i64 x5)) (s_pure (p_mv g5)) ?_
      refine wo_step (v := v0) (s_pure (p_mv g0)) ?_
      have hq := bindO_inv hr
      clear hr
      obtain ⟨v13, e13, hr⟩ := hq
      have hq := asI_inv hr
      clear hr
      obtain ⟨x13, rfl, hr⟩ := hq
      refine wo_step (v := (.i .i64 x13)) (s_pure (o_len rfl e13)) ?_
      have hq := forceB_inv hr
      clear hr
      obtain ⟨c14, e14, hr⟩ := hq
      refine wo_step (v := (.b c14)) (s_pure (p_bin rfl rfl (b_lss.trans (cb e14)))) ?_
      refine wo_nil ?_
      refine nx_norm ?_
      have hq := cond_inv hr
      clear hr
      rcases hq with ⟨rfl, hr⟩ | ⟨rfl, hr⟩
      · refine w_condT rfl ?_
        refine w_skip ?_
        refine nx_norm ?_
        refine w_seq ?_
        refine w_block ?_
        refine w_seq ?_
        refine w_any ?_
        refine wa_step (v := v0) (a_pure (p_mv g0)) ?_
        refine wa_step (v := (.i .i64 x5)) (a_pure (p_mv g5)) ?_
        have hq := bindO_inv hr
        clear hr
        obtain ⟨v19, e19, hr⟩ := hq
        refine wa_step (v := v19) (a_pure (o_ixS rfl rfl e19)) ?_
        have hq := bindO_inv hr
        clear hr
        obtain ⟨v20, e20, hr⟩ := hq
        refine wa_step (v := v20) (a_ld rfl e20) ?_
        refine wa_step (v := v1) (a_pure (p_mv g1)) ?_
        refine wa_step (v := (.i .i64 x5)) (a_pure (p_mv g5)) ?_
        have hq := bindO_inv hr
        clear hr
        obtain ⟨v23, e23, hr⟩ := hq
        refine wa_step (v := v23) (a_pure (o_ixS rfl rfl e23)) ?_
        have hq := bindO_inv hr
        clear hr
        obtain ⟨v24, e24, hr⟩ := hq
        refine wa_step (v := v24) (a_ld rfl e24) ?_
        have hq := bindO_inv hr
        clear hr
        obtain ⟨v25, e25, hr⟩ := hq
        have hq := asB_inv hr
        clear hr
        obtain ⟨c25, rfl, hr⟩ := hq
        refine wa_step (v := (.b c25)) (a_pure (o_seq rfl rfl e25)) ?_
        refine wa_nil ?_
        refine ⟨m0, rfl, ?_⟩
        refine nx_norm ?_
        have hq := cond_inv hr
        clear hr
        rcases hq with ⟨rfl, hr⟩ | ⟨rfl, hr⟩
        · refine w_condT rfl ?_
          refine w_seq ?_
          refine w_ops ?_
          refine wo_step (v := (.b false)) (s_pure (p_mv rfl)) ?_
          refine wo_nil ?_
          refine nx_norm ?_
          refine w_ret ?_
          refine bk_ret ?_
          refine nx_ret ?_
          cases hr
          exact ⟨_, _, rfl, ne_norm_ret, rfl, rfl, gl rfl⟩
        · refine w_condF rfl ?_
          refine w_skip ?_
          refine bk_norm ?_
          refine nx_norm ?_
          refine w_ops ?_
          refine wo_step (v := (.i .i64 x5)) (s_pure (p_mv g5)) ?_
          have hq := forceI_inv hr
          clear hr
          obtain ⟨x16, e16, hr⟩ := hq
          refine wo_step (v := (.i .i64 x16)) (s_pure (p_bin rfl rfl (b_add.trans (ci e16)))) ?_
          refine wo_step (v := (.i .i64 x16)) (s_pure (p_mv rfl)) ?_
          refine wo_nil ?_
          cases hr
          exact ⟨_, _, rfl, rfl, rfl, gl rfl, gl g0, gl g1⟩
      · refine w_condF rfl ?_
        refine w_exit ?_
        refine nx_exit ?_
        cases hr
        exact ⟨_, _, rfl, ne_norm_exit, rfl, rfl⟩
    · rcases o with o | o
      · rintro _ mm t_2 ⟨rfl, rfl⟩
        refine bk_hit ?_
        refine nx_norm ?_
        refine w_seq ?_
        refine w_ops ?_
        refine wo_step (v := (.b true)) (s_pure (p_mv rfl)) ?_
        refine wo_nil ?_
        refine nx_norm ?_
        refine w_ret ?_
        exact qf ret_ok (rt rfl rn) hr
      · obtain ⟨c4, ho⟩ : ∃ z, z = o := ⟨_, rfl⟩
        subst ho
        rintro _ mm_1 t_3 ⟨rfl, rfl, g4⟩
        refine bk_ret ?_
        refine nx_ret ?_
        exact qf ret_ok (rt g4 rn) hr

/- dibber/note.Read -/
abbrev g21_I0 (v0 : AVal) (x14 : Int) (s : AVal × Int × Mm) (m1 : Mm) (t1 : Tr) : Prop :=
  match s with
  | (v5, x15, m_2) => m_2 = m1 ∧ t1.get 5 = v5 ∧ t1.get 15 = (.i .i64 x15) ∧ t1.get 13 = v0 ∧ t1.get 14 = (.i .i64 x14)
abbrev g21_J0 (v0 : AVal) (x14 : Int) (o : (AVal × Mm)) (e : AExit) (m1 : Mm) (t1 : Tr) : Prop :=
  match o with
  | (y5, mo) => e = (.exit 0) ∧ mo = m1 ∧ t1.get 5 = y5
abbrev g21_J1 (v0 : AVal) (x14 : Int) (x15 : Int) (o : (AVal × Mm)) (e : AExit) (m1 : Mm) (t1 : Tr) : Prop :=
  match o with
  | (y5, mo) => e = .norm ∧ mo = m1 ∧ t1.get 5 = y5 ∧ t1.get 13 = v0 ∧ t1.get 14 = (.i .i64 x14) ∧ t1.get 15 = (.i .i64 x15)
def g21_b0 (M : Means) (ro : List ABlk) (v0 : AVal) (x14 : Int) (v5 : AVal) (x15 : Int) (m_2 : Mm) : Option ((AVal × Int × Mm) ⊕ ((AVal × Mm))) :=
  forceB (ltI x15 x14) fun c16 =>
  cond c16 (
    bindO (evP .e (.ixS 2 (.c v0) (.c (.i .i64 x15)))) fun v17 =>
    bindO (ldM ro m_2 false 2 v17) fun v18 =>
    bindP (stepM ro m_2 (.al 31 [(AVal.i IntKind.u8 0), (AVal.b false)])) fun v7 m_3 =>
    bindP (stepM ro m_3 (.st 2 (.c v7) (.c v18))) fun vn m_4 =>
    bindO (evP .e (.faddr 1 (.c v7))) fun v19 =>
    bindO (ldM ro m_4 true 1 v19) fun v20 =>
    asB v20 fun c20 =>
    forceB (!c20) fun c21 =>
    bindO (α := (AVal × Mm)) (
      cond c21 (
        bindO (evP .e (.faddr 0 (.c v7))) fun v23 =>
        bindO (ldM ro m_4 true 1 v23) fun v24 =>
        asI .u8 v24 fun x24 =>
        bindP (stepM ro m_4 (.bsl 5 1 [(AVal.i IntKind.u8 0)] 1 [((0, 1), .c (.i .u8 x24))])) fun v25 m_5 =>
        bindP (stepM ro m_5 (.app 5 1 1 [(AVal.i IntKind.u8 0)] (.c v5) (.c v25))) fun v26 m_6 =>
        some (v26, m_6)) (
        some (v5, m_4))) fun ⟨v5_1, m_7⟩ =>
    forceI (wr .i64 (x15 + 1)) fun x27 =>
    some (.inl (v5_1, x27, m_7))) (
    some (.inr (v5, m_2)))
def g21 (M : Means) (ro : List ABlk) (v0 : AVal) (m0 : Mm) : Option (AVal × Heap × Nat × Nat) :=
  bindP (callM M.call m0 61 [v0]) fun v9 m_1 =>
  asI .i64 v9 fun x9 =>
  forceB (!eqI x9 0) fun c11 =>
  cond c11 (
    finM m0.h.length (tupA [(AVal.s []), (.i .i64 x9)]) m_1) (
    bindO (evP .e (.len false (.c v0))) fun v14 =>
    asI .i64 v14 fun x14 =>
    bindO (M.loop (S := AVal × Int × Mm) (R := (AVal × Mm)) (fun s => g21_b0 M ro v0 x14 s.1 s.2.1 s.2.2) (AVal.nsl, 0, m_1)) fun ⟨v5_2, m_8⟩ =>
    bindO (btsM ro m_8 v5_2) fun v29 =>
    asS v29 fun s29 =>
    finM m0.h.length (tupA [(.s s29), (.i .i64 0)]) m_8)

theorem g21_ok {ro : List ABlk} {O : Caller} {M : Means} (hM : M.Ok ⟨F, O⟩ ro) {v0 h r} (ho : O 21 [v0] h = none) (hr : g21 M ro v0 ⟨h, h.length, h.length⟩ = some r) : callX ⟨F, O⟩ ro 21 [v0] h = some r := by
  refine callX_of (F := ⟨F, O⟩) (fn := fn21) (g := g21 M ro v0) ho rfl rfl hr ?_
  clear ho
  clear hr
  intro m0 t0 ht hr
  have g0 : t0.get 0 = v0 := ht 0
  clear ht
  unfold g21 at hr
  refine w_seq ?_
  refine w_ops ?_
  refine wo_step (v := (AVal.s [])) (s_pure (p_mv rfl)) ?_
  refine wo_step (v := (.i .i64 0)) (s_pure (p_mv rfl)) ?_
  refine wo_nil ?_
  refine nx_norm ?_
  refine w_seq ?_
  refine w_seq ?_
  refine w_ops ?_
  refine wo_step (v := v0) (s_pure (p_mv g0)) ?_
  have hq := bindP_inv hr
  clear hr
  obtain ⟨v9, m_1, e9, hr⟩ := hq
  have hq := asI_inv hr
  clear hr
  obtain ⟨x9, rfl, hr⟩ := hq
  refine wo_step (v := (.i .i64 x9)) (s_call (mc rfl mn) (callM_le hM.call e9)) ?_
  refine wo_step (v := (.i .i64 x9)) (s_pure (p_mv rfl)) ?_
  refine wo_nil ?_
  refine nx_norm ?_
  refine w_seq ?_
  refine w_ops ?_
  refine wo_step (v := (.i .i64 x9)) (s_pure (p_mv rfl)) ?_
  have hq := forceB_inv hr
  clear hr
  obtain ⟨c11, e11, hr⟩ := hq
  refine wo_step (v := (.b c11)) (s_pure (p_bin rfl rfl (b_neq.trans (cb e11)))) ?_
  refine wo_nil ?_
  refine nx_norm ?_
  have hq := cond_inv hr
  clear hr
  rcases hq with ⟨rfl, hr⟩ | ⟨rfl, hr⟩
  · refine w_condT rfl ?_
    refine w_seq ?_
    refine w_ops ?_
    refine wo_step (v := (.i .i64 x9)) (s_pure (p_mv rfl)) ?_
    refine wo_step (v := (AVal.s [])) (s_pure (p_mv rfl)) ?_
    refine wo_step (v := (.i .i64 x9)) (s_pure (p_mv rfl)) ?_
    refine wo_nil ?_
    refine nx_norm ?_
    refine w_ret ?_
    refine nx_ret ?_
    exact qf ret_ok (rt rfl (rt rfl rn)) hr
  · refine w_condF rfl ?_
    refine w_skip ?_
    refine nx_norm ?_
    refine w_seq ?_
    refine w_ops ?_
    refine wo_step (v := AVal.nsl) (s_pure (p_mv rfl)) ?_
    refine wo_nil ?_
    refine nx_norm ?_
    refine w_seq ?_
    refine w_seq ?_
    refine w_ops ?_
    refine wo_step (v := v0) (s_pure (p_mv g0)) ?_
    have hq := bindO_inv hr
    clear hr
    obtain ⟨v14, e14, hr⟩ := hq
    have hq := asI_inv hr
    clear hr
    obtain ⟨x14, rfl, hr⟩ := hq
    refine wo_step (v := (.i .i64 x14)) (s_pure (o_len rfl e14)) ?_
    refine wo_step (v := (.i .i64 0)) (s_pure (p_mv rfl)) ?_
    refine wo_nil ?_
    refine nx_norm ?_
    refine w_block ?_
    have hq := bindO_inv hr
    clear hr
    obtain ⟨o_1, hl, hr⟩ := hq
    obtain ⟨n, hl⟩ := hM.loop _ _ _ hl
    refine jp_mono (w_loop _ (g21_I0 v0 x14) (g21_J0 v0 x14) ?_ n _ _ _ _ hl ⟨rfl, gl rfl, gl rfl, gl rfl, gl rfl⟩) ?_
    · clear hr hl
      intro s mm_2 t_1 o hi hr
      obtain ⟨v5, x15, m_2⟩ := s
      obtain ⟨rfl, g5, g15, g13, g14⟩ := hi
      unfold g21_b0 at hr
      refine w_seq ?_
      refine w_ops ?_
      have hq := forceB_inv hr
      clear hr
      obtain ⟨c16, e16, hr⟩ := hq
      refine wo_step (v := (.b c16)) (s_pure (p_bin g15 g14 (b_lss.trans (cb e16)))) ?_
      refine wo_nil ?_
      refine nx_norm ?_
      refine w_seq ?_
      have hq := cond_inv hr
      clear hr
      rcases hq with ⟨rfl, hr⟩ | ⟨rfl, hr⟩
      · refine w_condT rfl ?_
        refine w_skip ?_
        refine nx_norm ?_
        refine w_seq ?_
        refine w_block ?_
        refine w_seq ?_
        refine w_ops ?_
        have hq := bindO_inv hr
        clear hr
        obtain ⟨v17, e17, hr⟩ := hq
        refine wo_step (v := v17) (s_pure (o_ixS g13 g15 e17)) ?_
        have hq := bindO_inv hr
        clear hr
        obtain ⟨v18, e18, hr⟩ := hq
        refine wo_step (v := v18) (s_ld rfl e18) ?_
        have hq := bindP_inv hr
        clear hr
        obtain ⟨v7, m_3, e7, hr⟩ := hq
        refine wo_step (v := v7) (s_al e7) ?_
        have hq := bindP_inv hr
        clear hr
        obtain ⟨vn, m_4, en, hr⟩ := hq
        refine wo_stepN (s_st rfl rfl en) ?_
        refine wo_nil ?_
        refine nx_norm ?_
        refine w_seq ?_
        refine w_ops ?_
        have hq := bindO_inv hr
        clear hr
        obtain ⟨v19, e19, hr⟩ := hq
        refine wo_step (v := v19) (s_pure (o_faddr rfl e19)) ?_
        have hq := bindO_inv hr
        clear hr
        obtain ⟨v20, e20, hr⟩ := hq
        have hq := asB_inv hr
        clear hr
        obtain ⟨c20, rfl, hr⟩ := hq
        refine wo_step (v := (.b c20)) (s_ld rfl e20) ?_
        have hq := forceB_inv hr
        clear hr
        obtain ⟨c21, e21, hr⟩ := hq
        refine wo_step (v := (.b c21)) (s_pure ((p_not rfl).trans (cb e21))) ?_
        refine wo_nil ?_
        refine nx_norm ?_
        have hq := bindO_inv hr
        clear hr
        obtain ⟨o, hr, hk⟩ := hq
        refine jp_mono (J := g21_J1 v0 x14 x15 o) ?_ ?_
        · clear hk
          have hq := cond_inv hr
          clear hr
          rcases hq with ⟨rfl, hr⟩ | ⟨rfl, hr⟩
          · refine w_condT rfl ?_
            refine w_ops ?_
            refine wo_step (v := v5) (s_pure (p_mv g5)) ?_
            have hq := bindO_inv hr
            clear hr
            obtain ⟨v23, e23, hr⟩ := hq
            refine wo_step (v := v23) (s_pure (o_faddr rfl e23)) ?_
            have hq := bindO_inv hr
            clear hr
            obtain ⟨v24, e24, hr⟩ := hq
            have hq := asI_inv hr
            clear hr
            obtain ⟨x24, rfl, hr⟩ := hq
            refine wo_step (v := (.i .u8 x24)) (s_ld rfl e24) ?_
            have hq := bindP_inv hr
            clear hr
            obtain ⟨v25, m_5, e25, hr⟩ := hq
            refine wo_step (v := v25) (s_bsl (qc rfl qn) e25) ?_
            have hq := bindP_inv hr
            clear hr
            obtain ⟨v26, m_6, e26, hr⟩ := hq
            refine wo_step (v := v26) (s_app rfl rfl e26) ?_
            refine wo_step (v := v26) (s_pure (p_mv rfl)) ?_
            refine wo_nil ?_
            cases hr
            exact ⟨_, _, rfl, rfl, rfl, gl rfl, gl g13, gl g14, gl g15⟩
          · refine w_condF rfl ?_
            refine w_skip ?_
            cases hr
            exact ⟨_, _, rfl, rfl, rfl, gl g5, gl g13, gl g14, gl g15⟩
        · clear hr
          have hr := hk
          clear hk
          obtain ⟨v5_1, m_7⟩ := o
          rintro _ mm t_2 ⟨rfl, rfl, g5, g13, g14, g15⟩
          refine bk_norm ?_
          refine nx_norm ?_
          refine w_ops ?_
          have hq := forceI_inv hr
          clear hr
          obtain ⟨x27, e27, hr⟩ := hq
          refine wo_step (v := (.i .i64 x27)) (s_pure (p_bin g15 rfl (b_add.trans (ci e27)))) ?_
          refine wo_step (v := (.i .i64 x27)) (s_pure (p_mv rfl)) ?_
          refine wo_nil ?_
          cases hr
          exact ⟨_, _, rfl, rfl, rfl, gl g5, gl rfl, gl g13, gl g14⟩
      · refine w_condF rfl ?_
        refine w_exit ?_
        refine nx_exit ?_
        cases hr
        exact ⟨_, _, rfl, ne_norm_exit, rfl, rfl, gl g5⟩
    · obtain ⟨v5_2, m_8⟩ := o_1
      rintro _ mm_1 t_3 ⟨rfl, rfl, g5⟩
      refine bk_hit ?_
      refine nx_norm ?_
      refine w_seq ?_
      refine w_ops ?_
      refine wo_step (v := v5_2) (s_pure (p_mv g5)) ?_
      have hq := bindO_inv hr
      clear hr
      obtain ⟨v29, e29, hr⟩ := hq
      have hq := asS_inv hr
      clear hr
      obtain ⟨s29, rfl, hr⟩ := hq
      refine wo_step (v := (.s s29)) (s_bts rfl e29) ?_
      refine wo_step (v := (.s s29)) (s_pure (p_mv rfl)) ?_
      refine wo_step (v := (.i .i64 0)) (s_pure (p_mv rfl)) ?_
      refine wo_nil ?_
      refine nx_norm ?_
      refine w_ret ?_
      exact qf ret_ok (rt rfl (rt rfl rn)) hr

/- dibber/note.Clean -/
abbrev g23_I0 (v15 : AVal) (v0 : AVal) (x17 : Int) (s : Int × Int × Mm) (m1 : Mm) (t1 : Tr) : Prop :=
  match s with
  | (x6, x18, m_3) => m_3 = m1 ∧ t1.get 6 = (.i .i64 x6) ∧ t1.get 18 = (.i .i64 x18) ∧ t1.get 5 = v15 ∧ t1.get 16 = v0 ∧ t1.get 17 = (.i .i64 x17)
abbrev g23_J0 (v15 : AVal) (v0 : AVal) (x17 : Int) (o : (Int × Mm)) (e : AExit) (m1 : Mm) (t1 : Tr) : Prop :=
  match o with
  | (y6, mo) => e = (.exit 0) ∧ mo = m1 ∧ t1.get 6 = (.i .i64 y6) ∧ t1.get 5 = v15
abbrev g23_J1 (v15 : AVal) (v0 : AVal) (x17 : Int) (x18 : Int) (o : (Int × Mm)) (e : AExit) (m1 : Mm) (t1 : Tr) : Prop :=
  match o with
  | (y6, mo) => e = .norm ∧ mo = m1 ∧ t1.get 6 = (.i .i64 y6) ∧ t1.get 5 = v15 ∧ t1.get 16 = v0 ∧ t1.get 17 = (.i .i64 x17) ∧ t1.get 18 = (.i .i64 x18)
def g23_b0 (M : Means) (ro : List ABlk) (v15 : AVal) (v0 : AVal) (x17 : Int) (x6 : Int) (x18 : Int) (m_3 : Mm) : Option ((Int × Int × Mm) ⊕ ((Int × Mm))) :=
  forceB (ltI x18 x17) fun c19 =>
  cond c19 (
    bindO (evP .e (.ixS 2 (.c v0) (.c (.i .i64 x18)))) fun v20 =>
    bindO (ldM ro m_3 false 2 v20) fun v21 =>
    bindP (stepM ro m_3 (.al 31 [(AVal.i IntKind.u8 0), (AVal.b false)])) fun v8 m_4 =>
    bindP (stepM ro m_4 (.st 2 (.c v8) (.c v21))) fun vn m_5 =>
    bindO (evP .e (.faddr 1 (.c v8))) fun v22 =>
    bindO (ldM ro m_5 true 1 v22) fun v23 =>
    asB v23 fun c23 =>
    forceB (!c23) fun c24 =>
    bindO (α := (Int × Mm)) (
      cond c24 (
        bindO (ldM ro m_5 false 2 v8) fun v27 =>
        bindO (evP .e (.ixS 2 (.c v15) (.c (.i .i64 x6)))) fun v28 =>
        bindP (stepM ro m_5 (.st 2 (.c v28) (.c v27))) fun vn_1 m_6 =>
        forceI (wr .i64 (x6 + 1)) fun x30 =>
        some (x30, m_6)) (
        some (x6, m_5))) fun ⟨x6_1, m_7⟩ =>
    forceI (wr .i64 (x18 + 1)) fun x31 =>
    some (.inl (x6_1, x31, m_7))) (
    some (.inr (x6, m_3)))
def g23 (M : Means) (ro : List ABlk) (v0 : AVal) (m0 : Mm) : Option (AVal × Heap × Nat × Nat) :=
  bindP (callM M.call m0 61 [v0]) fun v10 m_1 =>
  asI .i64 v10 fun x10 =>
  forceB (!eqI x10 0) fun c12 =>
  cond c12 (
    finM m0.h.length (tupA [AVal.nsl, (.i .i64 x10)]) m_1) (
    bindP (callM M.call m_1 64 [v0]) fun v15 m_2 =>
    bindO (evP .e (.len false (.c v0))) fun v17 =>
    asI .i64 v17 fun x17 =>
    bindO (M.loop (S := Int × Int × Mm) (R := (Int × Mm)) (fun s => g23_b0 M ro v15 v0 x17 s.1 s.2.1 s.2.2) (0, 0, m_2)) fun ⟨x6_2, m_8⟩ =>
    bindO (evP .e (.slS 2 (.c v15) none (some (.c (.i .i64 x6_2))) (some (.c (.i .i64 x6_2))))) fun v35 =>
    finM m0.h.length (tupA [v35, (.i .i64 0)]) m_8)

theorem g23_ok {ro : List ABlk} {O : Caller} {M : Means} (hM : M.Ok ⟨F, O⟩ ro) {v0 h r} (ho : O 23 [v0] h = none) (hr : g23 M ro v0 ⟨h, h.length, h.length⟩ = some r) : callX ⟨F, O⟩ ro 23 [v0] h = some r := by
  refine callX_of (F := ⟨F, O⟩) (fn := fn23) (g := g23 M ro v0) ho rfl rfl hr ?_
  clear ho
  clear hr
  intro m0 t0 ht hr
  have g0 : t0.get 0 = v0 := ht 0
  clear ht
  unfold g23 at hr
  refine w_seq ?_
  refine w_ops ?_
  refine wo_step (v := AVal.nsl) (s_pure (p_mv rfl)) ?_
  refine wo_step (v := (.i .i64 0)) (s_pure (p_mv rfl)) ?_
  refine wo_nil ?_
  refine nx_norm ?_
  refine w_seq ?_
  refine w_seq ?_
  refine w_ops ?_
  refine wo_step (v := v0) (s_pure (p_mv g0)) ?_
  have hq := bindP_inv hr
  clear hr
  obtain ⟨v10, m_1, e10, hr⟩ := hq
  have hq := asI_inv hr
  clear hr
  obtain ⟨x10, rfl, hr⟩ := hq
  refine wo_step (v := (.i .i64 x10)) (s_call (mc rfl mn) (callM_le hM.call e10)) ?_
  refine wo_step (v := (.i .i64 x10)) (s_pure (p_mv rfl)) ?_
  refine wo_nil ?_
  refine nx_norm ?_
  refine w_seq ?_
  refine w_ops ?_
  refine wo_step (v := (.i .i64 x10)) (s_pure (p_mv rfl)) ?_
  have hq := forceB_inv hr
  clear hr
  obtain ⟨c12, e12, hr⟩ := hq
  refine wo_step (v := (.b c12)) (s_pure (p_bin rfl rfl (b_neq.trans (cb e12)))) ?_
  refine wo_nil ?_
  refine nx_norm ?_
  have hq := cond_inv hr
  clear hr
  rcases hq with ⟨rfl, hr⟩ | ⟨rfl, hr⟩
  · refine w_condT rfl ?_
    refine w_seq ?_
    refine w_ops ?_
    refine wo_step (v := (.i .i64 x10)) (s_pure (p_mv rfl)) ?_
    refine wo_step (v := AVal.nsl) (s_pure (p_mv rfl)) ?_
    refine wo_step (v := (.i .i64 x10)) (s_pure (p_mv rfl)) ?_
    refine wo_nil ?_
    refine nx_norm ?_
    refine w_ret ?_
    refine nx_ret ?_
    exact qf ret_ok (rt rfl (rt rfl rn)) hr
  · refine w_condF rfl ?_
    refine w_skip ?_
    refine nx_norm ?_
    refine w_seq ?_
    refine w_ops ?_
    refine wo_step (v := v0) (s_pure (p_mv g0)) ?_
    have hq := bindP_inv hr
    clear hr
    obtain ⟨v15, m_2, e15, hr⟩ := hq
    refine wo_step (v := v15) (s_call (mc rfl mn) (callM_le hM.call e15)) ?_
    refine wo_step (v := v15) (s_pure (p_mv rfl)) ?_
    refine wo_step (v := (.i .i64 0)) (s_pure (p_mv rfl)) ?_
    refine wo_nil ?_
    refine nx_norm ?_
    refine w_seq ?_
    refine w_seq ?_
    refine w_ops ?_
    refine wo_step (v := v0) (s_pure (p_mv g0)) ?_
    have hq := bindO_inv hr
    clear hr
    obtain ⟨v17, e17, hr⟩ := hq
    have hq := asI_inv hr
    clear hr
    obtain ⟨x17, rfl, hr⟩ := hq
    refine wo_step (v := (.i .i64 x17)) (s_pure (o_len rfl e17)) ?_
    refine wo_step (v := (.i .i64 0)) (s_pure (p_mv rfl)) ?_
    refine wo_nil ?_
    refine nx_norm ?_
    refine w_block ?_
    have hq := bindO_inv hr
    clear hr
    obtain ⟨o_1, hl, hr⟩ := hq
    obtain ⟨n, hl⟩ := hM.loop _ _ _ hl
    refine jp_mono (w_loop _ (g23_I0 v15 v0 x17) (g23_J0 v15 v0 x17) ?_ n _ _ _ _ hl ⟨rfl, gl rfl, gl rfl, gl rfl, gl rfl, gl rfl⟩) ?_
    · clear hr hl
      intro s mm_2 t_1 o hi hr
      obtain ⟨x6, x18, m_3⟩ := s
      obtain ⟨rfl, g6, g18, g5, g16, g17⟩ := hi
      unfold g23_b0 at hr
      refine w_seq ?_
      refine w_ops ?_
      have hq := forceB_inv hr
      clear hr
      obtain ⟨c19, e19, hr⟩ := hq
      refine wo_step (v := (.b c19)) (s_pure (p_bin g18 g17 (b_lss.trans (cb e19)))) ?_
      refine wo_nil ?_
      refine nx_norm ?_
      refine w_seq ?_
      have hq := cond_inv hr
      clear hr
      rcases hq with ⟨rfl, hr⟩ | ⟨rfl, hr⟩
      · refine w_condT rfl ?_
        refine w_skip ?_
        refine nx_norm ?_
        refine w_seq ?_
        refine w_block ?_
        refine w_seq ?_
        refine w_ops ?_
        have hq := bindO_inv hr
        clear hr
        obtain ⟨v20, e20, hr⟩ := hq
        refine wo_step (v := v20) (s_pure (o_ixS g16 g18 e20)) ?_
        have hq := bindO_inv hr
        clear hr
        obtain ⟨v21, e21, hr⟩ := hq
        refine wo_step (v := v21) (s_ld rfl e21) ?_
        have hq := bindP_inv hr
        clear hr
        obtain ⟨v8, m_4, e8, hr⟩ := hq
        refine wo_step (v := v8) (s_al e8) ?_
        have hq := bindP_inv hr
        clear hr
        obtain ⟨vn, m_5, en, hr⟩ := hq
        refine wo_stepN (s_st rfl rfl en) ?_
        refine wo_nil ?_
        refine nx_norm ?_
        refine w_seq ?_
        refine w_ops ?_
        have hq := bindO_inv hr
        clear hr
        obtain ⟨v22, e22, hr⟩ := hq
        refine wo_step (v := v22) (s_pure (o_faddr rfl e22)) ?_
        have hq := bindO_inv hr
        clear hr
        obtain ⟨v23, e23, hr⟩ := hq
        have hq := asB_inv hr
        clear hr
        obtain ⟨c23, rfl, hr⟩ := hq
        refine wo_step (v := (.b c23)) (s_ld rfl e23) ?_
        have hq := forceB_inv hr
        clear hr
        obtain ⟨c24, e24, hr⟩ := hq
        refine wo_step (v := (.b c24)) (s_pure ((p_not rfl).trans (cb e24))) ?_
        refine wo_nil ?_
        refine nx_norm ?_
        have hq := bindO_inv hr
        clear hr
        obtain ⟨o, hr, hk⟩ := hq
        refine jp_mono (J := g23_J1 v15 v0 x17 x18 o) ?_ ?_
        · clear hk
          have hq := cond_inv hr
          clear hr
          rcases hq with ⟨rfl, hr⟩ | ⟨rfl, hr⟩
          · refine w_condT rfl ?_
            refine w_seq ?_
            refine w_ops ?_
            refine wo_step (v := v15) (s_pure (p_mv g5)) ?_
            refine wo_step (v := (.i .i64 x6)) (s_pure (p_mv g6)) ?_
            have hq := bindO_inv hr
            clear hr
            obtain ⟨v27, e27, hr⟩ := hq
            refine wo_step (v := v27) (s_ld rfl e27) ?_
            have hq := bindO_inv hr
            clear hr
            obtain ⟨v28, e28, hr⟩ := hq
            refine wo_step (v := v28) (s_pure (o_ixS rfl rfl e28)) ?_
            have hq := bindP_inv hr
            clear hr
            obtain ⟨vn_1, m_6, en_1, hr⟩ := hq
            refine wo_stepN (s_st rfl rfl en_1) ?_
            refine wo_nil ?_
            refine nx_norm ?_
            refine w_ops ?_
            refine wo_step (v := (.i .i64 x6)) (s_pure (p_mv g6)) ?_
            have hq := forceI_inv hr
            clear hr
            obtain ⟨x30, e30, hr⟩ := hq
            refine wo_step (v := (.i .i64 x30)) (s_pure (p_bin rfl rfl (b_add.trans (ci e30)))) ?_
            refine wo_step (v := (.i .i64 x30)) (s_pure (p_mv rfl)) ?_
            refine wo_nil ?_
            cases hr
            exact ⟨_, _, rfl, rfl, rfl, gl rfl, gl g5, gl g16, gl g17, gl g18⟩
          · refine w_condF rfl ?_
            refine w_skip ?_
            cases hr
            exact ⟨_, _, rfl, rfl, rfl, gl g6, gl g5, gl g16, gl g17, gl g18⟩
        · clear hr
          have hr := hk
          clear hk
          obtain ⟨x6_1, m_7⟩ := o
          rintro _ mm t_2 ⟨rfl, rfl, g6, g5, g16, g17, g18⟩
          refine bk_norm ?_
          refine nx_norm ?_
          refine w_ops ?_
          have hq := forceI_inv hr
          clear hr
          obtain ⟨x31, e31, hr⟩ := hq
          refine wo_step (v := (.i .i64 x31)) (s_pure (p_bin g18 rfl (b_add.trans (ci e31)))) ?_
          refine wo_step (v := (.i .i64 x31)) (s_pure (p_mv rfl)) ?_
          refine wo_nil ?_
          cases hr
          exact ⟨_, _, rfl, rfl, rfl, gl g6, gl rfl, gl g5, gl g16, gl g17⟩
      · refine w_condF rfl ?_
        refine w_exit ?_
        refine nx_exit ?_
        cases hr
        exact ⟨_, _, rfl, ne_norm_exit, rfl, rfl, gl g6, gl g5⟩
    · obtain ⟨x6_2, m_8⟩ := o_1
      rintro _ mm_1 t_3 ⟨rfl, rfl, g6, g5⟩
      refine bk_hit ?_
      refine nx_norm ?_
      refine w_seq ?_
      refine w_ops ?_
      refine wo_step (v := v15) (s_pure (p_mv g5)) ?_
      refine wo_step (v := (.i .i64 x6_2)) (s_pure (p_mv g6)) ?_
      refine wo_step (v := (.i .i64 x6_2)) (s_pure (p_mv g6)) ?_
      have hq := bindO_inv hr
      clear hr
      obtain ⟨v35, e35, hr⟩ := hq
      refine wo_step (v := v35) (s_pure (o_slS rfl on (os rfl) (os rfl) e35)) ?_
      refine wo_step (v := v35) (s_pure (p_mv rfl)) ?_
      refine wo_step (v := (.i .i64 0)) (s_pure (p_mv rfl)) ?_
      refine wo_nil ?_
      refine nx_norm ?_
      refine w_ret ?_
      exact qf ret_ok (rt rfl (rt rfl rn)) hr

/- dibber/note.Find -/
abbrev g36_I0 (v0 : AVal) (x1 : Int) (x16 : Int) (s : Int × Int × Mm) (m1 : Mm) (t1 : Tr) : Prop :=
  match s with
  | (x7, x17, m_2) => m_2 = m1 ∧ t1.get 7 = (.i .i64 x7) ∧ t1.get 17 = (.i .i64 x17) ∧ t1.get 0 = v0 ∧ t1.get 1 = (.i .i64 x1) ∧ t1.get 15 = v0 ∧ t1.get 16 = (.i .i64 x16)
abbrev g36_J0 (v0 : AVal) (x1 : Int) (x16 : Int) (o : ((Int × Mm) ⊕ (Int × Int × Mm))) (e : AExit) (m1 : Mm) (t1 : Tr) : Prop :=
  match o with
  | (.inl (y7, mo)) => e = (.exit 0) ∧ mo = m1 ∧ t1.get 7 = (.i .i64 y7) ∧ t1.get 0 = v0 ∧ t1.get 1 = (.i .i64 x1)
  | (.inr (y4, y5, mo)) => e = .ret ∧ mo = m1 ∧ t1.get 4 = (.i .i64 y4) ∧ t1.get 5 = (.i .i64 y5)
abbrev g36_J1 (v0 : AVal) (x1 : Int) (x16 : Int) (x17 : Int) (o : ((Int × Mm) ⊕ (Int × Int × Mm))) (e : AExit) (m1 : Mm) (t1 : Tr) : Prop :=
  match o with
  | (.inl (y7, mo)) => e = .norm ∧ mo = m1 ∧ t1.get 7 = (.i .i64 y7) ∧ t1.get 0 = v0 ∧ t1.get 1 = (.i .i64 x1) ∧ t1.get 15 = v0 ∧ t1.get 16 = (.i .i64 x16) ∧ t1.get 17 = (.i .i64 x17)
  | (.inr (y4, y5, mo)) => e = .ret ∧ mo = m1 ∧ t1.get 4 = (.i .i64 y4) ∧ t1.get 5 = (.i .i64 y5)
def g36_b0 (M : Means) (ro : List ABlk) (v0 : AVal) (x1 : Int) (x16 : Int) (x7 : Int) (x17 : Int) (m_2 : Mm) : Option ((Int × Int × Mm) ⊕ (((Int × Mm) ⊕ (Int × Int × Mm)))) :=
  forceB (ltI x17 x16) fun c18 =>
  cond c18 (
    bindO (α := ((Int × Mm) ⊕ (Int × Int × Mm))) (
      bindO (evP .e (.ixS 2 (.c v0) (.c (.i .i64 x17)))) fun v20 =>
      bindO (ldM ro m_2 false 2 v20) fun v21 =>
      bindP (stepM ro m_2 (.al 31 [(AVal.i IntKind.u8 0), (AVal.b false)])) fun v9 m_3 =>
      bindP (stepM ro m_3 (.st 2 (.c v9) (.c v21))) fun vn m_4 =>
      bindO (evP .e (.faddr 1 (.c v9))) fun v22 =>
      bindO (ldM ro m_4 true 1 v22) fun v23 =>
      asB v23 fun c23 =>
      cond c23 (
        some (.inl (x7, m_4))) (
        forceB (eqI x7 x1) fun c26 =>
        cond c26 (
          some (.inr (x17, 0, m_4))) (
          forceI (wr .i64 (x7 + 1)) fun x29 =>
          some (.inl (x29, m_4))))) fun o => match o with
    | (.inl (x7_1, m_5)) =>
      forceI (wr .i64 (x17 + 1)) fun x30 =>
      some (.inl (x7_1, x30, m_5))
    | (.inr (x4, x5, m_6)) =>
      some (.inr (.inr (x4, x5, m_6)))) (
    some (.inr (.inl (x7, m_2))))
def g36 (M : Means) (ro : List ABlk) (v0 : AVal) (x1 : Int) (m0 : Mm) : Option (AVal × Heap × Nat × Nat) :=
  bindP (callM M.call m0 61 [v0]) fun v11 m_1 =>
  asI .i64 v11 fun x11 =>
  forceB (!eqI x11 0) fun c13 =>
  cond c13 (
    finM m0.h.length (tupA [(.i .i64 0), (.i .i64 x11)]) m_1) (
    bindO (evP .e (.len false (.c v0))) fun v16 =>
    asI .i64 v16 fun x16 =>
    bindO (M.loop (S := Int × Int × Mm) (R := ((Int × Mm) ⊕ (Int × Int × Mm))) (fun s => g36_b0 M ro v0 x1 x16 s.1 s.2.1 s.2.2) (0, 0, m_1)) fun o_1 => match o_1 with
    | (.inl (x7_2, m_7)) =>
      forceB (!eqI x7_2 x1) fun c33 =>
      cond c33 (
        finM m0.h.length (tupA [(.i .i64 0), (.i .i64 4)]) m_7) (
        bindO (evP .e (.len false (.c v0))) fun v35 =>
        asI .i64 v35 fun x35 =>
        finM m0.h.length (tupA [(.i .i64 x35), (.i .i64 0)]) m_7)
    | (.inr (x4_1, x5_1, m_8)) =>
      finM m0.h.length (tupA [(.i .i64 x4_1), (.i .i64 x5_1)]) m_8)

theorem g36_ok {ro : List ABlk} {O : Caller} {M : Means} (hM : M.Ok ⟨F, O⟩ ro) {v0 x1 h r} (ho : O 36 [v0, (.i .i64 x1)] h = none) (hr : g36 M ro v0 x1 ⟨h, h.length, h.length⟩ = some r) : callX ⟨F, O⟩ ro 36 [v0, (.i .i64 x1)] h = some r := by
  refine callX_of (F := ⟨F, O⟩) (fn := fn36) (g := g36 M ro v0 x1) ho rfl rfl hr ?_
  clear ho
  clear hr
  intro m0 t0 ht hr
  have g0 : t0.get 0 = v0 := ht 0
  have g1 : t0.get 1 = (.i .i64 x1) := ht 1
  clear ht
  unfold g36 at hr
  refine w_seq ?_
  refine w_ops ?_
  refine wo_step (v := (.i .i64 0)) (s_pure (p_mv rfl)) ?_
  refine wo_step (v := (.i .i64 0)) (s_pure (p_mv rfl)) ?_
  refine wo_nil ?_
  refine nx_norm ?_
  refine w_seq ?_
  refine w_seq ?_
  refine w_ops ?_
  refine wo_step (v := v0) (s_pure (p_mv g0)) ?_
  have hq := bindP_inv hr
  clear hr
  obtain ⟨v11, m_1, e11, hr⟩ := hq
  have hq := asI_inv hr
  clear hr
  obtain ⟨x11, rfl, hr⟩ := hq
  refine wo_step (v := (.i .i64 x11)) (s_call (mc rfl mn) (callM_le hM.call e11)) ?_
  refine wo_step (v := (.i .i64 x11)) (s_pure (p_mv rfl)) ?_
  refine wo_nil ?_
  refine nx_norm ?_
  refine w_seq ?_
  refine w_ops ?_
  refine wo_step (v := (.i .i64 x11)) (s_pure (p_mv rfl)) ?_
  have hq := forceB_inv hr
  clear hr
  obtain ⟨c13, e13, hr⟩ := hq
  refine wo_step (v := (.b c13)) (s_pure (p_bin rfl rfl (b_neq.trans (cb e13)))) ?_
  refine wo_nil ?_
  refine nx_norm ?_
  have hq := cond_inv hr
  clear hr
  rcases hq with ⟨rfl, hr⟩ | ⟨rfl, hr⟩
  · refine w_condT rfl ?_
    refine w_seq ?_
    refine w_ops ?_
    refine wo_step (v := (.i .i64 x11)) (s_pure (p_mv rfl)) ?_
    refine wo_step (v := (.i .i64 0)) (s_pure (p_mv rfl)) ?_
    refine wo_step (v := (.i .i64 x11)) (s_pure (p_mv rfl)) ?_
    refine wo_nil ?_
    refine nx_norm ?_
    refine w_ret ?_
    refine nx_ret ?_
    exact qf ret_ok (rt rfl (rt rfl rn)) hr
  · refine w_condF rfl ?_
    refine w_skip ?_
    refine nx_norm ?_
    refine w_seq ?_
    refine w_ops ?_
    refine wo_step (v := (.i .i64 0)) (s_pure (p_mv rfl)) ?_
    refine wo_nil ?_
    refine nx_norm ?_
    refine w_seq ?_
    refine w_seq ?_
    refine w_ops ?_
    refine wo_step (v := v0) (s_pure (p_mv g0)) ?_
    have hq := bindO_inv hr
    clear hr
    obtain ⟨v16, e16, hr⟩ := hq
    have hq := asI_inv hr
    clear hr
    obtain ⟨x16, rfl, hr⟩ := hq
    refine wo_step (v := (.i .i64 x16)) (s_pure (o_len rfl e16)) ?_
    refine wo_step (v := (.i .i64 0)) (s_pure (p_mv rfl)) ?_
    refine wo_nil ?_
    refine nx_norm ?_
    refine w_block ?_
    have hq := bindO_inv hr
    clear hr
    obtain ⟨o_1, hl, hr⟩ := hq
    obtain ⟨n, hl⟩ := hM.loop _ _ _ hl
    refine jp_mono (w_loop _ (g36_I0 v0 x1 x16) (g36_J0 v0 x1 x16) ?_ n _ _ _ _ hl ⟨rfl, gl rfl, gl rfl, gl g0, gl g1, gl rfl, gl rfl⟩) ?_
    · clear hr hl
      intro s mm_4 t_1 o hi hr
      obtain ⟨x7, x17, m_2⟩ := s
      obtain ⟨rfl, g7, g17, g0, g1, g15, g16⟩ := hi
      unfold g36_b0 at hr
      refine w_seq ?_
      refine w_ops ?_
      have hq := forceB_inv hr
      clear hr
      obtain ⟨c18, e18, hr⟩ := hq
      refine wo_step (v := (.b c18)) (s_pure (p_bin g17 g16 (b_lss.trans (cb e18)))) ?_
      refine wo_nil ?_
      refine nx_norm ?_
      refine w_seq ?_
      have hq := cond_inv hr
      clear hr
      rcases hq with ⟨rfl, hr⟩ | ⟨rfl, hr⟩
      · refine w_condT rfl ?_
        refine w_skip ?_
        refine nx_norm ?_
        refine w_seq ?_
        have hq := bindO_inv hr
        clear hr
        obtain ⟨o, hr, hk⟩ := hq
        refine jp_mono (J := g36_J1 v0 x1 x16 x17 o) ?_ ?_
        · clear hk
          refine w_block ?_
          refine w_seq ?_
          refine w_ops ?_
          refine wo_step (v := (.i .i64 x17)) (s_pure (p_mv g17)) ?_
          have hq := bindO_inv hr
          clear hr
          obtain ⟨v20, e20, hr⟩ := hq
          refine wo_step (v := v20) (s_pure (o_ixS g15 g17 e20)) ?_
          have hq := bindO_inv hr
          clear hr
          obtain ⟨v21, e21, hr⟩ := hq
          refine wo_step (v := v21) (s_ld rfl e21) ?_
          have hq := bindP_inv hr
          clear hr
          obtain ⟨v9, m_3, e9, hr⟩ := hq
          refine wo_step (v := v9) (s_al e9) ?_
          refine wo_step (v := (.i .i64 x17)) (s_pure (p_mv rfl)) ?_
          have hq := bindP_inv hr
          clear hr
          obtain ⟨vn, m_4, en, hr⟩ := hq
          refine wo_stepN (s_st rfl rfl en) ?_
          refine wo_nil ?_
          refine nx_norm ?_
          refine w_seq ?_
          refine w_seq ?_
          refine w_ops ?_
          have hq := bindO_inv hr
          clear hr
          obtain ⟨v22, e22, hr⟩ := hq
          refine wo_step (v := v22) (s_pure (o_faddr rfl e22)) ?_
          have hq := bindO_inv hr
          clear hr
          obtain ⟨v23, e23, hr⟩ := hq
          have hq := asB_inv hr
          clear hr
          obtain ⟨c23, rfl, hr⟩ := hq
          refine wo_step (v := (.b c23)) (s_ld rfl e23) ?_
          refine wo_nil ?_
          refine nx_norm ?_
          have hq := cond_inv hr
          clear hr
          rcases hq with ⟨rfl, hr⟩ | ⟨rfl, hr⟩
          · refine w_condT rfl ?_
            refine w_exit ?_
            refine nx_exit ?_
            refine bk_hit ?_
            cases hr
            exact ⟨_, _, rfl, rfl, rfl, gl g7, gl g0, gl g1, gl g15, gl g16, gl g17⟩
          · refine w_condF rfl ?_
            refine w_skip ?_
            refine nx_norm ?_
            refine w_seq ?_
            refine w_seq ?_
            refine w_ops ?_
            refine wo_step (v := (.i .i64 x7)) (s_pure (p_mv g7)) ?_
            refine wo_step (v := (.i .i64 x1)) (s_pure (p_mv g1)) ?_
            have hq := forceB_inv hr
            clear hr
            obtain ⟨c26, e26, hr⟩ := hq
            refine wo_step (v := (.b c26)) (s_pure (p_bin rfl rfl (b_eql.trans (cb e26)))) ?_
            refine wo_nil ?_
            refine nx_norm ?_
            have hq := cond_inv hr
            clear hr
            rcases hq with ⟨rfl, hr⟩ | ⟨rfl, hr⟩
            · refine w_condT rfl ?_
              refine w_seq ?_
              refine w_ops ?_
              refine wo_step (v := (.i .i64 x17)) (s_pure (p_mv rfl)) ?_
              refine wo_step (v := (.i .i64 x17)) (s_pure (p_mv rfl)) ?_
              refine wo_step (v := (.i .i64 0)) (s_pure (p_mv rfl)) ?_
              refine wo_nil ?_
              refine nx_norm ?_
              refine w_ret ?_
              refine nx_ret ?_
              refine bk_ret ?_
              cases hr
              exact ⟨_, _, rfl, rfl, rfl, gl rfl, gl rfl⟩
            · refine w_condF rfl ?_
              refine w_skip ?_
              refine nx_norm ?_
              refine w_ops ?_
              refine wo_step (v := (.i .i64 x7)) (s_pure (p_mv g7)) ?_
              have hq := forceI_inv hr
              clear hr
              obtain ⟨x29, e29, hr⟩ := hq
              refine wo_step (v := (.i .i64 x29)) (s_pure (p_bin rfl rfl (b_add.trans (ci e29)))) ?_
              refine wo_step (v := (.i .i64 x29)) (s_pure (p_mv rfl)) ?_
              refine wo_nil ?_
              refine bk_norm ?_
              cases hr
              exact ⟨_, _, rfl, rfl, rfl, gl rfl, gl g0, gl g1, gl g15, gl g16, gl g17⟩
        · clear hr
          have hr := hk
          clear hk
          rcases o with o | o
          · obtain ⟨x7_1, m_5⟩ := o
            rintro _ mm t_2 ⟨rfl, rfl, g7, g0, g1, g15, g16, g17⟩
            refine nx_norm ?_
            refine w_ops ?_
            have hq := forceI_inv hr
            clear hr
            obtain ⟨x30, e30, hr⟩ := hq
            refine wo_step (v := (.i .i64 x30)) (s_pure (p_bin g17 rfl (b_add.trans (ci e30)))) ?_
            refine wo_step (v := (.i .i64 x30)) (s_pure (p_mv rfl)) ?_
            refine wo_nil ?_
            cases hr
            exact ⟨_, _, rfl, rfl, rfl, gl g7, gl rfl, gl g0, gl g1, gl g15, gl g16⟩
          · obtain ⟨x4, x5, m_6⟩ := o
            rintro _ mm_1 t_3 ⟨rfl, rfl, g4, g5⟩
            refine nx_ret ?_
            cases hr
            exact ⟨_, _, rfl, ne_norm_ret, rfl, rfl, gl g4, gl g5⟩
      · refine w_condF rfl ?_
        refine w_exit ?_
        refine nx_exit ?_
        cases hr
        exact ⟨_, _, rfl, ne_norm_exit, rfl, rfl, gl g7, gl g0, gl g1⟩
    · rcases o_1 with o_1 | o_1
      · obtain ⟨x7_2, m_7⟩ := o_1
        rintro _ mm_2 t_4 ⟨rfl, rfl, g7, g0, g1⟩
        refine bk_hit ?_
        refine nx_norm ?_
        refine w_seq ?_
        refine w_seq ?_
        refine w_ops ?_
        refine wo_step (v := (.i .i64 x7_2)) (s_pure (p_mv g7)) ?_
        refine wo_step (v := (.i .i64 x1)) (s_pure (p_mv g1)) ?_
        have hq := forceB_inv hr
        clear hr
        obtain ⟨c33, e33, hr⟩ := hq
        refine wo_step (v := (.b c33)) (s_pure (p_bin rfl rfl (b_neq.trans (cb e33)))) ?_
        refine wo_nil ?_
        refine nx_norm ?_
        have hq := cond_inv hr
        clear hr
        rcases hq with ⟨rfl, hr⟩ | ⟨rfl, hr⟩
        · refine w_condT rfl ?_
          refine w_seq ?_
          refine w_ops ?_
          refine wo_step (v := (.i .i64 0)) (s_pure (p_mv rfl)) ?_
          refine wo_step (v := (.i .i64 4)) (s_pure (p_mv rfl)) ?_
          refine wo_nil ?_
          refine nx_norm ?_
          refine w_ret ?_
          refine nx_ret ?_
          exact qf ret_ok (rt rfl (rt rfl rn)) hr
        · refine w_condF rfl ?_
          refine w_skip ?_
          refine nx_norm ?_
          refine w_seq ?_
          refine w_ops ?_
          refine wo_step (v := v0) (s_pure (p_mv g0)) ?_
          have hq := bindO_inv hr
          clear hr
          obtain ⟨v35, e35, hr⟩ := hq
          have hq := asI_inv hr
          clear hr
          obtain ⟨x35, rfl, hr⟩ := hq
          refine wo_step (v := (.i .i64 x35)) (s_pure (o_len rfl e35)) ?_
          refine wo_step (v := (.i .i64 x35)) (s_pure (p_mv rfl)) ?_
          refine wo_step (v := (.i .i64 0)) (s_pure (p_mv rfl)) ?_
          refine wo_nil ?_
          refine nx_norm ?_
          refine w_ret ?_
          exact qf ret_ok (rt rfl (rt rfl rn)) hr
      · obtain ⟨x4_1, x5_1, m_8⟩ := o_1
        rintro _ mm_3 t_5 ⟨rfl, rfl, g4, g5⟩
        refine bk_ret ?_
        refine nx_ret ?_
        exact qf ret_ok (rt g4 (rt g5 rn)) hr

/- dibber/dibberref07.Fits -/
abbrev g59_J0 (v2 : AVal) (m_1 : Mm) (o : Bool) (m1 : Mm) (t1 : Tr) : Prop :=
  match o with
  | c22 => m_1 = m1 ∧ t1.get 22 = (.b c22) ∧ t1.get 2 = v2
abbrev g59_J1 (v2 : AVal) (m_1 : Mm) (o : Bool) (m1 : Mm) (t1 : Tr) : Prop :=
  match o with
  | c27 => m_1 = m1 ∧ t1.get 27 = (.b c27) ∧ t1.get 2 = v2
abbrev g59_J2 (v2 : AVal) (m_1 : Mm) (o : Bool) (m1 : Mm) (t1 : Tr) : Prop :=
  match o with
  | c32 => m_1 = m1 ∧ t1.get 32 = (.b c32) ∧ t1.get 2 = v2
abbrev g59_J3 (v2 : AVal) (m_1 : Mm) (o : Bool) (m1 : Mm) (t1 : Tr) : Prop :=
  match o with
  | c37 => m_1 = m1 ∧ t1.get 37 = (.b c37) ∧ t1.get 2 = v2
abbrev g59_J4 (m_1 : Mm) (o : Bool) (m1 : Mm) (t1 : Tr) : Prop :=
  match o with
  | c42 => m_1 = m1 ∧ t1.get 42 = (.b c42)
abbrev g59_J5 (v2 : AVal) (m_1 : Mm) (o : Bool) (m1 : Mm) (t1 : Tr) : Prop :=
  match o with
  | c53 => m_1 = m1 ∧ t1.get 53 = (.b c53) ∧ t1.get 2 = v2
abbrev g59_J6 (v2 : AVal) (m_1 : Mm) (o : Bool) (m1 : Mm) (t1 : Tr) : Prop :=
  match o with
  | c58 => m_1 = m1 ∧ t1.get 58 = (.b c58) ∧ t1.get 2 = v2
abbrev g59_J7 (m_1 : Mm) (o : Bool) (m1 : Mm) (t1 : Tr) : Prop :=
  match o with
  | c63 => m_1 = m1 ∧ t1.get 63 = (.b c63)
def g59 (M : Means) (ro : List ABlk) (v0 : AVal) (x1 : Int) (m0 : Mm) : Option (AVal × Heap × Nat × Nat) :=
  bindP (stepM ro m0 (.bx 24 4 (.c v0))) fun v2 m_1 =>
  bindO (evP .e (.faddr 0 (.c v2))) fun v5 =>
  bindO (ldM ro m_1 true 1 v5) fun v6 =>
  asI .i64 v6 fun x6 =>
  forceB (eqI x6 0) fun c8 =>
  cond c8 (
    bindO (ldM ro m_1 false 4 v2) fun v9 =>
    bindO ((fillA [(AVal.i IntKind.i64 0), (AVal.i IntKind.i64 0), (AVal.i IntKind.u8 0), (AVal.i IntKind.i64 0)] []).map AVal.agg) fun v10 =>
    bindO (evP .e (.seq false [(0, false), (1, false), (2, false), (3, false)] (.c v9) (.c v10))) fun v11 =>
    asB v11 fun c11 =>
    finM m0.h.length (tupA [(.b c11)]) m_1) (
    forceB (eqI x6 1) fun c13 =>
    cond c13 (
      bindO (evP .e (.faddr 1 (.c v2))) fun v14 =>
      bindO (ldM ro m_1 true 1 v14) fun v15 =>
      asI .i64 v15 fun x15 =>
      forceB (!ltI x15 0) fun c16 =>
      bindO (cond c16 (
        bindO (evP .e (.faddr 1 (.c v2))) fun v18 =>
        bindO (ldM ro m_1 true 1 v18) fun v19 =>
        asI .i64 v19 fun x19 =>
        forceB (!ltI x1 x19) fun c21 =>
        some c21) (
        some false)) fun c22 =>
      bindO (cond c22 (
        bindO (evP .e (.faddr 2 (.c v2))) fun v24 =>
        bindO (ldM ro m_1 true 1 v24) fun v25 =>
        asI .u8 v25 fun x25 =>
        forceB (!ltI x25 97) fun c26 =>
        some c26) (
        some false)) fun c27 =>
      bindO (cond c27 (
        bindO (evP .e (.faddr 2 (.c v2))) fun v29 =>
        bindO (ldM ro m_1 true 1 v29) fun v30 =>
        asI .u8 v30 fun x30 =>
        forceB (!ltI 122 x30) fun c31 =>
        some c31) (
        some false)) fun c32 =>
      bindO (cond c32 (
        bindO (evP .e (.faddr 3 (.c v2))) fun v34 =>
        bindO (ldM ro m_1 true 1 v34) fun v35 =>
        asI .i64 v35 fun x35 =>
        forceB (!ltI x35 0) fun c36 =>
        some c36) (
        some false)) fun c37 =>
      bindO (cond c37 (
        bindO (evP .e (.faddr 3 (.c v2))) fun v39 =>
        bindO (ldM ro m_1 true 1 v39) fun v40 =>
        asI .i64 v40 fun x40 =>
        forceB (ltI x40 5) fun c41 =>
        some c41) (
        some false)) fun c42 =>
      finM m0.h.length (tupA [(.b c42)]) m_1) (
      forceB (eqI x6 2) fun c44 =>
      cond c44 (
        bindO (evP .e (.faddr 1 (.c v2))) fun v45 =>
        bindO (ldM ro m_1 true 1 v45) fun v46 =>
        asI .i64 v46 fun x46 =>
        forceB (!ltI x46 0) fun c47 =>
        bindO (cond c47 (
          bindO (evP .e (.faddr 1 (.c v2))) fun v49 =>
          bindO (ldM ro m_1 true 1 v49) fun v50 =>
          asI .i64 v50 fun x50 =>
          forceB (ltI x50 x1) fun c52 =>
          some c52) (
          some false)) fun c53 =>
        bindO (cond c53 (
          bindO (evP .e (.faddr 2 (.c v2))) fun v55 =>
          bindO (ldM ro m_1 true 1 v55) fun v56 =>
          asI .u8 v56 fun x56 =>
          forceB (eqI x56 0) fun c57 =>
          some c57) (
          some false)) fun c58 =>
        bindO (cond c58 (
          bindO (evP .e (.faddr 3 (.c v2))) fun v60 =>
          bindO (ldM ro m_1 true 1 v60) fun v61 =>
          asI .i64 v61 fun x61 =>
          forceB (eqI x61 0) fun c62 =>
          some c62) (
          some false)) fun c63 =>
        finM m0.h.length (tupA [(.b c63)]) m_1) (
        finM m0.h.length (tupA [(.b false)]) m_1)))

theorem g59_ok {ro : List ABlk} {O : Caller} {M : Means} (hM : M.Ok ⟨F, O⟩ ro) {v0 x1 h r} (ho : O 59 [v0, (.i .i64 x1)] h = none) (hr : g59 M ro v0 x1 ⟨h, h.length, h.length⟩ = some r) : callX ⟨F, O⟩ ro 59 [v0, (.i .i64 x1)] h = some r := by
  refine callX_of (F := ⟨F, O⟩) (fn := fn59) (g := g59 M ro v0 x1) ho rfl rfl hr ?_
  clear ho
  clear hr
  intro m0 t0 ht hr
  have g0 : t0.get 0 = v0 := ht 0
  have g1 : t0.get 1 = (.i .i64 x1) := ht 1
  clear ht
  unfold g59 at hr
  refine w_seq ?_
  refine w_ops ?_
  have hq := bindP_inv hr
  clear hr
  obtain ⟨v2, m_1, e2, hr⟩ := hq
  refine wo_step (v := v2) (s_bx g0 e2) ?_
  refine wo_step (v := (.b false)) (s_pure (p_mv rfl)) ?_
  refine wo_nil ?_
  refine nx_norm ?_
  refine w_seq ?_
  refine w_seq ?_
  refine w_ops ?_
  have hq := bindO_inv hr
  clear hr
  obtain ⟨v5, e5, hr⟩ := hq
  refine wo_step (v := v5) (s_pure (o_faddr rfl e5)) ?_
  have hq := bindO_inv hr
  clear hr
  obtain ⟨v6, e6, hr⟩ := hq
  have hq := asI_inv hr
  clear hr
  obtain ⟨x6, rfl, hr⟩ := hq
  refine wo_step (v := (.i .i64 x6)) (s_ld rfl e6) ?_
  refine wo_nil ?_
  refine nx_norm ?_
  refine w_block ?_
  refine w_seq ?_
  refine w_ops ?_
  have hq := forceB_inv hr
  clear hr
  obtain ⟨c8, e8, hr⟩ := hq
  refine wo_step (v := (.b c8)) (s_pure (p_bin rfl rfl (b_eql.trans (cb e8)))) ?_
  refine wo_step (v := (.b c8)) (s_pure (p_mv rfl)) ?_
  refine wo_nil ?_
  refine nx_norm ?_
  have hq := cond_inv hr
  clear hr
  rcases hq with ⟨rfl, hr⟩ | ⟨rfl, hr⟩
  · refine w_condT rfl ?_
    refine w_seq ?_
    refine w_ops ?_
    have hq := bindO_inv hr
    clear hr
    obtain ⟨v9, e9, hr⟩ := hq
    refine wo_step (v := v9) (s_ld rfl e9) ?_
    have hq := bindO_inv hr
    clear hr
    obtain ⟨v10, e10, hr⟩ := hq
    refine wo_step (v := v10) (s_pure (o_build qn e10)) ?_
    have hq := bindO_inv hr
    clear hr
    obtain ⟨v11, e11, hr⟩ := hq
    have hq := asB_inv hr
    clear hr
    obtain ⟨c11, rfl, hr⟩ := hq
    refine wo_step (v := (.b c11)) (s_pure (o_seq rfl rfl e11)) ?_
    refine wo_step (v := (.b c11)) (s_pure (p_mv rfl)) ?_
    refine wo_nil ?_
    refine nx_norm ?_
    refine w_ret ?_
    refine bk_ret ?_
    refine nx_ret ?_
    exact qf ret_ok (rt rfl rn) hr
  · refine w_condF rfl ?_
    refine w_seq ?_
    refine w_ops ?_
    have hq := forceB_inv hr
    clear hr
    obtain ⟨c13, e13, hr⟩ := hq
    refine wo_step (v := (.b c13)) (s_pure (p_bin rfl rfl (b_eql.trans (cb e13)))) ?_
    refine wo_step (v := (.b c13)) (s_pure (p_mv rfl)) ?_
    refine wo_nil ?_
    refine nx_norm ?_
    have hq := cond_inv hr
    clear hr
    rcases hq with ⟨rfl, hr⟩ | ⟨rfl, hr⟩
    · refine w_condT rfl ?_
      refine w_seq ?_
      refine w_ops ?_
      have hq := bindO_inv hr
      clear hr
      obtain ⟨v14, e14, hr⟩ := hq
      refine wo_step (v := v14) (s_pure (o_faddr rfl e14)) ?_
      have hq := bindO_inv hr
      clear hr
      obtain ⟨v15, e15, hr⟩ := hq
      have hq := asI_inv hr
      clear hr
      obtain ⟨x15, rfl, hr⟩ := hq
      refine wo_step (v := (.i .i64 x15)) (s_ld rfl e15) ?_
      have hq := forceB_inv hr
      clear hr
      obtain ⟨c16, e16, hr⟩ := hq
      refine wo_step (v := (.b c16)) (s_pure (p_bin rfl rfl (b_geq.trans (cb e16)))) ?_
      refine wo_step (v := (.b c16)) (s_pure (p_mv rfl)) ?_
      have hq := bindO_inv hr
      clear hr
      obtain ⟨o, hr, hk⟩ := hq
      refine wo_join 5 (g59_J0 v2 m_1 o) ?_ ?_
      · clear hk
        have hq := cond_inv hr
        clear hr
        rcases hq with ⟨rfl, hr⟩ | ⟨rfl, hr⟩
        · have hq := bindO_inv hr
          clear hr
          obtain ⟨v18, e18, hr⟩ := hq
          refine wo_take (v := v18) rfl (s_pure (o_faddr rfl e18)) ?_
          have hq := bindO_inv hr
          clear hr
          obtain ⟨v19, e19, hr⟩ := hq
          have hq := asI_inv hr
          clear hr
          obtain ⟨x19, rfl, hr⟩ := hq
          refine wo_take (v := (.i .i64 x19)) rfl (s_ld rfl e19) ?_
          refine wo_take (v := (.i .i64 x1)) rfl (s_pure (p_mv g1)) ?_
          have hq := forceB_inv hr
          clear hr
          obtain ⟨c21, e21, hr⟩ := hq
          refine wo_take (v := (.b c21)) rfl (s_pure (p_bin rfl rfl (b_leq.trans (cb e21)))) ?_
          refine wo_step (v := (.b c21)) (s_pure (p_pickT rfl rfl)) ?_
          refine wo_nil ?_
          cases hr
          exact ⟨_, _, rfl, rfl, gl rfl, gl rfl⟩
        · refine wo_skip (v := (.b false)) rfl rfl ?_
          refine wo_skip (v := (.b false)) rfl rfl ?_
          refine wo_skip (v := (.b false)) rfl rfl ?_
          refine wo_skip (v := (.b false)) rfl rfl ?_
          refine wo_step (v := (.b false)) (s_pure (p_pickF rfl rfl)) ?_
          refine wo_nil ?_
          cases hr
          exact ⟨_, _, rfl, rfl, gl rfl, gl rfl⟩
      · clear hr
        have hr := hk
        clear hk
        obtain ⟨c22, ho⟩ : ∃ z, z = o := ⟨_, rfl⟩
        subst ho
        rintro mm t_1 ⟨rfl, g22, g2⟩
        refine wo_step (v := (.b c22)) (s_pure (p_mv g22)) ?_
        have hq := bindO_inv hr
        clear hr
        obtain ⟨o_1, hr, hk⟩ := hq
        refine wo_join 4 (g59_J1 v2 m_1 o_1) ?_ ?_
        · clear hk
          have hq := cond_inv hr
          clear hr
          rcases hq with ⟨rfl, hr⟩ | ⟨rfl, hr⟩
          · have hq := bindO_inv hr
            clear hr
            obtain ⟨v24, e24, hr⟩ := hq
            refine wo_take (v := v24) rfl (s_pure (o_faddr g2 e24)) ?_
            have hq := bindO_inv hr
            clear hr
            obtain ⟨v25, e25, hr⟩ := hq
            have hq := asI_inv hr
            clear hr
            obtain ⟨x25, rfl, hr⟩ := hq
            refine wo_take (v := (.i .u8 x25)) rfl (s_ld rfl e25) ?_
            have hq := forceB_inv hr
            clear hr
            obtain ⟨c26, e26, hr⟩ := hq
            refine wo_take (v := (.b c26)) rfl (s_pure (p_bin rfl rfl (b_geq.trans (cb e26)))) ?_
            refine wo_step (v := (.b c26)) (s_pure (p_pickT rfl rfl)) ?_
            refine wo_nil ?_
            cases hr
            exact ⟨_, _, rfl, rfl, gl rfl, gl g2⟩
          · refine wo_skip (v := (.b false)) rfl rfl ?_
            refine wo_skip (v := (.b false)) rfl rfl ?_
            refine wo_skip (v := (.b false)) rfl rfl ?_
            refine wo_step (v := (.b false)) (s_pure (p_pickF rfl rfl)) ?_
            refine wo_nil ?_
            cases hr
            exact ⟨_, _, rfl, rfl, gl rfl, gl g2⟩
        · clear hr
          have hr := hk
          clear hk
          obtain ⟨c27, ho⟩ : ∃ z, z = o_1 := ⟨_, rfl⟩
          subst ho
          rintro mm_1 t_2 ⟨rfl, g27, g2⟩
          refine wo_step (v := (.b c27)) (s_pure (p_mv g27)) ?_
          have hq := bindO_inv hr
          clear hr
          obtain ⟨o_2, hr, hk⟩ := hq
          refine wo_join 4 (g59_J2 v2 m_1 o_2) ?_ ?_
          · clear hk
            have hq := cond_inv hr
            clear hr
            rcases hq with ⟨rfl, hr⟩ | ⟨rfl, hr⟩
            · have hq := bindO_inv hr
              clear hr
              obtain ⟨v29, e29, hr⟩ := hq
              refine wo_take (v := v29) rfl (s_pure (o_faddr g2 e29)) ?_
              have hq := bindO_inv hr
              clear hr
              obtain ⟨v30, e30, hr⟩ := hq
              have hq := asI_inv hr
              clear hr
              obtain ⟨x30, rfl, hr⟩ := hq
              refine wo_take (v := (.i .u8 x30)) rfl (s_ld rfl e30) ?_
              have hq := forceB_inv hr
              clear hr
              obtain ⟨c31, e31, hr⟩ := hq
              refine wo_take (v := (.b c31)) rfl (s_pure (p_bin rfl rfl (b_leq.trans (cb e31)))) ?_
              refine wo_step (v := (.b c31)) (s_pure (p_pickT rfl rfl)) ?_
              refine wo_nil ?_
              cases hr
              exact ⟨_, _, rfl, rfl, gl rfl, gl g2⟩
            · refine wo_skip (v := (.b false)) rfl rfl ?_
              refine wo_skip (v := (.b false)) rfl rfl ?_
              refine wo_skip (v := (.b false)) rfl rfl ?_
              refine wo_step (v := (.b false)) (s_pure (p_pickF rfl rfl)) ?_
              refine wo_nil ?_
              cases hr
              exact ⟨_, _, rfl, rfl, gl rfl, gl g2⟩
          · clear hr
            have hr := hk
            clear hk
            obtain ⟨c32, ho⟩ : ∃ z, z = o_2 := ⟨_, rfl⟩
            subst ho
            rintro mm_2 t_3 ⟨rfl, g32, g2⟩
            refine wo_step (v := (.b c32)) (s_pure (p_mv g32)) ?_
            have hq := bindO_inv hr
            clear hr
            obtain ⟨o_3, hr, hk⟩ := hq
            refine wo_join 4 (g59_J3 v2 m_1 o_3) ?_ ?_
            · clear hk
              have hq := cond_inv hr
              clear hr
              rcases hq with ⟨rfl, hr⟩ | ⟨rfl, hr⟩
              · have hq := bindO_inv hr
                clear hr
                obtain ⟨v34, e34, hr⟩ := hq
                refine wo_take (v := v34) rfl (s_pure (o_faddr g2 e34)) ?_
                have hq := bindO_inv hr
                clear hr
                obtain ⟨v35, e35, hr⟩ := hq
                have hq := asI_inv hr
                clear hr
                obtain ⟨x35, rfl, hr⟩ := hq
                refine wo_take (v := (.i .i64 x35)) rfl (s_ld rfl e35) ?_
                have hq := forceB_inv hr
                clear hr
                obtain ⟨c36, e36, hr⟩ := hq
                refine wo_take (v := (.b c36)) rfl (s_pure (p_bin rfl rfl (b_geq.trans (cb e36)))) ?_
                refine wo_step (v := (.b c36)) (s_pure (p_pickT rfl rfl)) ?_
                refine wo_nil ?_
                cases hr
                exact ⟨_, _, rfl, rfl, gl rfl, gl g2⟩
              · refine wo_skip (v := (.b false)) rfl rfl ?_
                refine wo_skip (v := (.b false)) rfl rfl ?_
                refine wo_skip (v := (.b false)) rfl rfl ?_
                refine wo_step (v := (.b false)) (s_pure (p_pickF rfl rfl)) ?_
                refine wo_nil ?_
                cases hr
                exact ⟨_, _, rfl, rfl, gl rfl, gl g2⟩
            · clear hr
              have hr := hk
              clear hk
              obtain ⟨c37, ho⟩ : ∃ z, z = o_3 := ⟨_, rfl⟩
              subst ho
              rintro mm_3 t_4 ⟨rfl, g37, g2⟩
              refine wo_step (v := (.b c37)) (s_pure (p_mv g37)) ?_
              have hq := bindO_inv hr
              clear hr
              obtain ⟨o_4, hr, hk⟩ := hq
              refine wo_join 4 (g59_J4 m_1 o_4) ?_ ?_
              · clear hk
                have hq := cond_inv hr
                clear hr
                rcases hq with ⟨rfl, hr⟩ | ⟨rfl, hr⟩
                · have hq := bindO_inv hr
                  clear hr
                  obtain ⟨v39, e39, hr⟩ := hq
                  refine wo_take (v := v39) rfl (s_pure (o_faddr g2 e39)) ?_
                  have hq := bindO_inv hr
                  clear hr
                  obtain ⟨v40, e40, hr⟩ := hq
                  have hq := asI_inv hr
                  clear hr
                  obtain ⟨x40, rfl, hr⟩ := hq
                  refine wo_take (v := (.i .i64 x40)) rfl (s_ld rfl e40) ?_
                  have hq := forceB_inv hr
                  clear hr
                  obtain ⟨c41, e41, hr⟩ := hq
                  refine wo_take (v := (.b c41)) rfl (s_pure (p_bin rfl rfl (b_lss.trans (cb e41)))) ?_
                  refine wo_step (v := (.b c41)) (s_pure (p_pickT rfl rfl)) ?_
                  refine wo_nil ?_
                  cases hr
                  exact ⟨_, _, rfl, rfl, gl rfl⟩
                · refine wo_skip (v := (.b false)) rfl rfl ?_
                  refine wo_skip (v := (.b false)) rfl rfl ?_
                  refine wo_skip (v := (.b false)) rfl rfl ?_
                  refine wo_step (v := (.b false)) (s_pure (p_pickF rfl rfl)) ?_
                  refine wo_nil ?_
                  cases hr
                  exact ⟨_, _, rfl, rfl, gl rfl⟩
              · clear hr
                have hr := hk
                clear hk
                obtain ⟨c42, ho⟩ : ∃ z, z = o_4 := ⟨_, rfl⟩
                subst ho
                rintro mm_4 t_5 ⟨rfl, g42⟩
                refine wo_step (v := (.b c42)) (s_pure (p_mv g42)) ?_
                refine wo_nil ?_
                refine nx_norm ?_
                refine w_ret ?_
                refine bk_ret ?_
                refine nx_ret ?_
                exact qf ret_ok (rt rfl rn) hr
    · refine w_condF rfl ?_
      refine w_seq ?_
      refine w_ops ?_
      have hq := forceB_inv hr
      clear hr
      obtain ⟨c44, e44, hr⟩ := hq
      refine wo_step (v := (.b c44)) (s_pure (p_bin rfl rfl (b_eql.trans (cb e44)))) ?_
      refine wo_step (v := (.b c44)) (s_pure (p_mv rfl)) ?_
      refine wo_nil ?_
      refine nx_norm ?_
      have hq := cond_inv hr
      clear hr
      rcases hq with ⟨rfl, hr⟩ | ⟨rfl, hr⟩
      · refine w_condT rfl ?_
        refine w_seq ?_
        refine w_ops ?_
        have hq := bindO_inv hr
        clear hr
        obtain ⟨v45, e45, hr⟩ := hq
        refine wo_step (v := v45) (s_pure (o_faddr rfl e45)) ?_
        have hq := bindO_inv hr
        clear hr
        obtain ⟨v46, e46, hr⟩ := hq
        have hq := asI_inv hr
        clear hr
        obtain ⟨x46, rfl, hr⟩ := hq
        refine wo_step (v := (.i .i64 x46)) (s_ld rfl e46) ?_
        have hq := forceB_inv hr
        clear hr
        obtain ⟨c47, e47, hr⟩ := hq
        refine wo_step (v := (.b c47)) (s_pure (p_bin rfl rfl (b_geq.trans (cb e47)))) ?_
        refine wo_step (v := (.b c47)) (s_pure (p_mv rfl)) ?_
        have hq := bindO_inv hr
        clear hr
        obtain ⟨o_5, hr, hk⟩ := hq
        refine wo_join 5 (g59_J5 v2 m_1 o_5) ?_ ?_
        · clear hk
          have hq := cond_inv hr
          clear hr
          rcases hq with ⟨rfl, hr⟩ | ⟨rfl, hr⟩
          · have hq := bindO_inv hr
            clear hr
            obtain ⟨v49, e49, hr⟩ := hq
            refine wo_take (v := v49) rfl (s_pure (o_faddr rfl e49)) ?_
            have hq := bindO_inv hr
            clear hr
            obtain ⟨v50, e50, hr⟩ := hq
            have hq := asI_inv hr
            clear hr
            obtain ⟨x50, rfl, hr⟩ := hq
            refine wo_take (v := (.i .i64 x50)) rfl (s_ld rfl e50) ?_
            refine wo_take (v := (.i .i64 x1)) rfl (s_pure (p_mv g1)) ?_
            have hq := forceB_inv hr
            clear hr
            obtain ⟨c52, e52, hr⟩ := hq
            refine wo_take (v := (.b c52)) rfl (s_pure (p_bin rfl rfl (b_lss.trans (cb e52)))) ?_
            refine wo_step (v := (.b c52)) (s_pure (p_pickT rfl rfl)) ?_
            refine wo_nil ?_
            cases hr
            exact ⟨_, _, rfl, rfl, gl rfl, gl rfl⟩
          · refine wo_skip (v := (.b false)) rfl rfl ?_
            refine wo_skip (v := (.b false)) rfl rfl ?_
            refine wo_skip (v := (.b false)) rfl rfl ?_
            refine wo_skip (v := (.b false)) rfl rfl ?_
            refine wo_step (v := (.b false)) (s_pure (p_pickF rfl rfl)) ?_
            refine wo_nil ?_
            cases hr
            exact ⟨_, _, rfl, rfl, gl rfl, gl rfl⟩
        · clear hr
          have hr := hk
          clear hk
          obtain ⟨c53, ho⟩ : ∃ z, z = o_5 := ⟨_, rfl⟩
          subst ho
          rintro mm_5 t_6 ⟨rfl, g53, g2⟩
          refine wo_step (v := (.b c53)) (s_pure (p_mv g53)) ?_
          have hq := bindO_inv hr
          clear hr
          obtain ⟨o_6, hr, hk⟩ := hq
          refine wo_join 4 (g59_J6 v2 m_1 o_6) ?_ ?_
          · clear hk
            have hq := cond_inv hr
            clear hr
            rcases hq with ⟨rfl, hr⟩ | ⟨rfl, hr⟩
            · have hq := bindO_inv hr
              clear hr
              obtain ⟨v55, e55, hr⟩ := hq
              refine wo_take (v := v55) rfl (s_pure (o_faddr g2 e55)) ?_
              have hq := bindO_inv hr
              clear hr
              obtain ⟨v56, e56, hr⟩ := hq
              have hq := asI_inv hr
              clear hr
              obtain ⟨x56, rfl, hr⟩ := hq
              refine wo_take (v := (.i .u8 x56)) rfl (s_ld rfl e56) ?_
              have hq := forceB_inv hr
              clear hr
              obtain ⟨c57, e57, hr⟩ := hq
              refine wo_take (v := (.b c57)) rfl (s_pure (p_bin rfl rfl (b_eql.trans (cb e57)))) ?_
              refine wo_step (v := (.b c57)) (s_pure (p_pickT rfl rfl)) ?_
              refine wo_nil ?_
              cases hr
              exact ⟨_, _, rfl, rfl, gl rfl, gl g2⟩
            · refine wo_skip (v := (.b false)) rfl rfl ?_
              refine wo_skip (v := (.b false)) rfl rfl ?_
              refine wo_skip (v := (.b false)) rfl rfl ?_
              refine wo_step (v := (.b false)) (s_pure (p_pickF rfl rfl)) ?_
              refine wo_nil ?_
              cases hr
              exact ⟨_, _, rfl, rfl, gl rfl, gl g2⟩
          · clear hr
            have hr := hk
            clear hk
            obtain ⟨c58, ho⟩ : ∃ z, z = o_6 := ⟨_, rfl⟩
            subst ho
            rintro mm_6 t_7 ⟨rfl, g58, g2⟩
            refine wo_step (v := (.b c58)) (s_pure (p_mv g58)) ?_
            have hq := bindO_inv hr
            clear hr
            obtain ⟨o_7, hr, hk⟩ := hq
            refine wo_join 4 (g59_J7 m_1 o_7) ?_ ?_
            · clear hk
              have hq := cond_inv hr
              clear hr
              rcases hq with ⟨rfl, hr⟩ | ⟨rfl, hr⟩
              · have hq := bindO_inv hr
                clear hr
                obtain ⟨v60, e60, hr⟩ := hq
                refine wo_take (v := v60) rfl (s_pure (o_faddr g2 e60)) ?_
                have hq := bindO_inv hr
                clear hr
                obtain ⟨v61, e61, hr⟩ := hq
                have hq := asI_inv hr
                clear hr
                obtain ⟨x61, rfl, hr⟩ := hq
                refine wo_take (v := (.i .i64 x61)) rfl (s_ld rfl e61) ?_
                have hq := forceB_inv hr
                clear hr
                obtain ⟨c62, e62, hr⟩ := hq
                refine wo_take (v := (.b c62)) rfl (s_pure (p_bin rfl rfl (b_eql.trans (cb e62)))) ?_
                refine wo_step (v := (.b c62)) (s_pure (p_pickT rfl rfl)) ?_
                refine wo_nil ?_
                cases hr
                exact ⟨_, _, rfl, rfl, gl rfl⟩
              · refine wo_skip (v := (.b false)) rfl rfl ?_
                refine wo_skip (v := (.b false)) rfl rfl ?_
                refine wo_skip (v := (.b false)) rfl rfl ?_
                refine wo_step (v := (.b false)) (s_pure (p_pickF rfl rfl)) ?_
                refine wo_nil ?_
                cases hr
                exact ⟨_, _, rfl, rfl, gl rfl⟩
            · clear hr
              have hr := hk
              clear hk
              obtain ⟨c63, ho⟩ : ∃ z, z = o_7 := ⟨_, rfl⟩
              subst ho
              rintro mm_7 t_8 ⟨rfl, g63⟩
              refine wo_step (v := (.b c63)) (s_pure (p_mv g63)) ?_
              refine wo_nil ?_
              refine nx_norm ?_
              refine w_ret ?_
              refine bk_ret ?_
              refine nx_ret ?_
              exact qf ret_ok (rt rfl rn) hr
      · refine w_condF rfl ?_
        refine w_skip ?_
        refine bk_norm ?_
        refine nx_norm ?_
        refine w_seq ?_
        refine w_ops ?_
        refine wo_step (v := (.b false)) (s_pure (p_mv rfl)) ?_
        refine wo_nil ?_
        refine nx_norm ?_
        refine w_ret ?_
        exact qf ret_ok (rt rfl rn) hr

/- dibber/note.check -/
abbrev g61_I0 (v0 : AVal) (x9 : Int) (s : Int × Mm) (m1 : Mm) (t1 : Tr) : Prop :=
  match s with
  | (x10, m_1) => m_1 = m1 ∧ t1.get 10 = (.i .i64 x10) ∧ t1.get 8 = v0 ∧ t1.get 9 = (.i .i64 x9)
abbrev g61_J0 (v0 : AVal) (x9 : Int) (o : (Mm ⊕ (Int × Mm))) (e : AExit) (m1 : Mm) (t1 : Tr) : Prop :=
  match o with
  | (.inl mo) => e = (.exit 0) ∧ mo = m1
  | (.inr (y2, mo)) => e = .ret ∧ mo = m1 ∧ t1.get 2 = (.i .i64 y2)
def g61_b0 (M : Means) (ro : List ABlk) (v0 : AVal) (x9 : Int) (x10 : Int) (m_1 : Mm) : Option ((Int × Mm) ⊕ ((Mm ⊕ (Int × Mm)))) :=
  forceB (ltI x10 x9) fun c11 =>
  cond c11 (
    bindO (evP .e (.ixS 2 (.c v0) (.c (.i .i64 x10)))) fun v12 =>
    bindO (ldM ro m_1 false 2 v12) fun v13 =>
    bindP (stepM ro m_1 (.al 31 [(AVal.i IntKind.u8 0), (AVal.b false)])) fun v4 m_2 =>
    bindP (stepM ro m_2 (.st 2 (.c v4) (.c v13))) fun vn m_3 =>
    bindO (evP .e (.faddr 0 (.c v4))) fun v14 =>
    bindO (ldM ro m_3 true 1 v14) fun v15 =>
    asI .u8 v15 fun x15 =>
    bindP (callM M.call m_3 76 [(.i .u8 x15)]) fun v16 m_4 =>
    asB v16 fun c16 =>
    forceB (!c16) fun c17 =>
    cond c17 (
      some (.inr (.inr (2, m_4)))) (
      forceI (wr .i64 (x10 + 1)) fun x18 =>
      some (.inl (x18, m_4)))) (
    some (.inr (.inl m_1)))
def g61 (M : Means) (ro : List ABlk) (v0 : AVal) (m0 : Mm) : Option (AVal × Heap × Nat × Nat) :=
  bindO (evP .e (.len false (.c v0))) fun v6 =>
  asI .i64 v6 fun x6 =>
  forceB (ltI 300 x6) fun c7 =>
  cond c7 (
    finM m0.h.length (tupA [(.i .i64 3)]) m0) (
    bindO (evP .e (.len false (.c v0))) fun v9 =>
    asI .i64 v9 fun x9 =>
    bindO (M.loop (S := Int × Mm) (R := (Mm ⊕ (Int × Mm))) (fun s => g61_b0 M ro v0 x9 s.1 s.2) (0, m0)) fun o => match o with
    | (.inl m_5) =>
      finM m0.h.length (tupA [(.i .i64 0)]) m_5
    | (.inr (x2, m_6)) =>
      finM m0.h.length (tupA [(.i .i64 x2)]) m_6)

theorem g61_ok {ro : List ABlk} {O : Caller} {M : Means} (hM : M.Ok ⟨F, O⟩ ro) {v0 h r} (ho : O 61 [v0] h = none) (hr : g61 M ro v0 ⟨h, h.length, h.length⟩ = some r) : callX ⟨F, O⟩ ro 61 [v0] h = some r := by
  refine callX_of (F := ⟨F, O⟩) (fn := fn61) (g := g61 M ro v0) ho rfl rfl hr ?_
  clear ho
  clear hr
  intro m0 t0 ht hr
  have g0 : t0.get 0 = v0 := ht 0
  clear ht
  unfold g61 at hr
  refine w_seq ?_
  refine w_ops ?_
  refine wo_step (v := (.i .i64 0)) (s_pure (p_mv rfl)) ?_
  refine wo_nil ?_
  refine nx_norm ?_
  refine w_seq ?_
  refine w_seq ?_
  refine w_ops ?_
  refine wo_step (v := v0) (s_pure (p_mv g0)) ?_
  have hq := bindO_inv hr
  clear hr
  obtain ⟨v6, e6, hr⟩ := hq
  have hq := asI_inv hr
  clear hr
  obtain ⟨x6, rfl, hr⟩ := hq
  refine wo_step (v := (.i .i64 x6)) (s_pure (o_len rfl e6)) ?_
  have hq := forceB_inv hr
  clear hr
  obtain ⟨c7, e7, hr⟩ := hq
  refine wo_step (v := (.b c7)) (s_pure (p_bin rfl rfl (b_gtr.trans (cb e7)))) ?_
  refine wo_nil ?_
  refine nx_norm ?_
  have hq := cond_inv hr
  clear hr
  rcases hq with ⟨rfl, hr⟩ | ⟨rfl, hr⟩
  · refine w_condT rfl ?_
    refine w_seq ?_
    refine w_ops ?_
    refine wo_step (v := (.i .i64 3)) (s_pure (p_mv rfl)) ?_
    refine wo_nil ?_
    refine nx_norm ?_
    refine w_ret ?_
    refine nx_ret ?_
    exact qf ret_ok (rt rfl rn) hr
  · refine w_condF rfl ?_
    refine w_skip ?_
    refine nx_norm ?_
    refine w_seq ?_
    refine w_seq ?_
    refine w_ops ?_
    refine wo_step (v := v0) (s_pure (p_mv g0)) ?_
    have hq := bindO_inv hr
    clear hr
    obtain ⟨v9, e9, hr⟩ := hq
    have hq := asI_inv hr
    clear hr
    obtain ⟨x9, rfl, hr⟩ := hq
    refine wo_step (v := (.i .i64 x9)) (s_pure (o_len rfl e9)) ?_
    refine wo_step (v := (.i .i64 0)) (s_pure (p_mv rfl)) ?_
    refine wo_nil ?_
    refine nx_norm ?_
    refine w_block ?_
    have hq := bindO_inv hr
    clear hr
    obtain ⟨o, hl, hr⟩ := hq
    obtain ⟨n, hl⟩ := hM.loop _ _ _ hl
    refine jp_mono (w_loop _ (g61_I0 v0 x9) (g61_J0 v0 x9) ?_ n _ _ _ _ hl ⟨rfl, gl rfl, gl rfl, gl rfl⟩) ?_
    · clear hr hl
      intro s mm_2 t_1 o hi hr
      obtain ⟨x10, m_1⟩ := s
      obtain ⟨rfl, g10, g8, g9⟩ := hi
      unfold g61_b0 at hr
      refine w_seq ?_
      refine w_ops ?_
      have hq := forceB_inv hr
      clear hr
      obtain ⟨c11, e11, hr⟩ := hq
      refine wo_step (v := (.b c11)) (s_pure (p_bin g10 g9 (b_lss.trans (cb e11)))) ?_
      refine wo_nil ?_
      refine nx_norm ?_
      refine w_seq ?_
      have hq := cond_inv hr
      clear hr
      rcases hq with ⟨rfl, hr⟩ | ⟨rfl, hr⟩
      · refine w_condT rfl ?_
        refine w_skip ?_
        refine nx_norm ?_
        refine w_seq ?_
        refine w_block ?_
        refine w_seq ?_
        refine w_ops ?_
        have hq := bindO_inv hr
        clear hr
        obtain ⟨v12, e12, hr⟩ := hq
        refine wo_step (v := v12) (s_pure (o_ixS g8 g10 e12)) ?_
        have hq := bindO_inv hr
        clear hr
        obtain ⟨v13, e13, hr⟩ := hq
        refine wo_step (v := v13) (s_ld rfl e13) ?_
        have hq := bindP_inv hr
        clear hr
        obtain ⟨v4, m_2, e4, hr⟩ := hq
        refine wo_step (v := v4) (s_al e4) ?_
        have hq := bindP_inv hr
        clear hr
        obtain ⟨vn, m_3, en, hr⟩ := hq
        refine wo_stepN (s_st rfl rfl en) ?_
        refine wo_nil ?_
        refine nx_norm ?_
        refine w_seq ?_
        refine w_ops ?_
        have hq := bindO_inv hr
        clear hr
        obtain ⟨v14, e14, hr⟩ := hq
        refine wo_step (v := v14) (s_pure (o_faddr rfl e14)) ?_
        have hq := bindO_inv hr
        clear hr
        obtain ⟨v15, e15, hr⟩ := hq
        have hq := asI_inv hr
        clear hr
        obtain ⟨x15, rfl, hr⟩ := hq
        refine wo_step (v := (.i .u8 x15)) (s_ld rfl e15) ?_
        have hq := bindP_inv hr
        clear hr
        obtain ⟨v16, m_4, e16, hr⟩ := hq
        have hq := asB_inv hr
        clear hr
        obtain ⟨c16, rfl, hr⟩ := hq
        refine wo_step (v := (.b c16)) (s_call (mc rfl mn) (callM_le hM.call e16)) ?_
        have hq := forceB_inv hr
        clear hr
        obtain ⟨c17, e17, hr⟩ := hq
        refine wo_step (v := (.b c17)) (s_pure ((p_not rfl).trans (cb e17))) ?_
        refine wo_nil ?_
        refine nx_norm ?_
        have hq := cond_inv hr
        clear hr
        rcases hq with ⟨rfl, hr⟩ | ⟨rfl, hr⟩
        · refine w_condT rfl ?_
          refine w_seq ?_
          refine w_ops ?_
          refine wo_step (v := (.i .i64 2)) (s_pure (p_mv rfl)) ?_
          refine wo_nil ?_
          refine nx_norm ?_
          refine w_ret ?_
          refine bk_ret ?_
          refine nx_ret ?_
          cases hr
          exact ⟨_, _, rfl, ne_norm_ret, rfl, rfl, gl rfl⟩
        · refine w_condF rfl ?_
          refine w_skip ?_
          refine bk_norm ?_
          refine nx_norm ?_
          refine w_ops ?_
          have hq := forceI_inv hr
          clear hr
          obtain ⟨x18, e18, hr⟩ := hq
          refine wo_step (v := (.i .i64 x18)) (s_pure (p_bin g10 rfl (b_add.trans (ci e18)))) ?_
          refine wo_step (v := (.i .i64 x18)) (s_pure (p_mv rfl)) ?_
          refine wo_nil ?_
          cases hr
          exact ⟨_, _, rfl, rfl, rfl, gl rfl, gl g8, gl g9⟩
      · refine w_condF rfl ?_
        refine w_exit ?_
        refine nx_exit ?_
        cases hr
        exact ⟨_, _, rfl, ne_norm_exit, rfl, rfl⟩
    · rcases o with o | o
      · obtain ⟨m_5, ho⟩ : ∃ z, z = o := ⟨_, rfl⟩
        subst ho
        rintro _ mm t_2 ⟨rfl, rfl⟩
        refine bk_hit ?_
        refine nx_norm ?_
        refine w_seq ?_
        refine w_ops ?_
        refine wo_step (v := (.i .i64 0)) (s_pure (p_mv rfl)) ?_
        refine wo_nil ?_
        refine nx_norm ?_
        refine w_ret ?_
        exact qf ret_ok (rt rfl rn) hr
      · obtain ⟨x2, m_6⟩ := o
        rintro _ mm_1 t_3 ⟨rfl, rfl, g2⟩
        refine bk_ret ?_
        refine nx_ret ?_
        exact qf ret_ok (rt g2 rn) hr

/- dibber/note.fits -/
abbrev g62_J0 (v2 : AVal) (o : Bool × Mm) (m1 : Mm) (t1 : Tr) : Prop :=
  match o with
  | (c17, m_3) => m_3 = m1 ∧ t1.get 17 = (.b c17) ∧ t1.get 2 = v2
abbrev g62_J1  (o : Bool × Mm) (m1 : Mm) (t1 : Tr) : Prop :=
  match o with
  | (c22, m_5) => m_5 = m1 ∧ t1.get 22 = (.b c22)
abbrev g62_J2 (v2 : AVal) (m_7 : Mm) (o : Bool) (m1 : Mm) (t1 : Tr) : Prop :=
  match o with
  | c34 => m_7 = m1 ∧ t1.get 34 = (.b c34) ∧ t1.get 2 = v2
abbrev g62_J3 (m_7 : Mm) (o : Bool) (m1 : Mm) (t1 : Tr) : Prop :=
  match o with
  | c39 => m_7 = m1 ∧ t1.get 39 = (.b c39)
def g62 (M : Means) (ro : List ABlk) (v0 : AVal) (x1 : Int) (m0 : Mm) : Option (AVal × Heap × Nat × Nat) :=
  bindP (stepM ro m0 (.bx 24 4 (.c v0))) fun v2 m_1 =>
  bindO (evP .e (.faddr 0 (.c v2))) fun v5 =>
  bindO (ldM ro m_1 true 1 v5) fun v6 =>
  asI .i64 v6 fun x6 =>
  forceB (eqI x6 1) fun c8 =>
  cond c8 (
    bindO (evP .e (.faddr 1 (.c v2))) fun v9 =>
    bindO (ldM ro m_1 true 1 v9) fun v10 =>
    asI .i64 v10 fun x10 =>
    bindP (callM M.call m_1 77 [(.i .i64 0), (.i .i64 x10), (.i .i64 x1)]) fun v12 m_2 =>
    asB v12 fun c12 =>
    bindO (cond c12 (
      bindO (evP .e (.faddr 2 (.c v2))) fun v14 =>
      bindO (ldM ro m_2 true 1 v14) fun v15 =>
      asI .u8 v15 fun x15 =>
      bindP (callM M.call m_2 76 [(.i .u8 x15)]) fun v16 m_4 =>
      asB v16 fun c16 =>
      some (c16, m_4)) (
      some (false, m_2))) fun ⟨c17, m_3⟩ =>
    bindO (cond c17 (
      bindO (evP .e (.faddr 3 (.c v2))) fun v19 =>
      bindO (ldM ro m_3 true 1 v19) fun v20 =>
      asI .i64 v20 fun x20 =>
      bindP (callM M.call m_3 77 [(.i .i64 0), (.i .i64 x20), (.i .i64 4)]) fun v21 m_6 =>
      asB v21 fun c21 =>
      some (c21, m_6)) (
      some (false, m_3))) fun ⟨c22, m_5⟩ =>
    finM m0.h.length (tupA [(.b c22)]) m_5) (
    forceB (eqI x6 2) fun c24 =>
    cond c24 (
      bindO (evP .e (.faddr 1 (.c v2))) fun v25 =>
      bindO (ldM ro m_1 true 1 v25) fun v26 =>
      asI .i64 v26 fun x26 =>
      forceI (wr .i64 (x1 - 1)) fun x28 =>
      bindP (callM M.call m_1 77 [(.i .i64 0), (.i .i64 x26), (.i .i64 x28)]) fun v29 m_7 =>
      asB v29 fun c29 =>
      bindO (cond c29 (
        bindO (evP .e (.faddr 2 (.c v2))) fun v31 =>
        bindO (ldM ro m_7 true 1 v31) fun v32 =>
        asI .u8 v32 fun x32 =>
        forceB (eqI x32 0) fun c33 =>
        some c33) (
        some false)) fun c34 =>
      bindO (cond c34 (
        bindO (evP .e (.faddr 3 (.c v2))) fun v36 =>
        bindO (ldM ro m_7 true 1 v36) fun v37 =>
        asI .i64 v37 fun x37 =>
        forceB (eqI x37 0) fun c38 =>
        some c38) (
        some false)) fun c39 =>
      finM m0.h.length (tupA [(.b c39)]) m_7) (
      bindO (ldM ro m_1 false 4 v2) fun v40 =>
      bindO ((fillA [(AVal.i IntKind.i64 0), (AVal.i IntKind.i64 0), (AVal.i IntKind.u8 0), (AVal.i IntKind.i64 0)] [((0, 1), (.i .i64 0))]).map AVal.agg) fun v41 =>
      bindO (evP .e (.seq false [(0, false), (1, false), (2, false), (3, false)] (.c v40) (.c v41))) fun v42 =>
      asB v42 fun c42 =>
      finM m0.h.length (tupA [(.b c42)]) m_1))

theorem g62_ok {ro : List ABlk} {O : Caller} {M : Means} (hM : M.Ok ⟨F, O⟩ ro) {v0 x1 h r} (ho : O 62 [v0, (.i .i64 x1)] h = none) (hr : g62 M ro v0 x1 ⟨h, h.length, h.length⟩ = some r) : callX ⟨F, O⟩ ro 62 [v0, (.i .i64 x1)] h = some r := by
  refine callX_of (F := ⟨F, O⟩) (fn := fn62) (g := g62 M ro v0 x1) ho rfl rfl hr ?_
  clear ho
  clear hr
  intro m0 t0 ht hr
  have g0 : t0.get 0 = v0 := ht 0
  have g1 : t0.get 1 = (.i .i64 x1) := ht 1
  clear ht
  unfold g62 at hr
  refine w_seq ?_
  refine w_ops ?_
  have hq := bindP_inv hr
  clear hr
  obtain ⟨v2, m_1, e2, hr⟩ := hq
  refine wo_step (v := v2) (s_bx g0 e2) ?_
  refine wo_step (v := (.b false)) (s_pure (p_mv rfl)) ?_
  refine wo_nil ?_
  refine nx_norm ?_
  refine w_seq ?_
  refine w_seq ?_
  refine w_ops ?_
  have hq := bindO_inv hr
  clear hr
  obtain ⟨v5, e5, hr⟩ := hq
  refine wo_step (v := v5) (s_pure (o_faddr rfl e5)) ?_
  have hq := bindO_inv hr
  clear hr
  obtain ⟨v6, e6, hr⟩ := hq
  have hq := asI_inv hr
  clear hr
  obtain ⟨x6, rfl, hr⟩ := hq
  refine wo_step (v := (.i .i64 x6)) (s_ld rfl e6) ?_
  refine wo_nil ?_
  refine nx_norm ?_
  refine w_block ?_
  refine w_seq ?_
  refine w_ops ?_
  have hq := forceB_inv hr
  clear hr
  obtain ⟨c8, e8, hr⟩ := hq
  refine wo_step (v := (.b c8)) (s_pure (p_bin rfl rfl (b_eql.trans (cb e8)))) ?_
  refine wo_step (v := (.b c8)) (s_pure (p_mv rfl)) ?_
  refine wo_nil ?_
  refine nx_norm ?_
  have hq := cond_inv hr
  clear hr
  rcases hq with ⟨rfl, hr⟩ | ⟨rfl, hr⟩
  · refine w_condT rfl ?_
    refine w_seq ?_
    refine w_ops ?_
    have hq := bindO_inv hr
    clear hr
    obtain ⟨v9, e9, hr⟩ := hq
    refine wo_step (v := v9) (s_pure (o_faddr rfl e9)) ?_
    have hq := bindO_inv hr
    clear hr
    obtain ⟨v10, e10, hr⟩ := hq
    have hq := asI_inv hr
    clear hr
    obtain ⟨x10, rfl, hr⟩ := hq
    refine wo_step (v := (.i .i64 x10)) (s_ld rfl e10) ?_
    refine wo_step (v := (.i .i64 x1)) (s_pure (p_mv g1)) ?_
    have hq := bindP_inv hr
    clear hr
    obtain ⟨v12, m_2, e12, hr⟩ := hq
    have hq := asB_inv hr
    clear hr
    obtain ⟨c12, rfl, hr⟩ := hq
    refine wo_step (v := (.b c12)) (s_call (mc rfl (mc rfl (mc rfl mn))) (callM_le hM.call e12)) ?_
    refine wo_step (v := (.b c12)) (s_pure (p_mv rfl)) ?_
    have hq := bindO_inv hr
    clear hr
    obtain ⟨o, hr, hk⟩ := hq
    refine wo_join 4 (g62_J0 v2 o) ?_ ?_
    · clear hk
      have hq := cond_inv hr
      clear hr
      rcases hq with ⟨rfl, hr⟩ | ⟨rfl, hr⟩
      · have hq := bindO_inv hr
        clear hr
        obtain ⟨v14, e14, hr⟩ := hq
        refine wo_take (v := v14) rfl (s_pure (o_faddr rfl e14)) ?_
        have hq := bindO_inv hr
        clear hr
        obtain ⟨v15, e15, hr⟩ := hq
        have hq := asI_inv hr
        clear hr
        obtain ⟨x15, rfl, hr⟩ := hq
        refine wo_take (v := (.i .u8 x15)) rfl (s_ld rfl e15) ?_
        have hq := bindP_inv hr
        clear hr
        obtain ⟨v16, m_4, e16, hr⟩ := hq
        have hq := asB_inv hr
        clear hr
        obtain ⟨c16, rfl, hr⟩ := hq
        refine wo_take (v := (.b c16)) rfl (s_call (mc rfl mn) (callM_le hM.call e16)) ?_
        refine wo_step (v := (.b c16)) (s_pure (p_pickT rfl rfl)) ?_
        refine wo_nil ?_
        cases hr
        exact ⟨_, _, rfl, rfl, gl rfl, gl rfl⟩
      · refine wo_skip (v := (.b false)) rfl rfl ?_
        refine wo_skip (v := (.b false)) rfl rfl ?_
        refine wo_skip (v := (.b false)) rfl rfl ?_
        refine wo_step (v := (.b false)) (s_pure (p_pickF rfl rfl)) ?_
        refine wo_nil ?_
        cases hr
        exact ⟨_, _, rfl, rfl, gl rfl, gl rfl⟩
    · clear hr
      have hr := hk
      clear hk
      obtain ⟨c17, m_3⟩ := o
      rintro mm t_1 ⟨rfl, g17, g2⟩
      refine wo_step (v := (.b c17)) (s_pure (p_mv g17)) ?_
      have hq := bindO_inv hr
      clear hr
      obtain ⟨o_1, hr, hk⟩ := hq
      refine wo_join 4 (g62_J1  o_1) ?_ ?_
      · clear hk
        have hq := cond_inv hr
        clear hr
        rcases hq with ⟨rfl, hr⟩ | ⟨rfl, hr⟩
        · have hq := bindO_inv hr
          clear hr
          obtain ⟨v19, e19, hr⟩ := hq
          refine wo_take (v := v19) rfl (s_pure (o_faddr g2 e19)) ?_
          have hq := bindO_inv hr
          clear hr
          obtain ⟨v20, e20, hr⟩ := hq
          have hq := asI_inv hr
          clear hr
          obtain ⟨x20, rfl, hr⟩ := hq
          refine wo_take (v := (.i .i64 x20)) rfl (s_ld rfl e20) ?_
          have hq := bindP_inv hr
          clear hr
          obtain ⟨v21, m_6, e21, hr⟩ := hq
          have hq := asB_inv hr
          clear hr
          obtain ⟨c21, rfl, hr⟩ := hq
          refine wo_take (v := (.b c21)) rfl (s_call (mc rfl (mc rfl (mc rfl mn))) (callM_le hM.call e21)) ?_
          refine wo_step (v := (.b c21)) (s_pure (p_pickT rfl rfl)) ?_
          refine wo_nil ?_
          cases hr
          exact ⟨_, _, rfl, rfl, gl rfl⟩
        · refine wo_skip (v := (.b false)) rfl rfl ?_
          refine wo_skip (v := (.b false)) rfl rfl ?_
          refine wo_skip (v := (.b false)) rfl rfl ?_
          refine wo_step (v := (.b false)) (s_pure (p_pickF rfl rfl)) ?_
          refine wo_nil ?_
          cases hr
          exact ⟨_, _, rfl, rfl, gl rfl⟩
      · clear hr
        have hr := hk
        clear hk
        obtain ⟨c22, m_5⟩ := o_1
        rintro mm_1 t_2 ⟨rfl, g22⟩
        refine wo_step (v := (.b c22)) (s_pure (p_mv g22)) ?_
        refine wo_nil ?_
        refine nx_norm ?_
        refine w_ret ?_
        refine bk_ret ?_
        refine nx_ret ?_
        exact qf ret_ok (rt rfl rn) hr
  · refine w_condF rfl ?_
    refine w_seq ?_
    refine w_ops ?_
    have hq := forceB_inv hr
    clear hr
    obtain ⟨c24, e24, hr⟩ := hq
    refine wo_step (v := (.b c24)) (s_pure (p_bin rfl rfl (b_eql.trans (cb e24)))) ?_
    refine wo_step (v := (.b c24)) (s_pure (p_mv rfl)) ?_
    refine wo_nil ?_
    refine nx_norm ?_
    have hq := cond_inv hr
    clear hr
    rcases hq with ⟨rfl, hr⟩ | ⟨rfl, hr⟩
    · refine w_condT rfl ?_
      refine w_seq ?_
      refine w_ops ?_
      have hq := bindO_inv hr
      clear hr
      obtain ⟨v25, e25, hr⟩ := hq
      refine wo_step (v := v25) (s_pure (o_faddr rfl e25)) ?_
      have hq := bindO_inv hr
      clear hr
      obtain ⟨v26, e26, hr⟩ := hq
      have hq := asI_inv hr
      clear hr
      obtain ⟨x26, rfl, hr⟩ := hq
      refine wo_step (v := (.i .i64 x26)) (s_ld rfl e26) ?_
      refine wo_step (v := (.i .i64 x1)) (s_pure (p_mv g1)) ?_
      have hq := forceI_inv hr
      clear hr
      obtain ⟨x28, e28, hr⟩ := hq
      refine wo_step (v := (.i .i64 x28)) (s_pure (p_bin rfl rfl (b_sub.trans (ci e28)))) ?_
      have hq := bindP_inv hr
      clear hr
      obtain ⟨v29, m_7, e29, hr⟩ := hq
      have hq := asB_inv hr
      clear hr
      obtain ⟨c29, rfl, hr⟩ := hq
      refine wo_step (v := (.b c29)) (s_call (mc rfl (mc rfl (mc rfl mn))) (callM_le hM.call e29)) ?_
      refine wo_step (v := (.b c29)) (s_pure (p_mv rfl)) ?_
      have hq := bindO_inv hr
      clear hr
      obtain ⟨o_2, hr, hk⟩ := hq
      refine wo_join 4 (g62_J2 v2 m_7 o_2) ?_ ?_
      · clear hk
        have hq := cond_inv hr
        clear hr
        rcases hq with ⟨rfl, hr⟩ | ⟨rfl, hr⟩
        · have hq := bindO_inv hr
          clear hr
          obtain ⟨v31, e31, hr⟩ := hq
          refine wo_take (v := v31) rfl (s_pure (o_faddr rfl e31)) ?_
          have hq := bindO_inv hr
          clear hr
          obtain ⟨v32, e32, hr⟩ := hq
          have hq := asI_inv hr
          clear hr
          obtain ⟨x32, rfl, hr⟩ := hq
          refine wo_take (v := (.i .u8 x32)) rfl (s_ld rfl e32) ?_
          have hq := forceB_inv hr
          clear hr
          obtain ⟨c33, e33, hr⟩ := hq
          refine wo_take (v := (.b c33)) rfl (s_pure (p_bin rfl rfl (b_eql.trans (cb e33)))) ?_
          refine wo_step (v := (.b c33)) (s_pure (p_pickT rfl rfl)) ?_
          refine wo_nil ?_
          cases hr
          exact ⟨_, _, rfl, rfl, gl rfl, gl rfl⟩
        · refine wo_skip (v := (.b false)) rfl rfl ?_
          refine wo_skip (v := (.b false)) rfl rfl ?_
          refine wo_skip (v := (.b false)) rfl rfl ?_
          refine wo_step (v := (.b false)) (s_pure (p_pickF rfl rfl)) ?_
          refine wo_nil ?_
          cases hr
          exact ⟨_, _, rfl, rfl, gl rfl, gl rfl⟩
      · clear hr
        have hr := hk
        clear hk
        obtain ⟨c34, ho⟩ : ∃ z, z = o_2 := ⟨_, rfl⟩
        subst ho
        rintro mm_2 t_3 ⟨rfl, g34, g2⟩
        refine wo_step (v := (.b c34)) (s_pure (p_mv g34)) ?_
        have hq := bindO_inv hr
        clear hr
        obtain ⟨o_3, hr, hk⟩ := hq
        refine wo_join 4 (g62_J3 m_7 o_3) ?_ ?_
        · clear hk
          have hq := cond_inv hr
          clear hr
          rcases hq with ⟨rfl, hr⟩ | ⟨rfl, hr⟩
          · have hq := bindO_inv hr
            clear hr
            obtain ⟨v36, e36, hr⟩ := hq
            refine wo_take (v := v36) rfl (s_pure (o_faddr g2 e36)) ?_
            have hq := bindO_inv hr
            clear hr
            obtain ⟨v37, e37, hr⟩ := hq
            have hq := asI_inv hr
            clear hr
            obtain ⟨x37, rfl, hr⟩ := hq
            refine wo_take (v := (.i .i64 x37)) rfl (s_ld rfl e37) ?_
            have hq := forceB_inv hr
            clear hr
            obtain ⟨c38, e38, hr⟩ := hq
            refine wo_take (v := (.b c38)) rfl (s_pure (p_bin rfl rfl (b_eql.trans (cb e38)))) ?_
            refine wo_step (v := (.b c38)) (s_pure (p_pickT rfl rfl)) ?_
            refine wo_nil ?_
            cases hr
            exact ⟨_, _, rfl, rfl, gl rfl⟩
          · refine wo_skip (v := (.b false)) rfl rfl ?_
            refine wo_skip (v := (.b false)) rfl rfl ?_
            refine wo_skip (v := (.b false)) rfl rfl ?_
            refine wo_step (v := (.b false)) (s_pure (p_pickF rfl rfl)) ?_
            refine wo_nil ?_
            cases hr
            exact ⟨_, _, rfl, rfl, gl rfl⟩
        · clear hr
          have hr := hk
          clear hk
          obtain ⟨c39, ho⟩ : ∃ z, z = o_3 := ⟨_, rfl⟩
          subst ho
          rintro mm_3 t_4 ⟨rfl, g39⟩
          refine wo_step (v := (.b c39)) (s_pure (p_mv g39)) ?_
          refine wo_nil ?_
          refine nx_norm ?_
          refine w_ret ?_
          refine bk_ret ?_
          refine nx_ret ?_
          exact qf ret_ok (rt rfl rn) hr
    · refine w_condF rfl ?_
      refine w_skip ?_
      refine bk_norm ?_
      refine nx_norm ?_
      refine w_seq ?_
      refine w_ops ?_
      have hq := bindO_inv hr
      clear hr
      obtain ⟨v40, e40, hr⟩ := hq
      refine wo_step (v := v40) (s_ld rfl e40) ?_
      have hq := bindO_inv hr
      clear hr
      obtain ⟨v41, e41, hr⟩ := hq
      refine wo_step (v := v41) (s_pure (o_build (qc rfl qn) e41)) ?_
      have hq := bindO_inv hr
      clear hr
      obtain ⟨v42, e42, hr⟩ := hq
      have hq := asB_inv hr
      clear hr
      obtain ⟨c42, rfl, hr⟩ := hq
      refine wo_step (v := (.b c42)) (s_pure (o_seq rfl rfl e42)) ?_
      refine wo_step (v := (.b c42)) (s_pure (p_mv rfl)) ?_
      refine wo_nil ?_
      refine nx_norm ?_
      refine w_ret ?_
      exact qf ret_ok (rt rfl rn) hr

/- dibber/note.after -/

def g63 (M : Means) (ro : List ABlk) (v0 : AVal) (v1 : AVal) (m0 : Mm) : Option (AVal × Heap × Nat × Nat) :=
  bindP (stepM ro m0 (.bx 24 4 (.c v1))) fun v3 m_1 =>
  bindO (evP .e (.faddr 0 (.c v3))) fun v8 =>
  bindO (ldM ro m_1 true 1 v8) fun v9 =>
  asI .i64 v9 fun x9 =>
  forceB (eqI x9 1) fun c11 =>
  cond c11 (
    bindO (evP .e (.len false (.c v0))) fun v13 =>
    asI .i64 v13 fun x13 =>
    forceB (eqI x13 300) fun c14 =>
    cond c14 (
      finM m0.h.length (tupA [AVal.nsl, (.i .i64 8)]) m_1) (
      bindO (some (Mm.base m_1)) fun m_2 =>
      bindO (evP .e (.faddr 1 (.c v3))) fun v16 =>
      bindO (ldA ro m_1.h true 1 v16) fun v17 =>
      asI .i64 v17 fun x17 =>
      bindO (evP .e (.faddr 1 (.c v3))) fun v18 =>
      bindO (ldA ro m_1.h true 1 v18) fun v19 =>
      asI .i64 v19 fun x19 =>
      bindO (evP .e (.slS 2 (.c v0) none (some (.c (.i .i64 x17))) (some (.c (.i .i64 x19))))) fun v20 =>
      bindO (evP .e (.faddr 2 (.c v3))) fun v21 =>
      bindO (ldM ro m_2 true 1 v21) fun v22 =>
      asI .u8 v22 fun x22 =>
      bindO ((fillA [(AVal.i IntKind.u8 0), (AVal.b false)] [((0, 1), (.i .u8 x22))]).map AVal.agg) fun v23 =>
      bindP (stepM ro m_2 (.bsl 31 2 [(AVal.i IntKind.u8 0), (AVal.b false)] 1 [((0, 2), .c v23)])) fun v24 m_3 =>
      chk (!Nat.blt m_3.lw m_1.h.length) <|
      bindP (stepM ro m_3 (.app 31 2 2 [(AVal.i IntKind.u8 0), (AVal.b false)] (.c v20) (.c v24))) fun v25 m_4 =>
      bindO (some (Mm.join m_1 m_4)) fun m_5 =>
      bindO (evP .e (.faddr 1 (.c v3))) fun v28 =>
      bindO (ldM ro m_5 true 1 v28) fun v29 =>
      asI .i64 v29 fun x29 =>
      bindO (evP .e (.slS 2 (.c v0) (some (.c (.i .i64 x29))) none none)) fun v30 =>
      bindP (stepM ro m_5 (.app 31 2 2 [(AVal.i IntKind.u8 0), (AVal.b false)] (.c v25) (.c v30))) fun v31 m_6 =>
      finM m0.h.length (tupA [v31, (.i .i64 0)]) m_6)) (
    forceB (eqI x9 2) fun c33 =>
    cond c33 (
      bindP (callM M.call m_1 64 [v0]) fun v35 m_7 =>
      bindO (evP .e (.faddr 1 (.c v3))) fun v37 =>
      bindO (ldM ro m_7 true 1 v37) fun v38 =>
      asI .i64 v38 fun x38 =>
      bindO (evP .e (.ixS 2 (.c v35) (.c (.i .i64 x38)))) fun v39 =>
      bindO (evP .e (.faddr 1 (.c v39))) fun v40 =>
      bindP (stepM ro m_7 (.st 1 (.c v40) (.c (.b true)))) fun vn m_8 =>
      finM m0.h.length (tupA [v35, (.i .i64 0)]) m_8) (
      bindP (callM M.call m_1 64 [v0]) fun v43 m_9 =>
      finM m0.h.length (tupA [v43, (.i .i64 0)]) m_9))

theorem g63_ok {ro : List ABlk} {O : Caller} {M : Means} (hM : M.Ok ⟨F, O⟩ ro) {v0 v1 h r} (ho : O 63 [v0, v1] h = none) (hr : g63 M ro v0 v1 ⟨h, h.length, h.length⟩ = some r) : callX ⟨F, O⟩ ro 63 [v0, v1] h = some r := by
  refine callX_of (F := ⟨F, O⟩) (fn := fn63) (g := g63 M ro v0 v1) ho rfl rfl hr ?_
  clear ho
  clear hr
  intro m0 t0 ht hr
  have g0 : t0.get 0 = v0 := ht 0
  have g1 : t0.get 1 = v1 := ht 1
  clear ht
  unfold g63 at hr
  refine w_seq ?_
  refine w_ops ?_
  have hq := bindP_inv hr
  clear hr
  obtain ⟨v3, m_1, e3, hr⟩ := hq
  refine wo_step (v := v3) (s_bx g1 e3) ?_
  refine wo_step (v := AVal.nsl) (s_pure (p_mv rfl)) ?_
  refine wo_step (v := (.i .i64 0)) (s_pure (p_mv rfl)) ?_
  refine wo_nil ?_
  refine nx_norm ?_
  refine w_seq ?_
  refine w_seq ?_
  refine w_ops ?_
  have hq := bindO_inv hr
  clear hr
  obtain ⟨v8, e8, hr⟩ := hq
  refine wo_step (v := v8) (s_pure (o_faddr rfl e8)) ?_
  have hq := bindO_inv hr
  clear hr
  obtain ⟨v9, e9, hr⟩ := hq
  have hq := asI_inv hr
  clear hr
  obtain ⟨x9, rfl, hr⟩ := hq
  refine wo_step (v := (.i .i64 x9)) (s_ld rfl e9) ?_
  refine wo_nil ?_
  refine nx_norm ?_
  refine w_block ?_
  refine w_seq ?_
  refine w_ops ?_
  have hq := forceB_inv hr
  clear hr
  obtain ⟨c11, e11, hr⟩ := hq
  refine wo_step (v := (.b c11)) (s_pure (p_bin rfl rfl (b_eql.trans (cb e11)))) ?_
  refine wo_step (v := (.b c11)) (s_pure (p_mv rfl)) ?_
  refine wo_nil ?_
  refine nx_norm ?_
  have hq := cond_inv hr
  clear hr
  rcases hq with ⟨rfl, hr⟩ | ⟨rfl, hr⟩
  · refine w_condT rfl ?_
    refine w_seq ?_
    refine w_seq ?_
    refine w_ops ?_
    refine wo_step (v := v0) (s_pure (p_mv g0)) ?_
    have hq := bindO_inv hr
    clear hr
    obtain ⟨v13, e13, hr⟩ := hq
    have hq := asI_inv hr
    clear hr
    obtain ⟨x13, rfl, hr⟩ := hq
    refine wo_step (v := (.i .i64 x13)) (s_pure (o_len rfl e13)) ?_
    have hq := forceB_inv hr
    clear hr
    obtain ⟨c14, e14, hr⟩ := hq
    refine wo_step (v := (.b c14)) (s_pure (p_bin rfl rfl (b_eql.trans (cb e14)))) ?_
    refine wo_nil ?_
    refine nx_norm ?_
    have hq := cond_inv hr
    clear hr
    rcases hq with ⟨rfl, hr⟩ | ⟨rfl, hr⟩
    · refine w_condT rfl ?_
      refine w_seq ?_
      refine w_ops ?_
      refine wo_step (v := AVal.nsl) (s_pure (p_mv rfl)) ?_
      refine wo_step (v := (.i .i64 8)) (s_pure (p_mv rfl)) ?_
      refine wo_nil ?_
      refine nx_norm ?_
      refine w_ret ?_
      refine nx_ret ?_
      refine bk_ret ?_
      refine nx_ret ?_
      exact qf ret_ok (rt rfl (rt rfl rn)) hr
    · refine w_condF rfl ?_
      refine w_skip ?_
      refine nx_norm ?_
      refine w_seq ?_
      have hq := bindO_inv hr
      clear hr
      obtain ⟨m_2, ef, hr⟩ := hq
      refine w_flt (af := true) rfl ef ?_
      refine wf_step (v := v0) (f_P rfl (s_pure (p_mv g0))) ?_
      have hq := bindO_inv hr
      clear hr
      obtain ⟨v16, e16, hr⟩ := hq
      refine wf_step (v := v16) (f_P rfl (s_pure (o_faddr rfl e16))) ?_
      have hq := bindO_inv hr
      clear hr
      obtain ⟨v17, e17, hr⟩ := hq
      have hq := asI_inv hr
      clear hr
      obtain ⟨x17, rfl, hr⟩ := hq
      refine wf_step (v := (.i .i64 x17)) (f_ld rfl e17) ?_
      have hq := bindO_inv hr
      clear hr
      obtain ⟨v18, e18, hr⟩ := hq
      refine wf_step (v := v18) (f_P rfl (s_pure (o_faddr rfl e18))) ?_
      have hq := bindO_inv hr
      clear hr
      obtain ⟨v19, e19, hr⟩ := hq
      have hq := asI_inv hr
      clear hr
      obtain ⟨x19, rfl, hr⟩ := hq
      refine wf_step (v := (.i .i64 x19)) (f_ld rfl e19) ?_
      have hq := bindO_inv hr
      clear hr
      obtain ⟨v20, e20, hr⟩ := hq
      refine wf_step (v := v20) (f_P rfl (s_pure (o_slS rfl on (os rfl) (os rfl) e20))) ?_
      have hq := bindO_inv hr
      clear hr
      obtain ⟨v21, e21, hr⟩ := hq
      refine wf_step (v := v21) (f_P rfl (s_pure (o_faddr rfl e21))) ?_
      have hq := bindO_inv hr
      clear hr
      obtain ⟨v22, e22, hr⟩ := hq
      have hq := asI_inv hr
      clear hr
      obtain ⟨x22, rfl, hr⟩ := hq
      refine wf_step (v := (.i .u8 x22)) (f_P rfl (s_ld rfl e22)) ?_
      have hq := bindO_inv hr
      clear hr
      obtain ⟨v23, e23, hr⟩ := hq
      refine wf_step (v := v23) (f_P rfl (s_pure (o_build (qc rfl qn) e23))) ?_
      have hq := bindP_inv hr
      clear hr
      obtain ⟨v24, m_3, e24, hr⟩ := hq
      have hq := chk_inv hr
      clear hr
      obtain ⟨hc24, hr⟩ := hq
      refine wf_step (v := v24) (f_M hc24 (s_bsl (qc rfl qn) e24)) ?_
      have hq := bindP_inv hr
      clear hr
      obtain ⟨v25, m_4, e25, hr⟩ := hq
      refine wf_step (v := v25) (f_F rfl (s_app rfl rfl e25)) ?_
      refine wf_step (v := v25) (f_P rfl (s_pure (p_mv rfl))) ?_
      have hq := bindO_inv hr
      clear hr
      obtain ⟨m_5, ef_1, hr⟩ := hq
      refine wf_end ef_1 ?_
      refine nx_norm ?_
      refine w_seq ?_
      refine w_ops ?_
      refine wo_step (v := v25) (s_pure (p_mv rfl)) ?_
      refine wo_step (v := v0) (s_pure (p_mv g0)) ?_
      have hq := bindO_inv hr
      clear hr
      obtain ⟨v28, e28, hr⟩ := hq
      refine wo_step (v := v28) (s_pure (o_faddr rfl e28)) ?_
      have hq := bindO_inv hr
      clear hr
      obtain ⟨v29, e29, hr⟩ := hq
      have hq := asI_inv hr
      clear hr
      obtain ⟨x29, rfl, hr⟩ := hq
      refine wo_step (v := (.i .i64 x29)) (s_ld rfl e29) ?_
      have hq := bindO_inv hr
      clear hr
      obtain ⟨v30, e30, hr⟩ := hq
      refine wo_step (v := v30) (s_pure (o_slS rfl (os rfl) on on e30)) ?_
      have hq := bindP_inv hr
      clear hr
      obtain ⟨v31, m_6, e31, hr⟩ := hq
      refine wo_step (v := v31) (s_app rfl rfl e31) ?_
      refine wo_step (v := v31) (s_pure (p_mv rfl)) ?_
      refine wo_step (v := (.i .i64 0)) (s_pure (p_mv rfl)) ?_
      refine wo_nil ?_
      refine nx_norm ?_
      refine w_ret ?_
      refine bk_ret ?_
      refine nx_ret ?_
      exact qf ret_ok (rt rfl (rt rfl rn)) hr
  · refine w_condF rfl ?_
    refine w_seq ?_
    refine w_ops ?_
    have hq := forceB_inv hr
    clear hr
    obtain ⟨c33, e33, hr⟩ := hq
    refine wo_step (v := (.b c33)) (s_pure (p_bin rfl rfl (b_eql.trans (cb e33)))) ?_
    refine wo_step (v := (.b c33)) (s_pure (p_mv rfl)) ?_
    refine wo_nil ?_
    refine nx_norm ?_
    have hq := cond_inv hr
    clear hr
    rcases hq with ⟨rfl, hr⟩ | ⟨rfl, hr⟩
    · refine w_condT rfl ?_
      refine w_seq ?_
      refine w_ops ?_
      refine wo_step (v := v0) (s_pure (p_mv g0)) ?_
      have hq := bindP_inv hr
      clear hr
      obtain ⟨v35, m_7, e35, hr⟩ := hq
      refine wo_step (v := v35) (s_call (mc rfl mn) (callM_le hM.call e35)) ?_
      refine wo_step (v := v35) (s_pure (p_mv rfl)) ?_
      refine wo_nil ?_
      refine nx_norm ?_
      refine w_seq ?_
      refine w_ops ?_
      refine wo_step (v := v35) (s_pure (p_mv rfl)) ?_
      have hq := bindO_inv hr
      clear hr
      obtain ⟨v37, e37, hr⟩ := hq
      refine wo_step (v := v37) (s_pure (o_faddr rfl e37)) ?_
      have hq := bindO_inv hr
      clear hr
      obtain ⟨v38, e38, hr⟩ := hq
      have hq := asI_inv hr
      clear hr
      obtain ⟨x38, rfl, hr⟩ := hq
      refine wo_step (v := (.i .i64 x38)) (s_ld rfl e38) ?_
      have hq := bindO_inv hr
      clear hr
      obtain ⟨v39, e39, hr⟩ := hq
      refine wo_step (v := v39) (s_pure (o_ixS rfl rfl e39)) ?_
      have hq := bindO_inv hr
      clear hr
      obtain ⟨v40, e40, hr⟩ := hq
      refine wo_step (v := v40) (s_pure (o_faddr rfl e40)) ?_
      have hq := bindP_inv hr
      clear hr
      obtain ⟨vn, m_8, en, hr⟩ := hq
      refine wo_stepN (s_st rfl rfl en) ?_
      refine wo_nil ?_
      refine nx_norm ?_
      refine w_seq ?_
      refine w_ops ?_
      refine wo_step (v := v35) (s_pure (p_mv rfl)) ?_
      refine wo_step (v := v35) (s_pure (p_mv rfl)) ?_
      refine wo_step (v := (.i .i64 0)) (s_pure (p_mv rfl)) ?_
      refine wo_nil ?_
      refine nx_norm ?_
      refine w_ret ?_
      refine bk_ret ?_
      refine nx_ret ?_
      exact qf ret_ok (rt rfl (rt rfl rn)) hr
    · refine w_condF rfl ?_
      refine w_skip ?_
      refine bk_norm ?_
      refine nx_norm ?_
      refine w_seq ?_
      refine w_ops ?_
      refine wo_step (v := v0) (s_pure (p_mv g0)) ?_
      have hq := bindP_inv hr
      clear hr
      obtain ⟨v43, m_9, e43, hr⟩ := hq
      refine wo_step (v := v43) (s_call (mc rfl mn) (callM_le hM.call e43)) ?_
      refine wo_step (v := v43) (s_pure (p_mv rfl)) ?_
      refine wo_step (v := (.i .i64 0)) (s_pure (p_mv rfl)) ?_
      refine wo_nil ?_
      refine nx_norm ?_
      refine w_ret ?_
      exact qf ret_ok (rt rfl (rt rfl rn)) hr

/- dibber/note.copied -/

def g64 (M : Means) (ro : List ABlk) (v0 : AVal) (m0 : Mm) : Option (AVal × Heap × Nat × Nat) :=
  bindO (evP .e (.len false (.c v0))) fun v5 =>
  asI .i64 v5 fun x5 =>
  bindP (stepM ro m0 (.mk 31 2 2 [(AVal.i IntKind.u8 0), (AVal.b false)] (.c (.i .i64 x5)) (.c (.i .i64 x5)))) fun v6 m_1 =>
  bindP (stepM ro m_1 (.cpy 2 (.c v6) (.c v0))) fun v9 m_2 =>
  asI .i64 v9 fun x9 =>
  finM m0.h.length (tupA [v6]) m_2

theorem g64_ok {ro : List ABlk} {O : Caller} {M : Means} (hM : M.Ok ⟨F, O⟩ ro) {v0 h r} (ho : O 64 [v0] h = none) (hr : g64 M ro v0 ⟨h, h.length, h.length⟩ = some r) : callX ⟨F, O⟩ ro 64 [v0] h = some r := by
  refine callX_of (F := ⟨F, O⟩) (fn := fn64) (g := g64 M ro v0) ho rfl rfl hr ?_
  clear ho
  clear hr
  intro m0 t0 ht hr
  have g0 : t0.get 0 = v0 := ht 0
  clear ht
  unfold g64 at hr
  refine w_seq ?_
  refine w_ops ?_
  refine wo_step (v := AVal.nsl) (s_pure (p_mv rfl)) ?_
  refine wo_nil ?_
  refine nx_norm ?_
  refine w_seq ?_
  refine w_ops ?_
  refine wo_step (v := v0) (s_pure (p_mv g0)) ?_
  have hq := bindO_inv hr
  clear hr
  obtain ⟨v5, e5, hr⟩ := hq
  have hq := asI_inv hr
  clear hr
  obtain ⟨x5, rfl, hr⟩ := hq
  refine wo_step (v := (.i .i64 x5)) (s_pure (o_len rfl e5)) ?_
  have hq := bindP_inv hr
  clear hr
  obtain ⟨v6, m_1, e6, hr⟩ := hq
  refine wo_step (v := v6) (s_mk rfl rfl e6) ?_
  refine wo_step (v := v6) (s_pure (p_mv rfl)) ?_
  refine wo_nil ?_
  refine nx_norm ?_
  refine w_seq ?_
  refine w_ops ?_
  refine wo_step (v := v6) (s_pure (p_mv rfl)) ?_
  refine wo_step (v := v0) (s_pure (p_mv g0)) ?_
  have hq := bindP_inv hr
  clear hr
  obtain ⟨v9, m_2, e9, hr⟩ := hq
  have hq := asI_inv hr
  clear hr
  obtain ⟨x9, rfl, hr⟩ := hq
  refine wo_step (v := (.i .i64 x9)) (s_cpy rfl rfl e9) ?_
  refine wo_nil ?_
  refine nx_norm ?_
  refine w_seq ?_
  refine w_ops ?_
  refine wo_step (v := v6) (s_pure (p_mv rfl)) ?_
  refine wo_step (v := v6) (s_pure (p_mv rfl)) ?_
  refine wo_nil ?_
  refine nx_norm ?_
  refine w_ret ?_
  exact qf ret_ok (rt rfl rn) hr

/- dibber/note.turned -/

def g66 (M : Means) (ro : List ABlk) (v0 : AVal) (v1 : AVal) (m0 : Mm) : Option (AVal × Heap × Nat × Nat) :=
  bindP (stepM ro m0 (.bx 24 4 (.c v0))) fun v2 m_1 =>
  bindP (stepM ro m_1 (.bx 24 4 (.c v1))) fun v3 m_2 =>
  bindP (stepM ro m_2 (.al 24 [(AVal.i IntKind.i64 0), (AVal.i IntKind.i64 0), (AVal.i IntKind.u8 0), (AVal.i IntKind.i64 0)])) fun v4 m_3 =>
  bindO (some (Mm.base m_3)) fun m_4 =>
  bindP (callM M.call m_4 92 []) fun v5 m_5 =>
  chk (!Nat.blt m_5.lw m_3.h.length) <|
  bindO (evP .e (.faddr 0 (.c v2))) fun v6 =>
  bindO (ldA ro m_3.h true 1 v6) fun v7 =>
  asI .i64 v7 fun x7 =>
  bindO (evP .e (.ixV 3 3 false (.c v5) (.c (.i .i64 x7)))) fun v8 =>
  bindO (evP .e (.faddr 0 (.c v3))) fun v9 =>
  bindO (ldA ro m_3.h true 1 v9) fun v10 =>
  asI .i64 v10 fun x10 =>
  bindO (evP .e (.ixV 3 1 true (.c v8) (.c (.i .i64 x10)))) fun v11 =>
  bindO (ldA ro m_3.h false 4 v2) fun v12 =>
  bindO (ldA ro m_3.h false 4 v3) fun v13 =>
  bindP (callvM M.call m_5 v11 [v12, v13]) fun v14 m_6 =>
  bindP (stepM ro m_6 (.st 4 (.c v4) (.c v14))) fun vn m_7 =>
  bindO (some (Mm.join m_3 m_7)) fun m_8 =>
  bindO (ldM ro m_8 false 4 v4) fun vr =>
  finM m0.h.length (tupA [vr]) m_8

theorem g66_ok {ro : List ABlk} {O : Caller} {M : Means} (hM : M.Ok ⟨F, O⟩ ro) {v0 v1 h r} (ho : O 66 [v0, v1] h = none) (hr : g66 M ro v0 v1 ⟨h, h.length, h.length⟩ = some r) : callX ⟨F, O⟩ ro 66 [v0, v1] h = some r := by
  refine callX_of (F := ⟨F, O⟩) (fn := fn66) (g := g66 M ro v0 v1) ho rfl rfl hr ?_
  clear ho
  clear hr
  intro m0 t0 ht hr
  have g0 : t0.get 0 = v0 := ht 0
  have g1 : t0.get 1 = v1 := ht 1
  clear ht
  unfold g66 at hr
  refine w_seq ?_
  refine w_ops ?_
  have hq := bindP_inv hr
  clear hr
  obtain ⟨v2, m_1, e2, hr⟩ := hq
  refine wo_step (v := v2) (s_bx g0 e2) ?_
  have hq := bindP_inv hr
  clear hr
  obtain ⟨v3, m_2, e3, hr⟩ := hq
  refine wo_step (v := v3) (s_bx g1 e3) ?_
  have hq := bindP_inv hr
  clear hr
  obtain ⟨v4, m_3, e4, hr⟩ := hq
  refine wo_step (v := v4) (s_al e4) ?_
  refine wo_nil ?_
  refine nx_norm ?_
  refine w_seq ?_
  have hq := bindO_inv hr
  clear hr
  obtain ⟨m_4, ef, hr⟩ := hq
  refine w_flt (af := true) rfl ef ?_
  have hq := bindP_inv hr
  clear hr
  obtain ⟨v5, m_5, e5, hr⟩ := hq
  have hq := chk_inv hr
  clear hr
  obtain ⟨hc5, hr⟩ := hq
  refine wf_step (v := v5) (f_M hc5 (s_call mn (callM_le hM.call e5))) ?_
  have hq := bindO_inv hr
  clear hr
  obtain ⟨v6, e6, hr⟩ := hq
  refine wf_step (v := v6) (f_P rfl (s_pure (o_faddr rfl e6))) ?_
  have hq := bindO_inv hr
  clear hr
  obtain ⟨v7, e7, hr⟩ := hq
  have hq := asI_inv hr
  clear hr
  obtain ⟨x7, rfl, hr⟩ := hq
  refine wf_step (v := (.i .i64 x7)) (f_ld rfl e7) ?_
  have hq := bindO_inv hr
  clear hr
  obtain ⟨v8, e8, hr⟩ := hq
  refine wf_step (v := v8) (f_P rfl (s_pure (o_ixV rfl rfl e8))) ?_
  have hq := bindO_inv hr
  clear hr
  obtain ⟨v9, e9, hr⟩ := hq
  refine wf_step (v := v9) (f_P rfl (s_pure (o_faddr rfl e9))) ?_
  have hq := bindO_inv hr
  clear hr
  obtain ⟨v10, e10, hr⟩ := hq
  have hq := asI_inv hr
  clear hr
  obtain ⟨x10, rfl, hr⟩ := hq
  refine wf_step (v := (.i .i64 x10)) (f_ld rfl e10) ?_
  have hq := bindO_inv hr
  clear hr
  obtain ⟨v11, e11, hr⟩ := hq
  refine wf_step (v := v11) (f_P rfl (s_pure (o_ixV rfl rfl e11))) ?_
  have hq := bindO_inv hr
  clear hr
  obtain ⟨v12, e12, hr⟩ := hq
  refine wf_step (v := v12) (f_ld rfl e12) ?_
  have hq := bindO_inv hr
  clear hr
  obtain ⟨v13, e13, hr⟩ := hq
  refine wf_step (v := v13) (f_ld rfl e13) ?_
  have hq := bindP_inv hr
  clear hr
  obtain ⟨v14, m_6, e14, hr⟩ := hq
  refine wf_step (v := v14) (f_F rfl (s_callv rfl (mc rfl (mc rfl mn)) (callvM_le hM.call e14))) ?_
  have hq := bindP_inv hr
  clear hr
  obtain ⟨vn, m_7, en, hr⟩ := hq
  refine wf_stepN (f_F rfl (s_st rfl rfl en)) ?_
  have hq := bindO_inv hr
  clear hr
  obtain ⟨m_8, ef_1, hr⟩ := hq
  refine wf_end ef_1 ?_
  refine nx_norm ?_
  refine w_ret ?_
  have hq := bindO_inv hr
  clear hr
  obtain ⟨vr, er, hr⟩ := hq
  exact qf ret_ok (rc rfl er rn) hr

/- dibber/dibberref07.turn -/
abbrev g67_J0 (v2 : AVal) (v3 : AVal) (v4 : AVal) (m_3 : Mm) (o : Bool) (m1 : Mm) (t1 : Tr) : Prop :=
  match o with
  | c13 => m_3 = m1 ∧ t1.get 13 = (.b c13) ∧ t1.get 2 = v2 ∧ t1.get 3 = v3 ∧ t1.get 4 = v4
abbrev g67_J1 (v2 : AVal) (v4 : AVal) (m_3 : Mm) (o : Bool) (e : AExit) (m1 : Mm) (t1 : Tr) : Prop :=
  match o with
  | y5 => e = .norm ∧ m_3 = m1 ∧ t1.get 5 = (.b y5) ∧ t1.get 2 = v2 ∧ t1.get 4 = v4
abbrev g67_J2 (v2 : AVal) (v3 : AVal) (v4 : AVal) (m_3 : Mm) (o : Bool) (m1 : Mm) (t1 : Tr) : Prop :=
  match o with
  | c34 => m_3 = m1 ∧ t1.get 34 = (.b c34) ∧ t1.get 2 = v2 ∧ t1.get 3 = v3 ∧ t1.get 4 = v4
abbrev g67_J3 (v2 : AVal) (v4 : AVal) (m_3 : Mm) (o : Bool) (m1 : Mm) (t1 : Tr) : Prop :=
  match o with
  | c48 => m_3 = m1 ∧ t1.get 48 = (.b c48) ∧ t1.get 2 = v2 ∧ t1.get 4 = v4
abbrev g67_J4 (v2 : AVal) (v4 : AVal) (m_3 : Mm) (o : Bool) (m1 : Mm) (t1 : Tr) : Prop :=
  match o with
  | c48_1 => m_3 = m1 ∧ t1.get 48 = (.b c48_1) ∧ t1.get 2 = v2 ∧ t1.get 4 = v4
abbrev g67_J5 (v2 : AVal) (v4 : AVal) (o : Mm) (e : AExit) (m1 : Mm) (t1 : Tr) : Prop :=
  match o with
  | mo => e = .norm ∧ mo = m1 ∧ t1.get 2 = v2 ∧ t1.get 4 = v4
def g67 (M : Means) (ro : List ABlk) (v0 : AVal) (v1 : AVal) (m0 : Mm) : Option (AVal × Heap × Nat × Nat) :=
  bindP (stepM ro m0 (.bx 24 4 (.c v0))) fun v2 m_1 =>
  bindP (stepM ro m_1 (.bx 24 4 (.c v1))) fun v3 m_2 =>
  bindP (stepM ro m_2 (.al 24 [(AVal.i IntKind.i64 0), (AVal.i IntKind.i64 0), (AVal.i IntKind.u8 0), (AVal.i IntKind.i64 0)])) fun v4 m_3 =>
  bindO (evP .e (.faddr 0 (.c v3))) fun v6 =>
  bindO (ldM ro m_3 true 1 v6) fun v7 =>
  asI .i64 v7 fun x7 =>
  forceB (!eqI x7 1) fun c8 =>
  bindO (cond c8 (
    some true) (
    bindO (evP .e (.faddr 0 (.c v2))) fun v10 =>
    bindO (ldM ro m_3 true 1 v10) fun v11 =>
    asI .i64 v11 fun x11 =>
    forceB (eqI x11 0) fun c12 =>
    some c12)) fun c13 =>
  cond c13 (
    bindO (ldM ro m_3 false 4 v2) fun v14 =>
    bindP (stepM ro m_3 (.st 4 (.c v4) (.c v14))) fun vn m_4 =>
    bindO (ldM ro m_4 false 4 v4) fun vr =>
    finM m0.h.length (tupA [vr]) m_4) (
    bindO (evP .e (.faddr 1 (.c v3))) fun v15 =>
    bindO (ldM ro m_3 true 1 v15) fun v16 =>
    asI .i64 v16 fun x16 =>
    bindO (evP .e (.faddr 1 (.c v2))) fun v17 =>
    bindO (ldM ro m_3 true 1 v17) fun v18 =>
    asI .i64 v18 fun x18 =>
    forceB (ltI x16 x18) fun c19 =>
    bindO (evP .e (.faddr 1 (.c v3))) fun v20 =>
    bindO (ldM ro m_3 true 1 v20) fun v21 =>
    asI .i64 v21 fun x21 =>
    bindO (evP .e (.faddr 1 (.c v2))) fun v22 =>
    bindO (ldM ro m_3 true 1 v22) fun v23 =>
    asI .i64 v23 fun x23 =>
    forceB (eqI x21 x23) fun c24 =>
    bindO (α := Bool) (
      cond c24 (
        bindO (evP .e (.faddr 0 (.c v2))) fun v25 =>
        bindO (ldM ro m_3 true 1 v25) fun v26 =>
        asI .i64 v26 fun x26 =>
        forceB (eqI x26 2) fun c27 =>
        bindO (cond c27 (
          some true) (
          bindO (evP .e (.faddr 3 (.c v3))) fun v29 =>
          bindO (ldM ro m_3 true 1 v29) fun v30 =>
          asI .i64 v30 fun x30 =>
          bindO (evP .e (.faddr 3 (.c v2))) fun v31 =>
          bindO (ldM ro m_3 true 1 v31) fun v32 =>
          asI .i64 v32 fun x32 =>
          forceB (ltI x30 x32) fun c33 =>
          some c33)) fun c34 =>
        bindO (cond c34 (
          some true) (
          bindO (evP .e (.faddr 3 (.c v3))) fun v36 =>
          bindO (ldM ro m_3 true 1 v36) fun v37 =>
          asI .i64 v37 fun x37 =>
          bindO (evP .e (.faddr 3 (.c v2))) fun v38 =>
          bindO (ldM ro m_3 true 1 v38) fun v39 =>
          asI .i64 v39 fun x39 =>
          forceB (eqI x37 x39) fun c40 =>
          bindO (cond c40 (
            bindO (evP .e (.faddr 2 (.c v2))) fun v42 =>
            bindO (ldM ro m_3 true 1 v42) fun v43 =>
            asI .u8 v43 fun x43 =>
            bindO (evP .e (.faddr 2 (.c v3))) fun v44 =>
            bindO (ldM ro m_3 true 1 v44) fun v45 =>
            asI .u8 v45 fun x45 =>
            forceB (ltI x45 x43) fun c46 =>
            some c46) (
            some false)) fun c48_1 =>
          some c48_1)) fun c48 =>
        some c48) (
        some c19)) fun c5 =>
    bindO (α := Mm) (
      cond c5 (
        bindO (evP .e (.faddr 1 (.c v2))) fun v50 =>
        bindO (ldM ro m_3 true 1 v50) fun v51 =>
        asI .i64 v51 fun x51 =>
        forceI (wr .i64 (x51 + 1)) fun x52 =>
        bindO (evP .e (.faddr 1 (.c v2))) fun v53 =>
        bindP (stepM ro m_3 (.st 1 (.c v53) (.c (.i .i64 x52)))) fun vn_1 m_5 =>
        some m_5) (
        some m_3)) fun m_6 =>
    bindO (ldM ro m_6 false 4 v2) fun v54 =>
    bindP (stepM ro m_6 (.st 4 (.c v4) (.c v54))) fun vn_2 m_7 =>
    bindO (ldM ro m_7 false 4 v4) fun vr_1 =>
    finM m0.h.length (tupA [vr_1]) m_7)

theorem g67_ok {ro : List ABlk} {O : Caller} {M : Means} (hM : M.Ok ⟨F, O⟩ ro) {v0 v1 h r} (ho : O 67 [v0, v1] h = none) (hr : g67 M ro v0 v1 ⟨h, h.length, h.length⟩ = some r) : callX ⟨F, O⟩ ro 67 [v0, v1] h = some r := by
  refine callX_of (F := ⟨F, O⟩) (fn := fn67) (g := g67 M ro v0 v1) ho rfl rfl hr ?_
  clear ho
  clear hr
  intro m0 t0 ht hr
  have g0 : t0.get 0 = v0 := ht 0
  have g1 : t0.get 1 = v1 := ht 1
  clear ht
  unfold g67 at hr
  refine w_seq ?_
  refine w_ops ?_
  have hq := bindP_inv hr
  clear hr
  obtain ⟨v2, m_1, e2, hr⟩ := hq
  refine wo_step (v := v2) (s_bx g0 e2) ?_
  have hq := bindP_inv hr
  clear hr
  obtain ⟨v3, m_2, e3, hr⟩ := hq
  refine wo_step (v := v3) (s_bx g1 e3) ?_
  have hq := bindP_inv hr
  clear hr
  obtain ⟨v4, m_3, e4, hr⟩ := hq
  refine wo_step (v := v4) (s_al e4) ?_
  refine wo_nil ?_
  refine nx_norm ?_
  refine w_seq ?_
  refine w_seq ?_
  refine w_ops ?_
  have hq := bindO_inv hr
  clear hr
  obtain ⟨v6, e6, hr⟩ := hq
  refine wo_step (v := v6) (s_pure (o_faddr rfl e6)) ?_
  have hq := bindO_inv hr
  clear hr
  obtain ⟨v7, e7, hr⟩ := hq
  have hq := asI_inv hr
  clear hr
  obtain ⟨x7, rfl, hr⟩ := hq
  refine wo_step (v := (.i .i64 x7)) (s_ld rfl e7) ?_
  have hq := forceB_inv hr
  clear hr
  obtain ⟨c8, e8, hr⟩ := hq
  refine wo_step (v := (.b c8)) (s_pure (p_bin rfl rfl (b_neq.trans (cb e8)))) ?_
  refine wo_step (v := (.b c8)) (s_pure (p_mv rfl)) ?_
  have hq := bindO_inv hr
  clear hr
  obtain ⟨o, hr, hk⟩ := hq
  refine wo_join 4 (g67_J0 v2 v3 v4 m_3 o) ?_ ?_
  · clear hk
    have hq := cond_inv hr
    clear hr
    rcases hq with ⟨rfl, hr⟩ | ⟨rfl, hr⟩
    · refine wo_skip (v := (.b true)) rfl rfl ?_
      refine wo_skip (v := (.b true)) rfl rfl ?_
      refine wo_skip (v := (.b true)) rfl rfl ?_
      refine wo_step (v := (.b true)) (s_pure (p_pickT rfl rfl)) ?_
      refine wo_nil ?_
      cases hr
      exact ⟨_, _, rfl, rfl, gl rfl, gl rfl, gl rfl, gl rfl⟩
    · have hq := bindO_inv hr
      clear hr
      obtain ⟨v10, e10, hr⟩ := hq
      refine wo_take (v := v10) rfl (s_pure (o_faddr rfl e10)) ?_
      have hq := bindO_inv hr
      clear hr
      obtain ⟨v11, e11, hr⟩ := hq
      have hq := asI_inv hr
      clear hr
      obtain ⟨x11, rfl, hr⟩ := hq
      refine wo_take (v := (.i .i64 x11)) rfl (s_ld rfl e11) ?_
      have hq := forceB_inv hr
      clear hr
      obtain ⟨c12, e12, hr⟩ := hq
      refine wo_take (v := (.b c12)) rfl (s_pure (p_bin rfl rfl (b_eql.trans (cb e12)))) ?_
      refine wo_step (v := (.b c12)) (s_pure (p_pickF rfl rfl)) ?_
      refine wo_nil ?_
      cases hr
      exact ⟨_, _, rfl, rfl, gl rfl, gl rfl, gl rfl, gl rfl⟩
  · clear hr
    have hr := hk
    clear hk
    obtain ⟨c13, ho⟩ : ∃ z, z = o := ⟨_, rfl⟩
    subst ho
    rintro mm t_1 ⟨rfl, g13, g2, g3, g4⟩
    refine wo_nil ?_
    refine nx_norm ?_
    have hq := cond_inv hr
    clear hr
    rcases hq with ⟨rfl, hr⟩ | ⟨rfl, hr⟩
    · refine w_condT g13 ?_
      refine w_seq ?_
      refine w_ops ?_
      have hq := bindO_inv hr
      clear hr
      obtain ⟨v14, e14, hr⟩ := hq
      refine wo_step (v := v14) (s_ld g2 e14) ?_
      have hq := bindP_inv hr
      clear hr
      obtain ⟨vn, m_4, en, hr⟩ := hq
      refine wo_stepN (s_st g4 rfl en) ?_
      refine wo_nil ?_
      refine nx_norm ?_
      refine w_ret ?_
      refine nx_ret ?_
      have hq := bindO_inv hr
      clear hr
      obtain ⟨vr, er, hr⟩ := hq
      exact qf ret_ok (rc g4 er rn) hr
    · refine w_condF g13 ?_
      refine w_skip ?_
      refine nx_norm ?_
      refine w_seq ?_
      refine w_ops ?_
      have hq := bindO_inv hr
      clear hr
      obtain ⟨v15, e15, hr⟩ := hq
      refine wo_step (v := v15) (s_pure (o_faddr g3 e15)) ?_
      have hq := bindO_inv hr
      clear hr
      obtain ⟨v16, e16, hr⟩ := hq
      have hq := asI_inv hr
      clear hr
      obtain ⟨x16, rfl, hr⟩ := hq
      refine wo_step (v := (.i .i64 x16)) (s_ld rfl e16) ?_
      have hq := bindO_inv hr
      clear hr
      obtain ⟨v17, e17, hr⟩ := hq
      refine wo_step (v := v17) (s_pure (o_faddr g2 e17)) ?_
      have hq := bindO_inv hr
      clear hr
      obtain ⟨v18, e18, hr⟩ := hq
      have hq := asI_inv hr
      clear hr
      obtain ⟨x18, rfl, hr⟩ := hq
      refine wo_step (v := (.i .i64 x18)) (s_ld rfl e18) ?_
      have hq := forceB_inv hr
      clear hr
      obtain ⟨c19, e19, hr⟩ := hq
      refine wo_step (v := (.b c19)) (s_pure (p_bin rfl rfl (b_lss.trans (cb e19)))) ?_
      refine wo_step (v := (.b c19)) (s_pure (p_mv rfl)) ?_
      refine wo_nil ?_
      refine nx_norm ?_
      refine w_seq ?_
      refine w_seq ?_
      refine w_ops ?_
      have hq := bindO_inv hr
      clear hr
      obtain ⟨v20, e20, hr⟩ := hq
      refine wo_step (v := v20) (s_pure (o_faddr g3 e20)) ?_
      have hq := bindO_inv hr
      clear hr
      obtain ⟨v21, e21, hr⟩ := hq
      have hq := asI_inv hr
      clear hr
      obtain ⟨x21, rfl, hr⟩ := hq
      refine wo_step (v := (.i .i64 x21)) (s_ld rfl e21) ?_
      have hq := bindO_inv hr
      clear hr
      obtain ⟨v22, e22, hr⟩ := hq
      refine wo_step (v := v22) (s_pure (o_faddr g2 e22)) ?_
      have hq := bindO_inv hr
      clear hr
      obtain ⟨v23, e23, hr⟩ := hq
      have hq := asI_inv hr
      clear hr
      obtain ⟨x23, rfl, hr⟩ := hq
      refine wo_step (v := (.i .i64 x23)) (s_ld rfl e23) ?_
      have hq := forceB_inv hr
      clear hr
      obtain ⟨c24, e24, hr⟩ := hq
      refine wo_step (v := (.b c24)) (s_pure (p_bin rfl rfl (b_eql.trans (cb e24)))) ?_
      refine wo_nil ?_
      refine nx_norm ?_
      have hq := bindO_inv hr
      clear hr
      obtain ⟨o_1, hr, hk⟩ := hq
      refine jp_mono (J := g67_J1 v2 v4 m_3 o_1) ?_ ?_
      · clear hk
        have hq := cond_inv hr
        clear hr
        rcases hq with ⟨rfl, hr⟩ | ⟨rfl, hr⟩
        · refine w_condT rfl ?_
          refine w_ops ?_
          have hq := bindO_inv hr
          clear hr
          obtain ⟨v25, e25, hr⟩ := hq
          refine wo_step (v := v25) (s_pure (o_faddr g2 e25)) ?_
          have hq := bindO_inv hr
          clear hr
          obtain ⟨v26, e26, hr⟩ := hq
          have hq := asI_inv hr
          clear hr
          obtain ⟨x26, rfl, hr⟩ := hq
          refine wo_step (v := (.i .i64 x26)) (s_ld rfl e26) ?_
          have hq := forceB_inv hr
          clear hr
          obtain ⟨c27, e27, hr⟩ := hq
          refine wo_step (v := (.b c27)) (s_pure (p_bin rfl rfl (b_eql.trans (cb e27)))) ?_
          refine wo_step (v := (.b c27)) (s_pure (p_mv rfl)) ?_
          have hq := bindO_inv hr
          clear hr
          obtain ⟨o_2, hr, hk⟩ := hq
          refine wo_join 6 (g67_J2 v2 v3 v4 m_3 o_2) ?_ ?_
          · clear hk
            have hq := cond_inv hr
            clear hr
            rcases hq with ⟨rfl, hr⟩ | ⟨rfl, hr⟩
            · refine wo_skip (v := (.b true)) rfl rfl ?_
              refine wo_skip (v := (.b true)) rfl rfl ?_
              refine wo_skip (v := (.b true)) rfl rfl ?_
              refine wo_skip (v := (.b true)) rfl rfl ?_
              refine wo_skip (v := (.b true)) rfl rfl ?_
              refine wo_step (v := (.b true)) (s_pure (p_pickT rfl rfl)) ?_
              refine wo_nil ?_
              cases hr
              exact ⟨_, _, rfl, rfl, gl rfl, gl g2, gl g3, gl g4⟩
            · have hq := bindO_inv hr
              clear hr
              obtain ⟨v29, e29, hr⟩ := hq
              refine wo_take (v := v29) rfl (s_pure (o_faddr g3 e29)) ?_
              have hq := bindO_inv hr
              clear hr
              obtain ⟨v30, e30, hr⟩ := hq
              have hq := asI_inv hr
              clear hr
              obtain ⟨x30, rfl, hr⟩ := hq
              refine wo_take (v := (.i .i64 x30)) rfl (s_ld rfl e30) ?_
              have hq := bindO_inv hr
              clear hr
              obtain ⟨v31, e31, hr⟩ := hq
              refine wo_take (v := v31) rfl (s_pure (o_faddr g2 e31)) ?_
              have hq := bindO_inv hr
              clear hr
              obtain ⟨v32, e32, hr⟩ := hq
              have hq := asI_inv hr
              clear hr
              obtain ⟨x32, rfl, hr⟩ := hq
              refine wo_take (v := (.i .i64 x32)) rfl (s_ld rfl e32) ?_
              have hq := forceB_inv hr
              clear hr
              obtain ⟨c33, e33, hr⟩ := hq
              refine wo_take (v := (.b c33)) rfl (s_pure (p_bin rfl rfl (b_lss.trans (cb e33)))) ?_
              refine wo_step (v := (.b c33)) (s_pure (p_pickF rfl rfl)) ?_
              refine wo_nil ?_
              cases hr
              exact ⟨_, _, rfl, rfl, gl rfl, gl g2, gl g3, gl g4⟩
          · clear hr
            have hr := hk
            clear hk
            obtain ⟨c34, ho⟩ : ∃ z, z = o_2 := ⟨_, rfl⟩
            subst ho
            rintro mm_1 t_2 ⟨rfl, g34, g2, g3, g4⟩
            refine wo_step (v := (.b c34)) (s_pure (p_mv g34)) ?_
            have hq := bindO_inv hr
            clear hr
            obtain ⟨o_3, hr, hk⟩ := hq
            refine wo_join 13 (g67_J3 v2 v4 m_3 o_3) ?_ ?_
            · clear hk
              have hq := cond_inv hr
              clear hr
              rcases hq with ⟨rfl, hr⟩ | ⟨rfl, hr⟩
              · refine wo_skip (v := (.b true)) rfl rfl ?_
                refine wo_skip (v := (.b true)) rfl rfl ?_
                refine wo_skip (v := (.b true)) rfl rfl ?_
                refine wo_skip (v := (.b true)) rfl rfl ?_
                refine wo_skip (v := (.b true)) rfl rfl ?_
                refine wo_skip (v := (.b true)) rfl rfl ?_
                refine wo_skip (v := und) rfl rfl ?_
                refine wo_skip (v := und) rfl rfl ?_
                refine wo_skip (v := und) rfl rfl ?_
                refine wo_skip (v := und) rfl rfl ?_
                refine wo_skip (v := und) rfl rfl ?_
                refine wo_skip (v := (.b true)) rfl rfl ?_
                refine wo_step (v := (.b true)) (s_pure (p_pickT rfl rfl)) ?_
                refine wo_nil ?_
                cases hr
                exact ⟨_, _, rfl, rfl, gl rfl, gl g2, gl g4⟩
              · have hq := bindO_inv hr
                clear hr
                obtain ⟨v36, e36, hr⟩ := hq
                refine wo_take (v := v36) rfl (s_pure (o_faddr g3 e36)) ?_
                have hq := bindO_inv hr
                clear hr
                obtain ⟨v37, e37, hr⟩ := hq
                have hq := asI_inv hr
                clear hr
                obtain ⟨x37, rfl, hr⟩ := hq
                refine wo_take (v := (.i .i64 x37)) rfl (s_ld rfl e37) ?_
                have hq := bindO_inv hr
                clear hr
                obtain ⟨v38, e38, hr⟩ := hq
                refine wo_take (v := v38) rfl (s_pure (o_faddr g2 e38)) ?_
                have hq := bindO_inv hr
                clear hr
                obtain ⟨v39, e39, hr⟩ := hq
                have hq := asI_inv hr
                clear hr
                obtain ⟨x39, rfl, hr⟩ := hq
                refine wo_take (v := (.i .i64 x39)) rfl (s_ld rfl e39) ?_
                have hq := forceB_inv hr
                clear hr
                obtain ⟨c40, e40, hr⟩ := hq
                refine wo_take (v := (.b c40)) rfl (s_pure (p_bin rfl rfl (b_eql.trans (cb e40)))) ?_
                refine wo_take (v := (.b c40)) rfl (s_pure (p_mv rfl)) ?_
                have hq := bindO_inv hr
                clear hr
                obtain ⟨o_4, hr, hk⟩ := hq
                refine wo_join 7 (g67_J4 v2 v4 m_3 o_4) ?_ ?_
                · clear hk
                  have hq := cond_inv hr
                  clear hr
                  rcases hq with ⟨rfl, hr⟩ | ⟨rfl, hr⟩
                  · have hq := bindO_inv hr
                    clear hr
                    obtain ⟨v42, e42, hr⟩ := hq
                    refine wo_take (v := v42) rfl (s_pure (o_faddr g2 e42)) ?_
                    have hq := bindO_inv hr
                    clear hr
                    obtain ⟨v43, e43, hr⟩ := hq
                    have hq := asI_inv hr
                    clear hr
                    obtain ⟨x43, rfl, hr⟩ := hq
                    refine wo_take (v := (.i .u8 x43)) rfl (s_ld rfl e43) ?_
                    have hq := bindO_inv hr
                    clear hr
                    obtain ⟨v44, e44, hr⟩ := hq
                    refine wo_take (v := v44) rfl (s_pure (o_faddr g3 e44)) ?_
                    have hq := bindO_inv hr
                    clear hr
                    obtain ⟨v45, e45, hr⟩ := hq
                    have hq := asI_inv hr
                    clear hr
                    obtain ⟨x45, rfl, hr⟩ := hq
                    refine wo_take (v := (.i .u8 x45)) rfl (s_ld rfl e45) ?_
                    have hq := forceB_inv hr
                    clear hr
                    obtain ⟨c46, e46, hr⟩ := hq
                    refine wo_take (v := (.b c46)) rfl (s_pure (p_bin rfl rfl (b_gtr.trans (cb e46)))) ?_
                    refine wo_take (v := (.b c46)) rfl (s_pure (p_pickT rfl rfl)) ?_
                    refine wo_step (v := (.b c46)) (s_pure (p_pickF rfl rfl)) ?_
                    refine wo_nil ?_
                    cases hr
                    exact ⟨_, _, rfl, rfl, gl rfl, gl g2, gl g4⟩
                  · refine wo_skip (v := (.b false)) rfl rfl ?_
                    refine wo_skip (v := (.b false)) rfl rfl ?_
                    refine wo_skip (v := (.b false)) rfl rfl ?_
                    refine wo_skip (v := (.b false)) rfl rfl ?_
                    refine wo_skip (v := (.b false)) rfl rfl ?_
                    refine wo_take (v := (.b false)) rfl (s_pure (p_pickF rfl rfl)) ?_
                    refine wo_step (v := (.b false)) (s_pure (p_pickF rfl rfl)) ?_
                    refine wo_nil ?_
                    cases hr
                    exact ⟨_, _, rfl, rfl, gl rfl, gl g2, gl g4⟩
                · clear hr
                  have hr := hk
                  clear hk
                  obtain ⟨c48_1, ho⟩ : ∃ z, z = o_4 := ⟨_, rfl⟩
                  subst ho
                  rintro mm_2 t_3 ⟨rfl, g48, g2, g4⟩
                  refine wo_nil ?_
                  cases hr
                  exact ⟨_, _, rfl, rfl, gl g48, gl g2, gl g4⟩
            · clear hr
              have hr := hk
              clear hk
              obtain ⟨c48, ho⟩ : ∃ z, z = o_3 := ⟨_, rfl⟩
              subst ho
              rintro mm_3 t_4 ⟨rfl, g48, g2, g4⟩
              refine wo_step (v := (.b c48)) (s_pure (p_mv g48)) ?_
              refine wo_nil ?_
              cases hr
              exact ⟨_, _, rfl, rfl, rfl, gl rfl, gl g2, gl g4⟩
        · refine w_condF rfl ?_
          refine w_skip ?_
          cases hr
          exact ⟨_, _, rfl, rfl, rfl, gl rfl, gl g2, gl g4⟩
      · clear hr
        have hr := hk
        clear hk
        obtain ⟨c5, ho⟩ : ∃ z, z = o_1 := ⟨_, rfl⟩
        subst ho
        rintro _ mm_5 t_5 ⟨rfl, rfl, g5, g2, g4⟩
        refine nx_norm ?_
        refine w_seq ?_
        refine w_seq ?_
        refine w_ops ?_
        refine wo_step (v := (.b c5)) (s_pure (p_mv g5)) ?_
        refine wo_nil ?_
        refine nx_norm ?_
        have hq := bindO_inv hr
        clear hr
        obtain ⟨o_5, hr, hk⟩ := hq
        refine jp_mono (J := g67_J5 v2 v4 o_5) ?_ ?_
        · clear hk
          have hq := cond_inv hr
          clear hr
          rcases hq with ⟨rfl, hr⟩ | ⟨rfl, hr⟩
          · refine w_condT rfl ?_
            refine w_ops ?_
            have hq := bindO_inv hr
            clear hr
            obtain ⟨v50, e50, hr⟩ := hq
            refine wo_step (v := v50) (s_pure (o_faddr g2 e50)) ?_
            have hq := bindO_inv hr
            clear hr
            obtain ⟨v51, e51, hr⟩ := hq
            have hq := asI_inv hr
            clear hr
            obtain ⟨x51, rfl, hr⟩ := hq
            refine wo_step (v := (.i .i64 x51)) (s_ld rfl e51) ?_
            have hq := forceI_inv hr
            clear hr
            obtain ⟨x52, e52, hr⟩ := hq
            refine wo_step (v := (.i .i64 x52)) (s_pure (p_bin rfl rfl (b_add.trans (ci e52)))) ?_
            have hq := bindO_inv hr
            clear hr
            obtain ⟨v53, e53, hr⟩ := hq
            refine wo_step (v := v53) (s_pure (o_faddr g2 e53)) ?_
            have hq := bindP_inv hr
            clear hr
            obtain ⟨vn_1, m_5, en_1, hr⟩ := hq
            refine wo_stepN (s_st rfl rfl en_1) ?_
            refine wo_nil ?_
            cases hr
            exact ⟨_, _, rfl, rfl, rfl, gl g2, gl g4⟩
          · refine w_condF rfl ?_
            refine w_skip ?_
            cases hr
            exact ⟨_, _, rfl, rfl, rfl, gl g2, gl g4⟩
        · clear hr
          have hr := hk
          clear hk
          obtain ⟨m_6, ho⟩ : ∃ z, z = o_5 := ⟨_, rfl⟩
          subst ho
          rintro _ mm_4 t_6 ⟨rfl, rfl, g2, g4⟩
          refine nx_norm ?_
          refine w_seq ?_
          refine w_ops ?_
          have hq := bindO_inv hr
          clear hr
          obtain ⟨v54, e54, hr⟩ := hq
          refine wo_step (v := v54) (s_ld g2 e54) ?_
          have hq := bindP_inv hr
          clear hr
          obtain ⟨vn_2, m_7, en_2, hr⟩ := hq
          refine wo_stepN (s_st g4 rfl en_2) ?_
          refine wo_nil ?_
          refine nx_norm ?_
          refine w_ret ?_
          have hq := bindO_inv hr
          clear hr
          obtain ⟨vr_1, er_1, hr⟩ := hq
          exact qf ret_ok (rc g4 er_1 rn) hr

/- dibber/note.isLetter -/
abbrev g76_J0 (m0 : Mm) (o : Bool) (m1 : Mm) (t1 : Tr) : Prop :=
  match o with
  | c8 => m0 = m1 ∧ t1.get 8 = (.b c8)
def g76 (M : Means) (ro : List ABlk) (x0 : Int) (m0 : Mm) : Option (AVal × Heap × Nat × Nat) :=
  forceB (!ltI x0 97) fun c4 =>
  bindO (cond c4 (
    forceB (!ltI 122 x0) fun c7 =>
    some c7) (
    some false)) fun c8 =>
  finM m0.h.length (tupA [(.b c8)]) m0

theorem g76_ok {ro : List ABlk} {O : Caller} {M : Means} (hM : M.Ok ⟨F, O⟩ ro) {x0 h r} (ho : O 76 [(.i .u8 x0)] h = none) (hr : g76 M ro x0 ⟨h, h.length, h.length⟩ = some r) : callX ⟨F, O⟩ ro 76 [(.i .u8 x0)] h = some r := by
  refine callX_of (F := ⟨F, O⟩) (fn := fn76) (g := g76 M ro x0) ho rfl rfl hr ?_
  clear ho
  clear hr
  intro m0 t0 ht hr
  have g0 : t0.get 0 = (.i .u8 x0) := ht 0
  clear ht
  unfold g76 at hr
  refine w_seq ?_
  refine w_ops ?_
  refine wo_step (v := (.b false)) (s_pure (p_mv rfl)) ?_
  refine wo_nil ?_
  refine nx_norm ?_
  refine w_seq ?_
  refine w_ops ?_
  refine wo_step (v := (.i .u8 x0)) (s_pure (p_mv g0)) ?_
  have hq := forceB_inv hr
  clear hr
  obtain ⟨c4, e4, hr⟩ := hq
  refine wo_step (v := (.b c4)) (s_pure (p_bin rfl rfl (b_leq.trans (cb e4)))) ?_
  refine wo_step (v := (.b c4)) (s_pure (p_mv rfl)) ?_
  have hq := bindO_inv hr
  clear hr
  obtain ⟨o, hr, hk⟩ := hq
  refine wo_join 3 (g76_J0 m0 o) ?_ ?_
  · clear hk
    have hq := cond_inv hr
    clear hr
    rcases hq with ⟨rfl, hr⟩ | ⟨rfl, hr⟩
    · refine wo_take (v := (.i .u8 x0)) rfl (s_pure (p_mv g0)) ?_
      have hq := forceB_inv hr
      clear hr
      obtain ⟨c7, e7, hr⟩ := hq
      refine wo_take (v := (.b c7)) rfl (s_pure (p_bin rfl rfl (b_leq.trans (cb e7)))) ?_
      refine wo_step (v := (.b c7)) (s_pure (p_pickT rfl rfl)) ?_
      refine wo_nil ?_
      cases hr
      exact ⟨_, _, rfl, rfl, gl rfl⟩
    · refine wo_skip (v := (.b false)) rfl rfl ?_
      refine wo_skip (v := (.b false)) rfl rfl ?_
      refine wo_step (v := (.b false)) (s_pure (p_pickF rfl rfl)) ?_
      refine wo_nil ?_
      cases hr
      exact ⟨_, _, rfl, rfl, gl rfl⟩
  · clear hr
    have hr := hk
    clear hk
    obtain ⟨c8, ho⟩ : ∃ z, z = o := ⟨_, rfl⟩
    subst ho
    rintro mm t_1 ⟨rfl, g8⟩
    refine wo_step (v := (.b c8)) (s_pure (p_mv g8)) ?_
    refine wo_nil ?_
    refine nx_norm ?_
    refine w_ret ?_
    exact qf ret_ok (rt rfl rn) hr

/- dibber/note.isFrom -/
abbrev g77_J0 (m0 : Mm) (o : Bool) (m1 : Mm) (t1 : Tr) : Prop :=
  match o with
  | c14 => m0 = m1 ∧ t1.get 14 = (.b c14)
def g77 (M : Means) (ro : List ABlk) (x0 : Int) (x1 : Int) (x2 : Int) (m0 : Mm) : Option (AVal × Heap × Nat × Nat) :=
  forceB (!ltI x1 x0) fun c9 =>
  bindO (cond c9 (
    forceB (!ltI x2 x1) fun c13 =>
    some c13) (
    some false)) fun c14 =>
  finM m0.h.length (tupA [(.b c14)]) m0

theorem g77_ok {ro : List ABlk} {O : Caller} {M : Means} (hM : M.Ok ⟨F, O⟩ ro) {x0 x1 x2 h r} (ho : O 77 [(.i .i64 x0), (.i .i64 x1), (.i .i64 x2)] h = none) (hr : g77 M ro x0 x1 x2 ⟨h, h.length, h.length⟩ = some r) : callX ⟨F, O⟩ ro 77 [(.i .i64 x0), (.i .i64 x1), (.i .i64 x2)] h = some r := by
  refine callX_of (F := ⟨F, O⟩) (fn := fn77) (g := g77 M ro x0 x1 x2) ho rfl rfl hr ?_
  clear ho
  clear hr
  intro m0 t0 ht hr
  have g0 : t0.get 0 = (.i .i64 x0) := ht 0
  have g1 : t0.get 1 = (.i .i64 x1) := ht 1
  have g2 : t0.get 2 = (.i .i64 x2) := ht 2
  clear ht
  unfold g77 at hr
  refine w_seq ?_
  refine w_ops ?_
  refine wo_step (v := (.b false)) (s_pure (p_mv rfl)) ?_
  refine wo_nil ?_
  refine nx_norm ?_
  refine w_seq ?_
  refine w_ops ?_
  refine wo_step (v := (.i .i64 x0)) (s_pure (p_mv g0)) ?_
  refine wo_step (v := (.i .i64 x1)) (s_pure (p_mv g1)) ?_
  have hq := forceB_inv hr
  clear hr
  obtain ⟨c9, e9, hr⟩ := hq
  refine wo_step (v := (.b c9)) (s_pure (p_bin rfl rfl (b_leq.trans (cb e9)))) ?_
  refine wo_step (v := (.b c9)) (s_pure (p_mv rfl)) ?_
  have hq := bindO_inv hr
  clear hr
  obtain ⟨o, hr, hk⟩ := hq
  refine wo_join 4 (g77_J0 m0 o) ?_ ?_
  · clear hk
    have hq := cond_inv hr
    clear hr
    rcases hq with ⟨rfl, hr⟩ | ⟨rfl, hr⟩
    · refine wo_take (v := (.i .i64 x1)) rfl (s_pure (p_mv g1)) ?_
      refine wo_take (v := (.i .i64 x2)) rfl (s_pure (p_mv g2)) ?_
      have hq := forceB_inv hr
      clear hr
      obtain ⟨c13, e13, hr⟩ := hq
      refine wo_take (v := (.b c13)) rfl (s_pure (p_bin rfl rfl (b_leq.trans (cb e13)))) ?_
      refine wo_step (v := (.b c13)) (s_pure (p_pickT rfl rfl)) ?_
      refine wo_nil ?_
      cases hr
      exact ⟨_, _, rfl, rfl, gl rfl⟩
    · refine wo_skip (v := (.b false)) rfl rfl ?_
      refine wo_skip (v := (.b false)) rfl rfl ?_
      refine wo_skip (v := (.b false)) rfl rfl ?_
      refine wo_step (v := (.b false)) (s_pure (p_pickF rfl rfl)) ?_
      refine wo_nil ?_
      cases hr
      exact ⟨_, _, rfl, rfl, gl rfl⟩
  · clear hr
    have hr := hk
    clear hk
    obtain ⟨c14, ho⟩ : ∃ z, z = o := ⟨_, rfl⟩
    subst ho
    rintro mm t_1 ⟨rfl, g14⟩
    refine wo_step (v := (.b c14)) (s_pure (p_mv g14)) ?_
    refine wo_nil ?_
    refine nx_norm ?_
    refine w_ret ?_
    exact qf ret_ok (rt rfl rn) hr

/- dibber/note.asItIs -/

def g96 (M : Means) (ro : List ABlk) (v0 : AVal) (v1 : AVal) (m0 : Mm) : Option (AVal × Heap × Nat × Nat) :=
  bindP (stepM ro m0 (.bx 24 4 (.c v0))) fun v2 m_1 =>
  bindP (stepM ro m_1 (.bx 24 4 (.c v1))) fun v3 m_2 =>
  bindP (stepM ro m_2 (.al 24 [(AVal.i IntKind.i64 0), (AVal.i IntKind.i64 0), (AVal.i IntKind.u8 0), (AVal.i IntKind.i64 0)])) fun v4 m_3 =>
  bindO (ldM ro m_3 false 4 v2) fun v5 =>
  bindP (stepM ro m_3 (.st 4 (.c v4) (.c v5))) fun vn m_4 =>
  bindO (ldM ro m_4 false 4 v4) fun vr =>
  finM m0.h.length (tupA [vr]) m_4

theorem g96_ok {ro : List ABlk} {O : Caller} {M : Means} (hM : M.Ok ⟨F, O⟩ ro) {v0 v1 h r} (ho : O 96 [v0, v1] h = none) (hr : g96 M ro v0 v1 ⟨h, h.length, h.length⟩ = some r) : callX ⟨F, O⟩ ro 96 [v0, v1] h = some r := by
  refine callX_of (F := ⟨F, O⟩) (fn := fn96) (g := g96 M ro v0 v1) ho rfl rfl hr ?_
  clear ho
  clear hr
  intro m0 t0 ht hr
  have g0 : t0.get 0 = v0 := ht 0
  have g1 : t0.get 1 = v1 := ht 1
  clear ht
  unfold g96 at hr
  refine w_seq ?_
  refine w_ops ?_
  have hq := bindP_inv hr
  clear hr
  obtain ⟨v2, m_1, e2, hr⟩ := hq
  refine wo_step (v := v2) (s_bx g0 e2) ?_
  have hq := bindP_inv hr
  clear hr
  obtain ⟨v3, m_2, e3, hr⟩ := hq
  refine wo_step (v := v3) (s_bx g1 e3) ?_
  have hq := bindP_inv hr
  clear hr
  obtain ⟨v4, m_3, e4, hr⟩ := hq
  refine wo_step (v := v4) (s_al e4) ?_
  refine wo_nil ?_
  refine nx_norm ?_
  refine w_seq ?_
  refine w_ops ?_
  have hq := bindO_inv hr
  clear hr
  obtain ⟨v5, e5, hr⟩ := hq
  refine wo_step (v := v5) (s_ld rfl e5) ?_
  have hq := bindP_inv hr
  clear hr
  obtain ⟨vn, m_4, en, hr⟩ := hq
  refine wo_stepN (s_st rfl rfl en) ?_
  refine wo_nil ?_
  refine nx_norm ?_
  refine w_ret ?_
  have hq := bindO_inv hr
  clear hr
  obtain ⟨vr, er, hr⟩ := hq
  exact qf ret_ok (rc rfl er rn) hr

/- dibber/note.putAgainstPut -/
abbrev g97_J0 (v2 : AVal) (v4 : AVal) (o : Mm) (e : AExit) (m1 : Mm) (t1 : Tr) : Prop :=
  match o with
  | mo => e = .norm ∧ mo = m1 ∧ t1.get 2 = v2 ∧ t1.get 4 = v4
def g97 (M : Means) (ro : List ABlk) (v0 : AVal) (v1 : AVal) (m0 : Mm) : Option (AVal × Heap × Nat × Nat) :=
  bindP (stepM ro m0 (.bx 24 4 (.c v0))) fun v2 m_1 =>
  bindP (stepM ro m_1 (.bx 24 4 (.c v1))) fun v3 m_2 =>
  bindP (stepM ro m_2 (.al 24 [(AVal.i IntKind.i64 0), (AVal.i IntKind.i64 0), (AVal.i IntKind.u8 0), (AVal.i IntKind.i64 0)])) fun v4 m_3 =>
  bindO (some (Mm.base m_3)) fun m_4 =>
  bindO (evP .e (.faddr 1 (.c v3))) fun v5 =>
  bindO (ldM ro m_4 true 1 v5) fun v6 =>
  asI .i64 v6 fun x6 =>
  bindO (evP .e (.faddr 1 (.c v2))) fun v7 =>
  bindO (ldM ro m_4 true 1 v7) fun v8 =>
  asI .i64 v8 fun x8 =>
  bindP (callM M.call m_4 100 [(.i .i64 x6), (.i .i64 x8)]) fun v9 m_5 =>
  asI .i64 v9 fun x9 =>
  chk (!Nat.blt m_5.lw m_3.h.length) <|
  bindO (evP .e (.faddr 3 (.c v3))) fun v10 =>
  bindO (ldA ro m_3.h true 1 v10) fun v11 =>
  asI .i64 v11 fun x11 =>
  bindO (evP .e (.faddr 3 (.c v2))) fun v12 =>
  bindO (ldA ro m_3.h true 1 v12) fun v13 =>
  asI .i64 v13 fun x13 =>
  bindP (callM M.call m_5 100 [(.i .i64 x11), (.i .i64 x13)]) fun v14 m_6 =>
  asI .i64 v14 fun x14 =>
  chk (!Nat.blt m_6.lw m_3.h.length) <|
  bindO (evP .e (.faddr 2 (.c v3))) fun v15 =>
  bindO (ldA ro m_3.h true 1 v15) fun v16 =>
  asI .u8 v16 fun x16 =>
  bindO (evP .e (.faddr 2 (.c v2))) fun v17 =>
  bindO (ldA ro m_3.h true 1 v17) fun v18 =>
  asI .u8 v18 fun x18 =>
  bindP (callM M.call m_6 101 [(.i .u8 x16), (.i .u8 x18)]) fun v19 m_7 =>
  asI .i64 v19 fun x19 =>
  bindP (stepM ro m_7 (.bsl 3 1 [(AVal.i IntKind.i64 0)] 3 [((0, 1), .c (.i .i64 x9)), ((1, 1), .c (.i .i64 x14)), ((2, 1), .c (.i .i64 x19))])) fun v20 m_8 =>
  bindP (callM M.call m_8 99 [v20]) fun v21 m_9 =>
  asI .i64 v21 fun x21 =>
  forceB (ltI x21 0) fun c22 =>
  bindO (some (Mm.join m_3 m_9)) fun m_10 =>
  bindO (α := Mm) (
    cond c22 (
      bindO (evP .e (.faddr 1 (.c v2))) fun v23 =>
      bindO (ldM ro m_10 true 1 v23) fun v24 =>
      asI .i64 v24 fun x24 =>
      forceI (wr .i64 (x24 + 1)) fun x25 =>
      bindO (evP .e (.faddr 1 (.c v2))) fun v26 =>
      bindP (stepM ro m_10 (.st 1 (.c v26) (.c (.i .i64 x25)))) fun vn m_11 =>
      some m_11) (
      some m_10)) fun m_12 =>
  bindO (ldM ro m_12 false 4 v2) fun v27 =>
  bindP (stepM ro m_12 (.st 4 (.c v4) (.c v27))) fun vn_1 m_13 =>
  bindO (ldM ro m_13 false 4 v4) fun vr =>
  finM m0.h.length (tupA [vr]) m_13

theorem g97_ok {ro : List ABlk} {O : Caller} {M : Means} (hM : M.Ok ⟨F, O⟩ ro) {v0 v1 h r} (ho : O 97 [v0, v1] h = none) (hr : g97 M ro v0 v1 ⟨h, h.length, h.length⟩ = some r) : callX ⟨F, O⟩ ro 97 [v0, v1] h = some r := by
  refine callX_of (F := ⟨F, O⟩) (fn := fn97) (g := g97 M ro v0 v1) ho rfl rfl hr ?_
  clear ho
  clear hr
  intro m0 t0 ht hr
  have g0 : t0.get 0 = v0 := ht 0
  have g1 : t0.get 1 = v1 := ht 1
  clear ht
  unfold g97 at hr
  refine w_seq ?_
  refine w_ops ?_
  have hq := bindP_inv hr
  clear hr
  obtain ⟨v2, m_1, e2, hr⟩ := hq
  refine wo_step (v := v2) (s_bx g0 e2) ?_
  have hq := bindP_inv hr
  clear hr
  obtain ⟨v3, m_2, e3, hr⟩ := hq
  refine wo_step (v := v3) (s_bx g1 e3) ?_
  have hq := bindP_inv hr
  clear hr
  obtain ⟨v4, m_3, e4, hr⟩ := hq
  refine wo_step (v := v4) (s_al e4) ?_
  refine wo_nil ?_
  refine nx_norm ?_
  refine w_seq ?_
  refine w_seq ?_
  have hq := bindO_inv hr
  clear hr
  obtain ⟨m_4, ef, hr⟩ := hq
  refine w_flt (af := true) rfl ef ?_
  have hq := bindO_inv hr
  clear hr
  obtain ⟨v5, e5, hr⟩ := hq
  refine wf_step (v := v5) (f_P rfl (s_pure (o_faddr rfl e5))) ?_
  have hq := bindO_inv hr
  clear hr
  obtain ⟨v6, e6, hr⟩ := hq
  have hq := asI_inv hr
  clear hr
  obtain ⟨x6, rfl, hr⟩ := hq
  refine wf_step (v := (.i .i64 x6)) (f_P rfl (s_ld rfl e6)) ?_
  have hq := bindO_inv hr
  clear hr
  obtain ⟨v7, e7, hr⟩ := hq
  refine wf_step (v := v7) (f_P rfl (s_pure (o_faddr rfl e7))) ?_
  have hq := bindO_inv hr
  clear hr
  obtain ⟨v8, e8, hr⟩ := hq
  have hq := asI_inv hr
  clear hr
  obtain ⟨x8, rfl, hr⟩ := hq
  refine wf_step (v := (.i .i64 x8)) (f_P rfl (s_ld rfl e8)) ?_
  have hq := bindP_inv hr
  clear hr
  obtain ⟨v9, m_5, e9, hr⟩ := hq
  have hq := asI_inv hr
  clear hr
  obtain ⟨x9, rfl, hr⟩ := hq
  have hq := chk_inv hr
  clear hr
  obtain ⟨hc9, hr⟩ := hq
  refine wf_step (v := (.i .i64 x9)) (f_M hc9 (s_call (mc rfl (mc rfl mn)) (callM_le hM.call e9))) ?_
  have hq := bindO_inv hr
  clear hr
  obtain ⟨v10, e10, hr⟩ := hq
  refine wf_step (v := v10) (f_P rfl (s_pure (o_faddr rfl e10))) ?_
  have hq := bindO_inv hr
  clear hr
  obtain ⟨v11, e11, hr⟩ := hq
  have hq := asI_inv hr
  clear hr
  obtain ⟨x11, rfl, hr⟩ := hq
  refine wf_step (v := (.i .i64 x11)) (f_ld rfl e11) ?_
  have hq := bindO_inv hr
  clear hr
  obtain ⟨v12, e12, hr⟩ := hq
  refine wf_step (v := v12) (f_P rfl (s_pure (o_faddr rfl e12))) ?_
  have hq := bindO_inv hr
  clear hr
  obtain ⟨v13, e13, hr⟩ := hq
  have hq := asI_inv hr
  clear hr
  obtain ⟨x13, rfl, hr⟩ := hq
  refine wf_step (v := (.i .i64 x13)) (f_ld rfl e13) ?_
  have hq := bindP_inv hr
  clear hr
  obtain ⟨v14, m_6, e14, hr⟩ := hq
  have hq := asI_inv hr
  clear hr
  obtain ⟨x14, rfl, hr⟩ := hq
  have hq := chk_inv hr
  clear hr
  obtain ⟨hc14, hr⟩ := hq
  refine wf_step (v := (.i .i64 x14)) (f_M hc14 (s_call (mc rfl (mc rfl mn)) (callM_le hM.call e14))) ?_
  have hq := bindO_inv hr
  clear hr
  obtain ⟨v15, e15, hr⟩ := hq
  refine wf_step (v := v15) (f_P rfl (s_pure (o_faddr rfl e15))) ?_
  have hq := bindO_inv hr
  clear hr
  obtain ⟨v16, e16, hr⟩ := hq
  have hq := asI_inv hr
  clear hr
  obtain ⟨x16, rfl, hr⟩ := hq
  refine wf_step (v := (.i .u8 x16)) (f_ld rfl e16) ?_
  have hq := bindO_inv hr
  clear hr
  obtain ⟨v17, e17, hr⟩ := hq
  refine wf_step (v := v17) (f_P rfl (s_pure (o_faddr rfl e17))) ?_
  have hq := bindO_inv hr
  clear hr
  obtain ⟨v18, e18, hr⟩ := hq
  have hq := asI_inv hr
  clear hr
  obtain ⟨x18, rfl, hr⟩ := hq
  refine wf_step (v := (.i .u8 x18)) (f_ld rfl e18) ?_
  have hq := bindP_inv hr
  clear hr
  obtain ⟨v19, m_7, e19, hr⟩ := hq
  have hq := asI_inv hr
  clear hr
  obtain ⟨x19, rfl, hr⟩ := hq
  refine wf_step (v := (.i .i64 x19)) (f_F rfl (s_call (mc rfl (mc rfl mn)) (callM_le hM.call e19))) ?_
  have hq := bindP_inv hr
  clear hr
  obtain ⟨v20, m_8, e20, hr⟩ := hq
  refine wf_step (v := v20) (f_F rfl (s_bsl (qc rfl (qc rfl (qc rfl qn))) e20)) ?_
  have hq := bindP_inv hr
  clear hr
  obtain ⟨v21, m_9, e21, hr⟩ := hq
  have hq := asI_inv hr
  clear hr
  obtain ⟨x21, rfl, hr⟩ := hq
  refine wf_step (v := (.i .i64 x21)) (f_F rfl (s_call (mc rfl mn) (callM_le hM.call e21))) ?_
  have hq := forceB_inv hr
  clear hr
  obtain ⟨c22, e22, hr⟩ := hq
  refine wf_step (v := (.b c22)) (f_P rfl (s_pure (p_bin rfl rfl (b_lss.trans (cb e22))))) ?_
  have hq := bindO_inv hr
  clear hr
  obtain ⟨m_10, ef_1, hr⟩ := hq
  refine wf_end ef_1 ?_
  refine nx_norm ?_
  have hq := bindO_inv hr
  clear hr
  obtain ⟨o, hr, hk⟩ := hq
  refine jp_mono (J := g97_J0 v2 v4 o) ?_ ?_
  · clear hk
    have hq := cond_inv hr
    clear hr
    rcases hq with ⟨rfl, hr⟩ | ⟨rfl, hr⟩
    · refine w_condT rfl ?_
      refine w_ops ?_
      have hq := bindO_inv hr
      clear hr
      obtain ⟨v23, e23, hr⟩ := hq
      refine wo_step (v := v23) (s_pure (o_faddr rfl e23)) ?_
      have hq := bindO_inv hr
      clear hr
      obtain ⟨v24, e24, hr⟩ := hq
      have hq := asI_inv hr
      clear hr
      obtain ⟨x24, rfl, hr⟩ := hq
      refine wo_step (v := (.i .i64 x24)) (s_ld rfl e24) ?_
      have hq := forceI_inv hr
      clear hr
      obtain ⟨x25, e25, hr⟩ := hq
      refine wo_step (v := (.i .i64 x25)) (s_pure (p_bin rfl rfl (b_add.trans (ci e25)))) ?_
      have hq := bindO_inv hr
      clear hr
      obtain ⟨v26, e26, hr⟩ := hq
      refine wo_step (v := v26) (s_pure (o_faddr rfl e26)) ?_
      have hq := bindP_inv hr
      clear hr
      obtain ⟨vn, m_11, en, hr⟩ := hq
      refine wo_stepN (s_st rfl rfl en) ?_
      refine wo_nil ?_
      cases hr
      exact ⟨_, _, rfl, rfl, rfl, gl rfl, gl rfl⟩
    · refine w_condF rfl ?_
      refine w_skip ?_
      cases hr
      exact ⟨_, _, rfl, rfl, rfl, gl rfl, gl rfl⟩
  · clear hr
    have hr := hk
    clear hk
    obtain ⟨m_12, ho⟩ : ∃ z, z = o := ⟨_, rfl⟩
    subst ho
    rintro _ mm t_1 ⟨rfl, rfl, g2, g4⟩
    refine nx_norm ?_
    refine w_seq ?_
    refine w_ops ?_
    have hq := bindO_inv hr
    clear hr
    obtain ⟨v27, e27, hr⟩ := hq
    refine wo_step (v := v27) (s_ld g2 e27) ?_
    have hq := bindP_inv hr
    clear hr
    obtain ⟨vn_1, m_13, en_1, hr⟩ := hq
    refine wo_stepN (s_st g4 rfl en_1) ?_
    refine wo_nil ?_
    refine nx_norm ?_
    refine w_ret ?_
    have hq := bindO_inv hr
    clear hr
    obtain ⟨vr, er, hr⟩ := hq
    exact qf ret_ok (rc g4 er rn) hr

/- dibber/note.hideAgainstPut -/
abbrev g98_J0 (v2 : AVal) (v4 : AVal) (o : Mm) (e : AExit) (m1 : Mm) (t1 : Tr) : Prop :=
  match o with
  | mo => e = .norm ∧ mo = m1 ∧ t1.get 2 = v2 ∧ t1.get 4 = v4
def g98 (M : Means) (ro : List ABlk) (v0 : AVal) (v1 : AVal) (m0 : Mm) : Option (AVal × Heap × Nat × Nat) :=
  bindP (stepM ro m0 (.bx 24 4 (.c v0))) fun v2 m_1 =>
  bindP (stepM ro m_1 (.bx 24 4 (.c v1))) fun v3 m_2 =>
  bindP (stepM ro m_2 (.al 24 [(AVal.i IntKind.i64 0), (AVal.i IntKind.i64 0), (AVal.i IntKind.u8 0), (AVal.i IntKind.i64 0)])) fun v4 m_3 =>
  bindO (evP .e (.faddr 1 (.c v3))) fun v5 =>
  bindO (ldM ro m_3 true 1 v5) fun v6 =>
  asI .i64 v6 fun x6 =>
  bindO (evP .e (.faddr 1 (.c v2))) fun v7 =>
  bindO (ldM ro m_3 true 1 v7) fun v8 =>
  asI .i64 v8 fun x8 =>
  forceB (!ltI x8 x6) fun c9 =>
  bindO (α := Mm) (
    cond c9 (
      bindO (evP .e (.faddr 1 (.c v2))) fun v10 =>
      bindO (ldM ro m_3 true 1 v10) fun v11 =>
      asI .i64 v11 fun x11 =>
      forceI (wr .i64 (x11 + 1)) fun x12 =>
      bindO (evP .e (.faddr 1 (.c v2))) fun v13 =>
      bindP (stepM ro m_3 (.st 1 (.c v13) (.c (.i .i64 x12)))) fun vn m_4 =>
      some m_4) (
      some m_3)) fun m_5 =>
  bindO (ldM ro m_5 false 4 v2) fun v14 =>
  bindP (stepM ro m_5 (.st 4 (.c v4) (.c v14))) fun vn_1 m_6 =>
  bindO (ldM ro m_6 false 4 v4) fun vr =>
  finM m0.h.length (tupA [vr]) m_6

theorem g98_ok {ro : List ABlk} {O : Caller} {M : Means} (hM : M.Ok ⟨F, O⟩ ro) {v0 v1 h r} (ho : O 98 [v0, v1] h = none) (hr : g98 M ro v0 v1 ⟨h, h.length, h.length⟩ = some r) : callX ⟨F, O⟩ ro 98 [v0, v1] h = some r := by
  refine callX_of (F := ⟨F, O⟩) (fn := fn98) (g := g98 M ro v0 v1) ho rfl rfl hr ?_
  clear ho
  clear hr
  intro m0 t0 ht hr
  have g0 : t0.get 0 = v0 := ht 0
  have g1 : t0.get 1 = v1 := ht 1
  clear ht
  unfold g98 at hr
  refine w_seq ?_
  refine w_ops ?_
  have hq := bindP_inv hr
  clear hr
  obtain ⟨v2, m_1, e2, hr⟩ := hq
  refine wo_step (v := v2) (s_bx g0 e2) ?_
  have hq := bindP_inv hr
  clear hr
  obtain ⟨v3, m_2, e3, hr⟩ := hq
  refine wo_step (v := v3) (s_bx g1 e3) ?_
  have hq := bindP_inv hr
  clear hr
  obtain ⟨v4, m_3, e4, hr⟩ := hq
  refine wo_step (v := v4) (s_al e4) ?_
  refine wo_nil ?_
  refine nx_norm ?_
  refine w_seq ?_
  refine w_seq ?_
  refine w_ops ?_
  have hq := bindO_inv hr
  clear hr
  obtain ⟨v5, e5, hr⟩ := hq
  refine wo_step (v := v5) (s_pure (o_faddr rfl e5)) ?_
  have hq := bindO_inv hr
  clear hr
  obtain ⟨v6, e6, hr⟩ := hq
  have hq := asI_inv hr
  clear hr
  obtain ⟨x6, rfl, hr⟩ := hq
  refine wo_step (v := (.i .i64 x6)) (s_ld rfl e6) ?_
  have hq := bindO_inv hr
  clear hr
  obtain ⟨v7, e7, hr⟩ := hq
  refine wo_step (v := v7) (s_pure (o_faddr rfl e7)) ?_
  have hq := bindO_inv hr
  clear hr
  obtain ⟨v8, e8, hr⟩ := hq
  have hq := asI_inv hr
  clear hr
  obtain ⟨x8, rfl, hr⟩ := hq
  refine wo_step (v := (.i .i64 x8)) (s_ld rfl e8) ?_
  have hq := forceB_inv hr
  clear hr
  obtain ⟨c9, e9, hr⟩ := hq
  refine wo_step (v := (.b c9)) (s_pure (p_bin rfl rfl (b_leq.trans (cb e9)))) ?_
  refine wo_nil ?_
  refine nx_norm ?_
  have hq := bindO_inv hr
  clear hr
  obtain ⟨o, hr, hk⟩ := hq
  refine jp_mono (J := g98_J0 v2 v4 o) ?_ ?_
  · clear hk
    have hq := cond_inv hr
    clear hr
    rcases hq with ⟨rfl, hr⟩ | ⟨rfl, hr⟩
    · refine w_condT rfl ?_
      refine w_ops ?_
      have hq := bindO_inv hr
      clear hr
      obtain ⟨v10, e10, hr⟩ := hq
      refine wo_step (v := v10) (s_pure (o_faddr rfl e10)) ?_
      have hq := bindO_inv hr
      clear hr
      obtain ⟨v11, e11, hr⟩ := hq
      have hq := asI_inv hr
      clear hr
      obtain ⟨x11, rfl, hr⟩ := hq
      refine wo_step (v := (.i .i64 x11)) (s_ld rfl e11) ?_
      have hq := forceI_inv hr
      clear hr
      obtain ⟨x12, e12, hr⟩ := hq
      refine wo_step (v := (.i .i64 x12)) (s_pure (p_bin rfl rfl (b_add.trans (ci e12)))) ?_
      have hq := bindO_inv hr
      clear hr
      obtain ⟨v13, e13, hr⟩ := hq
      refine wo_step (v := v13) (s_pure (o_faddr rfl e13)) ?_
      have hq := bindP_inv hr
      clear hr
      obtain ⟨vn, m_4, en, hr⟩ := hq
      refine wo_stepN (s_st rfl rfl en) ?_
      refine wo_nil ?_
      cases hr
      exact ⟨_, _, rfl, rfl, rfl, gl rfl, gl rfl⟩
    · refine w_condF rfl ?_
      refine w_skip ?_
      cases hr
      exact ⟨_, _, rfl, rfl, rfl, gl rfl, gl rfl⟩
  · clear hr
    have hr := hk
    clear hk
    obtain ⟨m_5, ho⟩ : ∃ z, z = o := ⟨_, rfl⟩
    subst ho
    rintro _ mm t_1 ⟨rfl, rfl, g2, g4⟩
    refine nx_norm ?_
    refine w_seq ?_
    refine w_ops ?_
    have hq := bindO_inv hr
    clear hr
    obtain ⟨v14, e14, hr⟩ := hq
    refine wo_step (v := v14) (s_ld g2 e14) ?_
    have hq := bindP_inv hr
    clear hr
    obtain ⟨vn_1, m_6, en_1, hr⟩ := hq
    refine wo_stepN (s_st g4 rfl en_1) ?_
    refine wo_nil ?_
    refine nx_norm ?_
    refine w_ret ?_
    have hq := bindO_inv hr
    clear hr
    obtain ⟨vr, er, hr⟩ := hq
    exact qf ret_ok (rc g4 er rn) hr

/- cmp.Or[int] -/
abbrev g99_I0 (v0 : AVal) (x7 : Int) (m0 : Mm) (s : Int) (m1 : Mm) (t1 : Tr) : Prop :=
  match s with
  | x8 => m0 = m1 ∧ t1.get 8 = (.i .i64 x8) ∧ t1.get 3 = (.i .i64 0) ∧ t1.get 6 = v0 ∧ t1.get 7 = (.i .i64 x7)
abbrev g99_J0 (v0 : AVal) (x7 : Int) (m0 : Mm) (o : (Unit ⊕ Int)) (e : AExit) (m1 : Mm) (t1 : Tr) : Prop :=
  match o with
  | (.inl _) => e = (.exit 0) ∧ m0 = m1 ∧ t1.get 3 = (.i .i64 0)
  | (.inr y2) => e = .ret ∧ m0 = m1 ∧ t1.get 2 = (.i .i64 y2)
def g99_b0 (M : Means) (ro : List ABlk) (v0 : AVal) (x7 : Int) (m0 : Mm) (x8 : Int) : Option ((Int) ⊕ ((Unit ⊕ Int))) :=
  forceB (ltI x8 x7) fun c9 =>
  cond c9 (
    bindO (evP .e (.ixS 1 (.c v0) (.c (.i .i64 x8)))) fun v10 =>
    bindO (ldM ro m0 true 1 v10) fun v11 =>
    asI .i64 v11 fun x11 =>
    forceB (!eqI x11 0) fun c14 =>
    cond c14 (
      some (.inr (.inr x11))) (
      forceI (wr .i64 (x8 + 1)) fun x16 =>
      some (.inl x16))) (
    some (.inr (.inl ())))
def g99 (M : Means) (ro : List ABlk) (v0 : AVal) (m0 : Mm) : Option (AVal × Heap × Nat × Nat) :=
  bindO (evP .e (.len false (.c v0))) fun v7 =>
  asI .i64 v7 fun x7 =>
  bindO (M.loop (S := Int) (R := (Unit ⊕ Int)) (fun s => g99_b0 M ro v0 x7 m0 s) 0) fun o => match o with
  | (.inl _) =>
    finM m0.h.length (tupA [(.i .i64 0)]) m0
  | (.inr x2) =>
    finM m0.h.length (tupA [(.i .i64 x2)]) m0

theorem g99_ok {ro : List ABlk} {O : Caller} {M : Means} (hM : M.Ok ⟨F, O⟩ ro) {v0 h r} (ho : O 99 [v0] h = none) (hr : g99 M ro v0 ⟨h, h.length, h.length⟩ = some r) : callX ⟨F, O⟩ ro 99 [v0] h = some r := by
  refine callX_of (F := ⟨F, O⟩) (fn := fn99) (g := g99 M ro v0) ho rfl rfl hr ?_
  clear ho
  clear hr
  intro m0 t0 ht hr
  have g0 : t0.get 0 = v0 := ht 0
  clear ht
  unfold g99 at hr
  refine w_seq ?_
  refine w_ops ?_
  refine wo_step (v := (.i .i64 0)) (s_pure (p_mv rfl)) ?_
  refine wo_nil ?_
  refine nx_norm ?_
  refine w_seq ?_
  refine w_ops ?_
  refine wo_step (v := (.i .i64 0)) (s_pure (p_mv rfl)) ?_
  refine wo_nil ?_
  refine nx_norm ?_
  refine w_seq ?_
  refine w_seq ?_
  refine w_ops ?_
  refine wo_step (v := v0) (s_pure (p_mv g0)) ?_
  have hq := bindO_inv hr
  clear hr
  obtain ⟨v7, e7, hr⟩ := hq
  have hq := asI_inv hr
  clear hr
  obtain ⟨x7, rfl, hr⟩ := hq
  refine wo_step (v := (.i .i64 x7)) (s_pure (o_len rfl e7)) ?_
  refine wo_step (v := (.i .i64 0)) (s_pure (p_mv rfl)) ?_
  refine wo_nil ?_
  refine nx_norm ?_
  refine w_block ?_
  have hq := bindO_inv hr
  clear hr
  obtain ⟨o, hl, hr⟩ := hq
  obtain ⟨n, hl⟩ := hM.loop _ _ _ hl
  refine jp_mono (w_loop _ (g99_I0 v0 x7 m0) (g99_J0 v0 x7 m0) ?_ n _ _ _ _ hl ⟨rfl, gl rfl, gl rfl, gl rfl, gl rfl⟩) ?_
  · clear hr hl
    intro s mm_2 t_1 o hi hr
    obtain ⟨x8, hs⟩ : ∃ z, z = s := ⟨_, rfl⟩
    subst hs
    obtain ⟨rfl, g8, g3, g6, g7⟩ := hi
    unfold g99_b0 at hr
    refine w_seq ?_
    refine w_ops ?_
    have hq := forceB_inv hr
    clear hr
    obtain ⟨c9, e9, hr⟩ := hq
    refine wo_step (v := (.b c9)) (s_pure (p_bin g8 g7 (b_lss.trans (cb e9)))) ?_
    refine wo_nil ?_
    refine nx_norm ?_
    refine w_seq ?_
    have hq := cond_inv hr
    clear hr
    rcases hq with ⟨rfl, hr⟩ | ⟨rfl, hr⟩
    · refine w_condT rfl ?_
      refine w_skip ?_
      refine nx_norm ?_
      refine w_seq ?_
      refine w_block ?_
      refine w_seq ?_
      refine w_ops ?_
      have hq := bindO_inv hr
      clear hr
      obtain ⟨v10, e10, hr⟩ := hq
      refine wo_step (v := v10) (s_pure (o_ixS g6 g8 e10)) ?_
      have hq := bindO_inv hr
      clear hr
      obtain ⟨v11, e11, hr⟩ := hq
      have hq := asI_inv hr
      clear hr
      obtain ⟨x11, rfl, hr⟩ := hq
      refine wo_step (v := (.i .i64 x11)) (s_ld rfl e11) ?_
      refine wo_step (v := (.i .i64 x11)) (s_pure (p_mv rfl)) ?_
      refine wo_nil ?_
      refine nx_norm ?_
      refine w_seq ?_
      refine w_ops ?_
      refine wo_step (v := (.i .i64 x11)) (s_pure (p_mv rfl)) ?_
      refine wo_step (v := (.i .i64 0)) (s_pure (p_mv g3)) ?_
      have hq := forceB_inv hr
      clear hr
      obtain ⟨c14, e14, hr⟩ := hq
      refine wo_step (v := (.b c14)) (s_pure (p_bin rfl rfl (b_neq.trans (cb e14)))) ?_
      refine wo_nil ?_
      refine nx_norm ?_
      have hq := cond_inv hr
      clear hr
      rcases hq with ⟨rfl, hr⟩ | ⟨rfl, hr⟩
      · refine w_condT rfl ?_
        refine w_seq ?_
        refine w_ops ?_
        refine wo_step (v := (.i .i64 x11)) (s_pure (p_mv rfl)) ?_
        refine wo_step (v := (.i .i64 x11)) (s_pure (p_mv rfl)) ?_
        refine wo_nil ?_
        refine nx_norm ?_
        refine w_ret ?_
        refine bk_ret ?_
        refine nx_ret ?_
        cases hr
        exact ⟨_, _, rfl, ne_norm_ret, rfl, rfl, gl rfl⟩
      · refine w_condF rfl ?_
        refine w_skip ?_
        refine bk_norm ?_
        refine nx_norm ?_
        refine w_ops ?_
        have hq := forceI_inv hr
        clear hr
        obtain ⟨x16, e16, hr⟩ := hq
        refine wo_step (v := (.i .i64 x16)) (s_pure (p_bin g8 rfl (b_add.trans (ci e16)))) ?_
        refine wo_step (v := (.i .i64 x16)) (s_pure (p_mv rfl)) ?_
        refine wo_nil ?_
        cases hr
        exact ⟨_, _, rfl, rfl, rfl, gl rfl, gl g3, gl g6, gl g7⟩
    · refine w_condF rfl ?_
      refine w_exit ?_
      refine nx_exit ?_
      cases hr
      exact ⟨_, _, rfl, ne_norm_exit, rfl, rfl, gl g3⟩
  · rcases o with o | o
    · rintro _ mm t_2 ⟨rfl, rfl, g3⟩
      refine bk_hit ?_
      refine nx_norm ?_
      refine w_seq ?_
      refine w_ops ?_
      refine wo_step (v := (.i .i64 0)) (s_pure (p_mv g3)) ?_
      refine wo_step (v := (.i .i64 0)) (s_pure (p_mv rfl)) ?_
      refine wo_nil ?_
      refine nx_norm ?_
      refine w_ret ?_
      exact qf ret_ok (rt rfl rn) hr
    · obtain ⟨x2, ho⟩ : ∃ z, z = o := ⟨_, rfl⟩
      subst ho
      rintro _ mm_1 t_3 ⟨rfl, rfl, g2⟩
      refine bk_ret ?_
      refine nx_ret ?_
      exact qf ret_ok (rt g2 rn) hr

/- cmp.Compare[int] -/

def g100 (M : Means) (ro : List ABlk) (x0 : Int) (x1 : Int) (m0 : Mm) : Option (AVal × Heap × Nat × Nat) :=
  bindP (callM M.call m0 102 [(.i .i64 x0)]) fun v8 m_1 =>
  asB v8 fun c8 =>
  bindP (callM M.call m_1 102 [(.i .i64 x1)]) fun v10 m_2 =>
  asB v10 fun c10 =>
  cond c8 (
    cond c10 (
      finM m0.h.length (tupA [(.i .i64 0)]) m_2) (
      finM m0.h.length (tupA [(.i .i64 (-1))]) m_2)) (
    cond c10 (
      finM m0.h.length (tupA [(.i .i64 1)]) m_2) (
      forceB (ltI x0 x1) fun c16 =>
      cond c16 (
        finM m0.h.length (tupA [(.i .i64 (-1))]) m_2) (
        forceB (ltI x1 x0) fun c19 =>
        cond c19 (
          finM m0.h.length (tupA [(.i .i64 1)]) m_2) (
          finM m0.h.length (tupA [(.i .i64 0)]) m_2))))

theorem g100_ok {ro : List ABlk} {O : Caller} {M : Means} (hM : M.Ok ⟨F, O⟩ ro) {x0 x1 h r} (ho : O 100 [(.i .i64 x0), (.i .i64 x1)] h = none) (hr : g100 M ro x0 x1 ⟨h, h.length, h.length⟩ = some r) : callX ⟨F, O⟩ ro 100 [(.i .i64 x0), (.i .i64 x1)] h = some r := by
  refine callX_of (F := ⟨F, O⟩) (fn := fn100) (g := g100 M ro x0 x1) ho rfl rfl hr ?_
  clear ho
  clear hr
  intro m0 t0 ht hr
  have g0 : t0.get 0 = (.i .i64 x0) := ht 0
  have g1 : t0.get 1 = (.i .i64 x1) := ht 1
  clear ht
  unfold g100 at hr
  refine w_seq ?_
  refine w_ops ?_
  refine wo_step (v := (.i .i64 0)) (s_pure (p_mv rfl)) ?_
  refine wo_nil ?_
  refine nx_norm ?_
  refine w_seq ?_
  refine w_ops ?_
  refine wo_step (v := (.i .i64 x0)) (s_pure (p_mv g0)) ?_
  have hq := bindP_inv hr
  clear hr
  obtain ⟨v8, m_1, e8, hr⟩ := hq
  have hq := asB_inv hr
  clear hr
  obtain ⟨c8, rfl, hr⟩ := hq
  refine wo_step (v := (.b c8)) (s_call (mc rfl mn) (callM_le hM.call e8)) ?_
  refine wo_step (v := (.b c8)) (s_pure (p_mv rfl)) ?_
  refine wo_nil ?_
  refine nx_norm ?_
  refine w_seq ?_
  refine w_ops ?_
  refine wo_step (v := (.i .i64 x1)) (s_pure (p_mv g1)) ?_
  have hq := bindP_inv hr
  clear hr
  obtain ⟨v10, m_2, e10, hr⟩ := hq
  have hq := asB_inv hr
  clear hr
  obtain ⟨c10, rfl, hr⟩ := hq
  refine wo_step (v := (.b c10)) (s_call (mc rfl mn) (callM_le hM.call e10)) ?_
  refine wo_step (v := (.b c10)) (s_pure (p_mv rfl)) ?_
  refine wo_nil ?_
  refine nx_norm ?_
  refine w_seq ?_
  refine w_seq ?_
  refine w_ops ?_
  refine wo_step (v := (.b c8)) (s_pure (p_mv rfl)) ?_
  refine wo_nil ?_
  refine nx_norm ?_
  have hq := cond_inv hr
  clear hr
  rcases hq with ⟨rfl, hr⟩ | ⟨rfl, hr⟩
  · refine w_condT rfl ?_
    refine w_seq ?_
    refine w_seq ?_
    refine w_ops ?_
    refine wo_step (v := (.b c10)) (s_pure (p_mv rfl)) ?_
    refine wo_nil ?_
    refine nx_norm ?_
    have hq := cond_inv hr
    clear hr
    rcases hq with ⟨rfl, hr⟩ | ⟨rfl, hr⟩
    · refine w_condT rfl ?_
      refine w_seq ?_
      refine w_ops ?_
      refine wo_step (v := (.i .i64 0)) (s_pure (p_mv rfl)) ?_
      refine wo_nil ?_
      refine nx_norm ?_
      refine w_ret ?_
      refine nx_ret ?_
      refine nx_ret ?_
      exact qf ret_ok (rt rfl rn) hr
    · refine w_condF rfl ?_
      refine w_skip ?_
      refine nx_norm ?_
      refine w_seq ?_
      refine w_ops ?_
      refine wo_step (v := (.i .i64 (-1))) (s_pure (p_mv rfl)) ?_
      refine wo_nil ?_
      refine nx_norm ?_
      refine w_ret ?_
      refine nx_ret ?_
      exact qf ret_ok (rt rfl rn) hr
  · refine w_condF rfl ?_
    refine w_skip ?_
    refine nx_norm ?_
    refine w_seq ?_
    refine w_seq ?_
    refine w_ops ?_
    refine wo_step (v := (.b c10)) (s_pure (p_mv rfl)) ?_
    refine wo_nil ?_
    refine nx_norm ?_
    have hq := cond_inv hr
    clear hr
    rcases hq with ⟨rfl, hr⟩ | ⟨rfl, hr⟩
    · refine w_condT rfl ?_
      refine w_seq ?_
      refine w_ops ?_
      refine wo_step (v := (.i .i64 1)) (s_pure (p_mv rfl)) ?_
      refine wo_nil ?_
      refine nx_norm ?_
      refine w_ret ?_
      refine nx_ret ?_
      exact qf ret_ok (rt rfl rn) hr
    · refine w_condF rfl ?_
      refine w_skip ?_
      refine nx_norm ?_
      refine w_seq ?_
      refine w_seq ?_
      refine w_ops ?_
      refine wo_step (v := (.i .i64 x0)) (s_pure (p_mv g0)) ?_
      refine wo_step (v := (.i .i64 x1)) (s_pure (p_mv g1)) ?_
      have hq := forceB_inv hr
      clear hr
      obtain ⟨c16, e16, hr⟩ := hq
      refine wo_step (v := (.b c16)) (s_pure (p_bin rfl rfl (b_lss.trans (cb e16)))) ?_
      refine wo_nil ?_
      refine nx_norm ?_
      have hq := cond_inv hr
      clear hr
      rcases hq with ⟨rfl, hr⟩ | ⟨rfl, hr⟩
      · refine w_condT rfl ?_
        refine w_seq ?_
        refine w_ops ?_
        refine wo_step (v := (.i .i64 (-1))) (s_pure (p_mv rfl)) ?_
        refine wo_nil ?_
        refine nx_norm ?_
        refine w_ret ?_
        refine nx_ret ?_
        exact qf ret_ok (rt rfl rn) hr
      · refine w_condF rfl ?_
        refine w_skip ?_
        refine nx_norm ?_
        refine w_seq ?_
        refine w_seq ?_
        refine w_ops ?_
        refine wo_step (v := (.i .i64 x0)) (s_pure (p_mv g0)) ?_
        refine wo_step (v := (.i .i64 x1)) (s_pure (p_mv g1)) ?_
        have hq := forceB_inv hr
        clear hr
        obtain ⟨c19, e19, hr⟩ := hq
        refine wo_step (v := (.b c19)) (s_pure (p_bin rfl rfl (b_gtr.trans (cb e19)))) ?_
        refine wo_nil ?_
        refine nx_norm ?_
        have hq := cond_inv hr
        clear hr
        rcases hq with ⟨rfl, hr⟩ | ⟨rfl, hr⟩
        · refine w_condT rfl ?_
          refine w_seq ?_
          refine w_ops ?_
          refine wo_step (v := (.i .i64 1)) (s_pure (p_mv rfl)) ?_
          refine wo_nil ?_
          refine nx_norm ?_
          refine w_ret ?_
          refine nx_ret ?_
          exact qf ret_ok (rt rfl rn) hr
        · refine w_condF rfl ?_
          refine w_skip ?_
          refine nx_norm ?_
          refine w_seq ?_
          refine w_ops ?_
          refine wo_step (v := (.i .i64 0)) (s_pure (p_mv rfl)) ?_
          refine wo_nil ?_
          refine nx_norm ?_
          refine w_ret ?_
          exact qf ret_ok (rt rfl rn) hr

/- cmp.Compare[byte] -/

def g101 (M : Means) (ro : List ABlk) (x0 : Int) (x1 : Int) (m0 : Mm) : Option (AVal × Heap × Nat × Nat) :=
  bindP (callM M.call m0 103 [(.i .u8 x0)]) fun v8 m_1 =>
  asB v8 fun c8 =>
  bindP (callM M.call m_1 103 [(.i .u8 x1)]) fun v10 m_2 =>
  asB v10 fun c10 =>
  cond c8 (
    cond c10 (
      finM m0.h.length (tupA [(.i .i64 0)]) m_2) (
      finM m0.h.length (tupA [(.i .i64 (-1))]) m_2)) (
    cond c10 (
      finM m0.h.length (tupA [(.i .i64 1)]) m_2) (
      forceB (ltI x0 x1) fun c16 =>
      cond c16 (
        finM m0.h.length (tupA [(.i .i64 (-1))]) m_2) (
        forceB (ltI x1 x0) fun c19 =>
        cond c19 (
          finM m0.h.length (tupA [(.i .i64 1)]) m_2) (
          finM m0.h.length (tupA [(.i .i64 0)]) m_2))))

theorem g101_ok {ro : List ABlk} {O : Caller} {M : Means} (hM : M.Ok ⟨F, O⟩ ro) {x0 x1 h r} (ho : O 101 [(.i .u8 x0), (.i .u8 x1)] h = none) (hr : g101 M ro x0 x1 ⟨h, h.length, h.length⟩ = some r) : callX ⟨F, O⟩ ro 101 [(.i .u8 x0), (.i .u8 x1)] h = some r := by
  refine callX_of (F := ⟨F, O⟩) (fn := fn101) (g := g101 M ro x0 x1) ho rfl rfl hr ?_
  clear ho
  clear hr
  intro m0 t0 ht hr
  have g0 : t0.get 0 = (.i .u8 x0) := ht 0
  have g1 : t0.get 1 = (.i .u8 x1) := ht 1
  clear ht
  unfold g101 at hr
  refine w_seq ?_
  refine w_ops ?_
  refine wo_step (v := (.i .i64 0)) (s_pure (p_mv rfl)) ?_
  refine wo_nil ?_
  refine nx_norm ?_
  refine w_seq ?_
  refine w_ops ?_
  refine wo_step (v := (.i .u8 x0)) (s_pure (p_mv g0)) ?_
  have hq := bindP_inv hr
  clear hr
  obtain ⟨v8, m_1, e8, hr⟩ := hq
  have hq := asB_inv hr
  clear hr
  obtain ⟨c8, rfl, hr⟩ := hq
  refine wo_step (v := (.b c8)) (s_call (mc rfl mn) (callM_le hM.call e8)) ?_
  refine wo_step (v := (.b c8)) (s_pure (p_mv rfl)) ?_
  refine wo_nil ?_
  refine nx_norm ?_
  refine w_seq ?_
  refine w_ops ?_
  refine wo_step (v := (.i .u8 x1)) (s_pure (p_mv g1)) ?_
  have hq := bindP_inv hr
  clear hr
  obtain ⟨v10, m_2, e10, hr⟩ := hq
  have hq := asB_inv hr
  clear hr
  obtain ⟨c10, rfl, hr⟩ := hq
  refine wo_step (v := (.b c10)) (s_call (mc rfl mn) (callM_le hM.call e10)) ?_
  refine wo_step (v := (.b c10)) (s_pure (p_mv rfl)) ?_
  refine wo_nil ?_
  refine nx_norm ?_
  refine w_seq ?_
  refine w_seq ?_
  refine w_ops ?_
  refine wo_step (v := (.b c8)) (s_pure (p_mv rfl)) ?_
  refine wo_nil ?_
  refine nx_norm ?_
  have hq := cond_inv hr
  clear hr
  rcases hq with ⟨rfl, hr⟩ | ⟨rfl, hr⟩
  · refine w_condT rfl ?_
    refine w_seq ?_
    refine w_seq ?_
    refine w_ops ?_
    refine wo_step (v := (.b c10)) (s_pure (p_mv rfl)) ?_
    refine wo_nil ?_
    refine nx_norm ?_
    have hq := cond_inv hr
    clear hr
    rcases hq with ⟨rfl, hr⟩ | ⟨rfl, hr⟩
    · refine w_condT rfl ?_
      refine w_seq ?_
      refine w_ops ?_
      refine wo_step (v := (.i .i64 0)) (s_pure (p_mv rfl)) ?_
      refine wo_nil ?_
      refine nx_norm ?_
      refine w_ret ?_
      refine nx_ret ?_
      refine nx_ret ?_
      exact qf ret_ok (rt rfl rn) hr
    · refine w_condF rfl ?_
      refine w_skip ?_
      refine nx_norm ?_
      refine w_seq ?_
      refine w_ops ?_
      refine wo_step (v := (.i .i64 (-1))) (s_pure (p_mv rfl)) ?_
      refine wo_nil ?_
      refine nx_norm ?_
      refine w_ret ?_
      refine nx_ret ?_
      exact qf ret_ok (rt rfl rn) hr
  · refine w_condF rfl ?_
    refine w_skip ?_
    refine nx_norm ?_
    refine w_seq ?_
    refine w_seq ?_
    refine w_ops ?_
    refine wo_step (v := (.b c10)) (s_pure (p_mv rfl)) ?_
    refine wo_nil ?_
    refine nx_norm ?_
    have hq := cond_inv hr
    clear hr
    rcases hq with ⟨rfl, hr⟩ | ⟨rfl, hr⟩
    · refine w_condT rfl ?_
      refine w_seq ?_
      refine w_ops ?_
      refine wo_step (v := (.i .i64 1)) (s_pure (p_mv rfl)) ?_
      refine wo_nil ?_
      refine nx_norm ?_
      refine w_ret ?_
      refine nx_ret ?_
      exact qf ret_ok (rt rfl rn) hr
    · refine w_condF rfl ?_
      refine w_skip ?_
      refine nx_norm ?_
      refine w_seq ?_
      refine w_seq ?_
      refine w_ops ?_
      refine wo_step (v := (.i .u8 x0)) (s_pure (p_mv g0)) ?_
      refine wo_step (v := (.i .u8 x1)) (s_pure (p_mv g1)) ?_
      have hq := forceB_inv hr
      clear hr
      obtain ⟨c16, e16, hr⟩ := hq
      refine wo_step (v := (.b c16)) (s_pure (p_bin rfl rfl (b_lss.trans (cb e16)))) ?_
      refine wo_nil ?_
      refine nx_norm ?_
      have hq := cond_inv hr
      clear hr
      rcases hq with ⟨rfl, hr⟩ | ⟨rfl, hr⟩
      · refine w_condT rfl ?_
        refine w_seq ?_
        refine w_ops ?_
        refine wo_step (v := (.i .i64 (-1))) (s_pure (p_mv rfl)) ?_
        refine wo_nil ?_
        refine nx_norm ?_
        refine w_ret ?_
        refine nx_ret ?_
        exact qf ret_ok (rt rfl rn) hr
      · refine w_condF rfl ?_
        refine w_skip ?_
        refine nx_norm ?_
        refine w_seq ?_
        refine w_seq ?_
        refine w_ops ?_
        refine wo_step (v := (.i .u8 x0)) (s_pure (p_mv g0)) ?_
        refine wo_step (v := (.i .u8 x1)) (s_pure (p_mv g1)) ?_
        have hq := forceB_inv hr
        clear hr
        obtain ⟨c19, e19, hr⟩ := hq
        refine wo_step (v := (.b c19)) (s_pure (p_bin rfl rfl (b_gtr.trans (cb e19)))) ?_
        refine wo_nil ?_
        refine nx_norm ?_
        have hq := cond_inv hr
        clear hr
        rcases hq with ⟨rfl, hr⟩ | ⟨rfl, hr⟩
        · refine w_condT rfl ?_
          refine w_seq ?_
          refine w_ops ?_
          refine wo_step (v := (.i .i64 1)) (s_pure (p_mv rfl)) ?_
          refine wo_nil ?_
          refine nx_norm ?_
          refine w_ret ?_
          refine nx_ret ?_
          exact qf ret_ok (rt rfl rn) hr
        · refine w_condF rfl ?_
          refine w_skip ?_
          refine nx_norm ?_
          refine w_seq ?_
          refine w_ops ?_
          refine wo_step (v := (.i .i64 0)) (s_pure (p_mv rfl)) ?_
          refine wo_nil ?_
          refine nx_norm ?_
          refine w_ret ?_
          exact qf ret_ok (rt rfl rn) hr

/- cmp.isNaN[int] -/

def g102 (M : Means) (ro : List ABlk) (x0 : Int) (m0 : Mm) : Option (AVal × Heap × Nat × Nat) :=
  forceB (!eqI x0 x0) fun c5 =>
  finM m0.h.length (tupA [(.b c5)]) m0

theorem g102_ok {ro : List ABlk} {O : Caller} {M : Means} (hM : M.Ok ⟨F, O⟩ ro) {x0 h r} (ho : O 102 [(.i .i64 x0)] h = none) (hr : g102 M ro x0 ⟨h, h.length, h.length⟩ = some r) : callX ⟨F, O⟩ ro 102 [(.i .i64 x0)] h = some r := by
  refine callX_of (F := ⟨F, O⟩) (fn := fn102) (g := g102 M ro x0) ho rfl rfl hr ?_
  clear ho
  clear hr
  intro m0 t0 ht hr
  have g0 : t0.get 0 = (.i .i64 x0) := ht 0
  clear ht
  unfold g102 at hr
  refine w_seq ?_
  refine w_ops ?_
  refine wo_step (v := (.b false)) (s_pure (p_mv rfl)) ?_
  refine wo_nil ?_
  refine nx_norm ?_
  refine w_seq ?_
  refine w_ops ?_
  refine wo_step (v := (.i .i64 x0)) (s_pure (p_mv g0)) ?_
  refine wo_step (v := (.i .i64 x0)) (s_pure (p_mv g0)) ?_
  have hq := forceB_inv hr
  clear hr
  obtain ⟨c5, e5, hr⟩ := hq
  refine wo_step (v := (.b c5)) (s_pure (p_bin rfl rfl (b_neq.trans (cb e5)))) ?_
  refine wo_step (v := (.b c5)) (s_pure (p_mv rfl)) ?_
  refine wo_nil ?_
  refine nx_norm ?_
  refine w_ret ?_
  exact qf ret_ok (rt rfl rn) hr

/- cmp.isNaN[byte] -/

def g103 (M : Means) (ro : List ABlk) (x0 : Int) (m0 : Mm) : Option (AVal × Heap × Nat × Nat) :=
  forceB (!eqI x0 x0) fun c5 =>
  finM m0.h.length (tupA [(.b c5)]) m0

theorem g103_ok {ro : List ABlk} {O : Caller} {M : Means} (hM : M.Ok ⟨F, O⟩ ro) {x0 h r} (ho : O 103 [(.i .u8 x0)] h = none) (hr : g103 M ro x0 ⟨h, h.length, h.length⟩ = some r) : callX ⟨F, O⟩ ro 103 [(.i .u8 x0)] h = some r := by
  refine callX_of (F := ⟨F, O⟩) (fn := fn103) (g := g103 M ro x0) ho rfl rfl hr ?_
  clear ho
  clear hr
  intro m0 t0 ht hr
  have g0 : t0.get 0 = (.i .u8 x0) := ht 0
  clear ht
  unfold g103 at hr
  refine w_seq ?_
  refine w_ops ?_
  refine wo_step (v := (.b false)) (s_pure (p_mv rfl)) ?_
  refine wo_nil ?_
  refine nx_norm ?_
  refine w_seq ?_
  refine w_ops ?_
  refine wo_step (v := (.i .u8 x0)) (s_pure (p_mv g0)) ?_
  refine wo_step (v := (.i .u8 x0)) (s_pure (p_mv g0)) ?_
  have hq := forceB_inv hr
  clear hr
  obtain ⟨c5, e5, hr⟩ := hq
  refine wo_step (v := (.b c5)) (s_pure (p_bin rfl rfl (b_neq.trans (cb e5)))) ?_
  refine wo_step (v := (.b c5)) (s_pure (p_mv rfl)) ?_
  refine wo_nil ?_
  refine nx_norm ?_
  refine w_ret ?_
  exact qf ret_ok (rt rfl rn) hr

end Go.Proofs.Ythcadkmfbgonjaa.T

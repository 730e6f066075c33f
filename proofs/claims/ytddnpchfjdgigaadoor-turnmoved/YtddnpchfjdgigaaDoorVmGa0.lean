/- Plain functions, and that the small machine answers as they do. -/
import Derived.Test.YtddnpchfjdgigaaDoorVmP
import Derived.Test.YtddnpchfjdgigaaDoorVmAE
open Go.Vm
set_option linter.unusedVariables false
namespace Go.Proofs.YtddnpchfjdgigaaDoor.T
open Go
/- dibber/dibberlaw04.TurnMoved -/
abbrev g11_J0  (o : Bool × Mm) (m1 : Mm) (t1 : Tr) : Prop :=
  match o with
  | (c44, m_4) => m_4 = m1 ∧ t1.get 44 = (.b c44)
abbrev g11_J1 (x0 : Int) (x1 : Int) (v2 : AVal) (v3 : AVal) (x4 : Int) (v35 : AVal) (o : Bool × Mm) (m1 : Mm) (t1 : Tr) : Prop :=
  match o with
  | (c56, m_7) => m_7 = m1 ∧ t1.get 56 = (.b c56) ∧ t1.get 0 = (.i .i64 x0) ∧ t1.get 1 = (.i .i64 x1) ∧ t1.get 2 = v2 ∧ t1.get 3 = v3 ∧ t1.get 4 = (.i .u8 x4) ∧ t1.get 11 = v35
abbrev g11_J2 (x0 : Int) (x1 : Int) (v2 : AVal) (v3 : AVal) (x4 : Int) (v35 : AVal) (m_7 : Mm) (o : Bool) (m1 : Mm) (t1 : Tr) : Prop :=
  match o with
  | c63 => m_7 = m1 ∧ t1.get 63 = (.b c63) ∧ t1.get 0 = (.i .i64 x0) ∧ t1.get 1 = (.i .i64 x1) ∧ t1.get 2 = v2 ∧ t1.get 3 = v3 ∧ t1.get 4 = (.i .u8 x4) ∧ t1.get 11 = v35
abbrev g11_I3 (x0 : Int) (x1 : Int) (v2 : AVal) (v3 : AVal) (x4 : Int) (v35 : AVal) (s : AVal × AVal × Int × Mm) (m1 : Mm) (t1 : Tr) : Prop :=
  match s with
  | (v13, v14, x15, m_9) => m_9 = m1 ∧ t1.get 13 = v13 ∧ t1.get 14 = v14 ∧ t1.get 15 = (.i .i64 x15) ∧ t1.get 0 = (.i .i64 x0) ∧ t1.get 1 = (.i .i64 x1) ∧ t1.get 2 = v2 ∧ t1.get 3 = v3 ∧ t1.get 4 = (.i .u8 x4) ∧ t1.get 11 = v35
abbrev g11_J3 (x0 : Int) (x1 : Int) (v2 : AVal) (v3 : AVal) (x4 : Int) (v35 : AVal) (o : (AVal × AVal × Mm)) (e : AExit) (m1 : Mm) (t1 : Tr) : Prop :=
  match o with
  | (y13, y14, mo) => e = (.exit 0) ∧ mo = m1 ∧ t1.get 13 = y13 ∧ t1.get 14 = y14 ∧ t1.get 0 = (.i .i64 x0) ∧ t1.get 1 = (.i .i64 x1) ∧ t1.get 2 = v2 ∧ t1.get 11 = v35
def g11_b3 (M : Means) (ro : List ABlk) (x0 : Int) (x1 : Int) (v2 : AVal) (v3 : AVal) (x4 : Int) (v35 : AVal) (v13 : AVal) (v14 : AVal) (x15 : Int) (m_9 : Mm) : Option ((AVal × AVal × Int × Mm) ⊕ ((AVal × AVal × Mm))) :=
  bindO (evP .e (.len false (.c v3))) fun v66 =>
  asI .i64 v66 fun x66 =>
  forceB (ltI x15 x66) fun c67 =>
  cond c67 (
    bindO (evP .e (.ixS 1 (.c v3) (.c (.i .i64 x15)))) fun v73 =>
    bindO (ldM ro m_9 true 1 v73) fun v74 =>
    asI .i64 v74 fun x74 =>
    forceI (wr .i64 x4) fun x76 =>
    forceI (wr .i64 (x74 + x76)) fun x77 =>
    chk (!eqI x0 (.ofNat 0)) <|
    forceI (Int.tmod x77 x0) fun x79 =>
    bindP (stepM ro m_9 (.bsl 3 1 [(AVal.i IntKind.i64 0)] 1 [((0, 1), .c (.i .i64 x79))])) fun v80 m_10 =>
    bindP (stepM ro m_10 (.app 3 1 8 [(AVal.i IntKind.i64 0)] (.c v13) (.c v80))) fun v81 m_11 =>
    bindO (evP .e (.ixS 1 (.c v3) (.c (.i .i64 x15)))) fun v85 =>
    bindO (evP .e (.ixS 1 (.c v3) (.c (.i .i64 0)))) fun v88 =>
    bindO (ldA ro m_11.h true 1 v85) fun v86 =>
    asI .i64 v86 fun x86 =>
    bindO (ldA ro m_11.h true 1 v88) fun v89 =>
    asI .i64 v89 fun x89 =>
    forceI (wr .i64 (x86 - x89)) fun x90 =>
    forceI (wr .i64 (x90 + x0)) fun x92 =>
    chk (!eqI x0 (.ofNat 0)) <|
    forceI (Int.tmod x92 x0) fun x94 =>
    bindP (stepM ro m_11 (.bsl 3 1 [(AVal.i IntKind.i64 0)] 1 [((0, 1), .c (.i .i64 x94))])) fun v95 m_12 =>
    bindP (stepM ro m_12 (.app 3 1 8 [(AVal.i IntKind.i64 0)] (.c v14) (.c v95))) fun v96 m_13 =>
    forceI (wr .i64 (x15 + 1)) fun x69 =>
    some (.inl (v81, v96, x69, m_13))) (
    some (.inr (v13, v14, m_9)))
abbrev g11_J4 (x0 : Int) (x1 : Int) (v2 : AVal) (v35 : AVal) (v103 : AVal) (c111 : Bool) (m_16 : Mm) (o : Bool) (m1 : Mm) (t1 : Tr) : Prop :=
  match o with
  | c118 => m_16 = m1 ∧ t1.get 118 = (.b c118) ∧ t1.get 0 = (.i .i64 x0) ∧ t1.get 1 = (.i .i64 x1) ∧ t1.get 2 = v2 ∧ t1.get 11 = v35 ∧ t1.get 16 = v103 ∧ t1.get 18 = (.b c111)
abbrev g11_J5 (x0 : Int) (x1 : Int) (v2 : AVal) (v35 : AVal) (c111 : Bool) (o : Bool × Mm) (m1 : Mm) (t1 : Tr) : Prop :=
  match o with
  | (c124, m_17) => m_17 = m1 ∧ t1.get 124 = (.b c124) ∧ t1.get 0 = (.i .i64 x0) ∧ t1.get 1 = (.i .i64 x1) ∧ t1.get 2 = v2 ∧ t1.get 11 = v35 ∧ t1.get 18 = (.b c111)
abbrev g11_I6 (x0 : Int) (x1 : Int) (v2 : AVal) (v35 : AVal) (c111 : Bool) (m_17 : Mm) (s : Bool × Int) (m1 : Mm) (t1 : Tr) : Prop :=
  match s with
  | (c20, x21) => m_17 = m1 ∧ t1.get 20 = (.b c20) ∧ t1.get 21 = (.i .i64 x21) ∧ t1.get 0 = (.i .i64 x0) ∧ t1.get 1 = (.i .i64 x1) ∧ t1.get 2 = v2 ∧ t1.get 11 = v35 ∧ t1.get 18 = (.b c111)
abbrev g11_J6 (x0 : Int) (x1 : Int) (v2 : AVal) (v35 : AVal) (c111 : Bool) (m_17 : Mm) (o : Bool) (e : AExit) (m1 : Mm) (t1 : Tr) : Prop :=
  match o with
  | y20 => e = (.exit 2) ∧ m_17 = m1 ∧ t1.get 20 = (.b y20) ∧ t1.get 0 = (.i .i64 x0) ∧ t1.get 1 = (.i .i64 x1) ∧ t1.get 2 = v2 ∧ t1.get 18 = (.b c111)
abbrev g11_J7 (x0 : Int) (x1 : Int) (v2 : AVal) (v35 : AVal) (c111 : Bool) (x21 : Int) (m_17 : Mm) (o : Bool) (m1 : Mm) (t1 : Tr) : Prop :=
  match o with
  | c149 => m_17 = m1 ∧ t1.get 149 = (.b c149) ∧ t1.get 0 = (.i .i64 x0) ∧ t1.get 1 = (.i .i64 x1) ∧ t1.get 2 = v2 ∧ t1.get 11 = v35 ∧ t1.get 18 = (.b c111) ∧ t1.get 21 = (.i .i64 x21)
def g11_b6 (M : Means) (ro : List ABlk) (x0 : Int) (x1 : Int) (v2 : AVal) (v35 : AVal) (c111 : Bool) (m_17 : Mm) (c20 : Bool) (x21 : Int) : Option ((Bool × Int) ⊕ (Bool)) :=
  bindO (evP .e (.len false (.c v2))) fun v127 =>
  asI .i64 v127 fun x127 =>
  forceB (ltI x21 x127) fun c128 =>
  cond c128 (
    bindO (cond c20 (
      bindO (evP .e (.ixS 1 (.c v35) (.c (.i .i64 x21)))) fun v135 =>
      bindO (ldA ro m_17.h true 1 v135) fun v136 =>
      asI .i64 v136 fun x136 =>
      bindO (evP .e (.ixS 4 (.c v2) (.c (.i .i64 x21)))) fun v139 =>
      bindO (evP .e (.faddr 3 (.c v139))) fun v140 =>
      bindO (ldA ro m_17.h true 1 v140) fun v141 =>
      asI .i64 v141 fun x141 =>
      bindO (evP .e (.ixS 4 (.c v2) (.c (.i .i64 x21)))) fun v144 =>
      bindO (evP .e (.faddr 2 (.c v144))) fun v145 =>
      bindO (ldA ro m_17.h true 1 v145) fun v146 =>
      asI .i64 v146 fun x146 =>
      forceI (wr .i64 (x141 - x146)) fun x147 =>
      forceB (!ltI x147 x136) fun c148 =>
      some c148) (
      some false)) fun c149 =>
    forceI (wr .i64 (x21 + 1)) fun x130 =>
    some (.inl (c149, x130))) (
    some (.inr c20))
abbrev g11_J8 (m_19 : Mm) (o : Bool) (m1 : Mm) (t1 : Tr) : Prop :=
  match o with
  | c167 => m_19 = m1 ∧ t1.get 167 = (.b c167)
abbrev g11_J9 (m_19 : Mm) (o : Bool) (m1 : Mm) (t1 : Tr) : Prop :=
  match o with
  | c167_1 => m_19 = m1 ∧ t1.get 167 = (.b c167_1)
abbrev g11_J10  (o : Bool × Mm) (m1 : Mm) (t1 : Tr) : Prop :=
  match o with
  | (c170, m_20) => m_20 = m1 ∧ t1.get 170 = (.b c170)
def g11 (M : Means) (ro : List ABlk) (x0 : Int) (x1 : Int) (v2 : AVal) (v3 : AVal) (x4 : Int) (m0 : Mm) : Option (AVal × Heap × Nat × Nat) :=
  bindP (callM M.call m0 15 [v2, v3, AVal.nsl]) fun v26 m_1 =>
  asB v26 fun c26 =>
  forceB (!c26) fun c27 =>
  cond c27 (
    bindP (callM M.call m_1 16 []) fun v28 m_2 =>
    asB v28 fun c28 =>
    finM m0.h.length (tupA [(.b c28)]) m_2) (
    bindP (callM M.call m_1 28 [(.i .i64 x0), (.i .i64 x1), v2, v3]) fun v34 m_3 =>
    bindO (evP .e (.ext 0 (.c v34))) fun v35 =>
    bindO (evP .e (.ext 1 (.c v34))) fun v36 =>
    asI .i64 v36 fun x36 =>
    forceB (!eqI x36 0) fun c38 =>
    cond c38 (
      bindO (evP .e (.len false (.c v35))) fun v40 =>
      asI .i64 v40 fun x40 =>
      forceB (eqI x40 0) fun c41 =>
      bindO (cond c41 (
        bindP (callM M.call m_3 16 []) fun v43 m_5 =>
        asB v43 fun c43 =>
        some (c43, m_5)) (
        some (false, m_3))) fun ⟨c44, m_4⟩ =>
      finM m0.h.length (tupA [(.b c44)]) m_4) (
      bindP (callM M.call m_3 20 [(.i .i64 x0), (.i .i64 x1), v2]) fun v48 m_6 =>
      asI .i64 v48 fun x48 =>
      forceB (!eqI x48 0) fun c49 =>
      bindO (cond c49 (
        some (true, m_6)) (
        bindP (callM M.call m_6 41 [(.i .i64 x0), (.i .i64 x1), v3]) fun v54 m_8 =>
        asB v54 fun c54 =>
        forceB (!c54) fun c55 =>
        some (c55, m_8))) fun ⟨c56, m_7⟩ =>
      bindO (cond c56 (
        some true) (
        bindO (evP .e (.len false (.c v35))) fun v59 =>
        asI .i64 v59 fun x59 =>
        bindO (evP .e (.len false (.c v2))) fun v61 =>
        asI .i64 v61 fun x61 =>
        forceB (!eqI x59 x61) fun c62 =>
        some c62)) fun c63 =>
      cond c63 (
        finM m0.h.length (tupA [(.b false)]) m_7) (
        bindO (M.loop (S := AVal × AVal × Int × Mm) (R := (AVal × AVal × Mm)) (fun s => g11_b3 M ro x0 x1 v2 v3 x4 v35 s.1 s.2.1 s.2.2.1 s.2.2.2) (AVal.nsl, AVal.nsl, 0, m_7)) fun ⟨v13_1, v14_1, m_14⟩ =>
        bindP (callM M.call m_14 28 [(.i .i64 x0), (.i .i64 x1), v2, v13_1]) fun v102 m_15 =>
        bindO (evP .e (.ext 0 (.c v102))) fun v103 =>
        bindO (evP .e (.ext 1 (.c v102))) fun v104 =>
        asI .i64 v104 fun x104 =>
        bindP (callM M.call m_15 26 [(.i .i64 x0), (.i .i64 x1), v2, v14_1]) fun v110 m_16 =>
        bindO (evP .e (.ext 0 (.c v110))) fun v111 =>
        asB v111 fun c111 =>
        bindO (evP .e (.ext 1 (.c v110))) fun v112 =>
        asI .i64 v112 fun x112 =>
        forceB (!eqI x104 0) fun c114 =>
        bindO (cond c114 (
          some true) (
          forceB (!eqI x112 0) fun c117 =>
          some c117)) fun c118 =>
        bindO (cond c118 (
          some (true, m_16)) (
          bindP (callM M.call m_16 19 [v35, v103]) fun v122 m_18 =>
          asB v122 fun c122 =>
          forceB (!c122) fun c123 =>
          some (c123, m_18))) fun ⟨c124, m_17⟩ =>
        cond c124 (
          finM m0.h.length (tupA [(.b false)]) m_17) (
          bindO (M.loop (S := Bool × Int) (R := Bool) (fun s => g11_b6 M ro x0 x1 v2 v35 c111 m_17 s.1 s.2) (true, 0)) fun c20_1 =>
          bindP (callM M.call m_17 17 [(.i .i64 x0), (.i .i64 x1), v2]) fun v154 m_19 =>
          bindO (evP .e (.ext 0 (.c v154))) fun v155 =>
          bindO (evP .e (.ext 1 (.c v154))) fun v156 =>
          asI .i64 v156 fun x156 =>
          forceB (c111 == c20_1) fun c159 =>
          bindO (cond c159 (
            forceB (!c111) fun c162 =>
            bindO (cond c162 (
              some true) (
              forceB (eqI x156 0) fun c165 =>
              some c165)) fun c167_1 =>
            some c167_1) (
            some false)) fun c167 =>
          bindO (cond c167 (
            bindP (callM M.call m_19 16 []) fun v169 m_21 =>
            asB v169 fun c169 =>
            some (c169, m_21)) (
            some (false, m_19))) fun ⟨c170, m_20⟩ =>
          finM m0.h.length (tupA [(.b c170)]) m_20))))

theorem g11_ok {ro : List ABlk} {O : Caller} {M : Means} (hM : M.Ok ⟨F, O⟩ ro) {x0 x1 v2 v3 x4 h r} (ho : O 11 [(.i .i64 x0), (.i .i64 x1), v2, v3, (.i .u8 x4)] h = none) (hr : g11 M ro x0 x1 v2 v3 x4 ⟨h, h.length, h.length⟩ = some r) : callX ⟨F, O⟩ ro 11 [(.i .i64 x0), (.i .i64 x1), v2, v3, (.i .u8 x4)] h = some r := by
  refine callX_of (F := ⟨F, O⟩) (fn := fn11) (g := g11 M ro x0 x1 v2 v3 x4) ho rfl rfl hr ?_
  clear ho
  clear hr
  intro m0 t0 ht hr
  have g0 : t0.get 0 = (.i .i64 x0) := ht 0
  have g1 : t0.get 1 = (.i .i64 x1) := ht 1
  have g2 : t0.get 2 = v2 := ht 2
  have g3 : t0.get 3 = v3 := ht 3
  have g4 : t0.get 4 = (.i .u8 x4) := ht 4
  clear ht
  unfold g11 at hr
  refine w_seq ?_
  refine w_ops ?_
  refine wo_step (v := (.b false)) (s_pure (p_mv rfl)) ?_
  refine wo_nil ?_
  refine nx_norm ?_
  refine w_seq ?_
  refine w_seq ?_
  refine w_ops ?_
  refine wo_step (v := v2) (s_pure (p_mv g2)) ?_
  refine wo_step (v := v3) (s_pure (p_mv g3)) ?_
  have hq := bindP_inv hr
  clear hr
  obtain ⟨v26, m_1, e26, hr⟩ := hq
  have hq := asB_inv hr
  clear hr
  obtain ⟨c26, rfl, hr⟩ := hq
  refine wo_step (v := (.b c26)) (s_call (mc rfl (mc rfl (mc rfl mn))) (callM_le hM.call e26)) ?_
  have hq := forceB_inv hr
  clear hr
  obtain ⟨c27, e27, hr⟩ := hq
  refine wo_step (v := (.b c27)) (s_pure ((p_not rfl).trans (cb e27))) ?_
  refine wo_nil ?_
  refine nx_norm ?_
  have hq := cond_inv hr
  clear hr
  rcases hq with ⟨rfl, hr⟩ | ⟨rfl, hr⟩
  · refine w_condT rfl ?_
    refine w_seq ?_
    refine w_ops ?_
    have hq := bindP_inv hr
    clear hr
    obtain ⟨v28, m_2, e28, hr⟩ := hq
    have hq := asB_inv hr
    clear hr
    obtain ⟨c28, rfl, hr⟩ := hq
    refine wo_step (v := (.b c28)) (s_call mn (callM_le hM.call e28)) ?_
    refine wo_step (v := (.b c28)) (s_pure (p_mv rfl)) ?_
    refine wo_nil ?_
    refine nx_norm ?_
    refine w_ret ?_
    refine nx_ret ?_
    exact qf ret_ok (rt rfl rn) hr
  · refine w_condF rfl ?_
    refine w_skip ?_
    refine nx_norm ?_
    refine w_seq ?_
    refine w_ops ?_
    refine wo_step (v := (.i .i64 x0)) (s_pure (p_mv g0)) ?_
    refine wo_step (v := (.i .i64 x1)) (s_pure (p_mv g1)) ?_
    refine wo_step (v := v2) (s_pure (p_mv g2)) ?_
    refine wo_step (v := v3) (s_pure (p_mv g3)) ?_
    have hq := bindP_inv hr
    clear hr
    obtain ⟨v34, m_3, e34, hr⟩ := hq
    refine wo_step (v := v34) (s_call (mc rfl (mc rfl (mc rfl (mc rfl mn)))) (callM_le hM.call e34)) ?_
    refine wo_step (v := v34) (s_pure (p_mv rfl)) ?_
    have hq := bindO_inv hr
    clear hr
    obtain ⟨v35, e35, hr⟩ := hq
    refine wo_step (v := v35) (s_pure (o_ext rfl e35)) ?_
    have hq := bindO_inv hr
    clear hr
    obtain ⟨v36, e36, hr⟩ := hq
    have hq := asI_inv hr
    clear hr
    obtain ⟨x36, rfl, hr⟩ := hq
    refine wo_step (v := (.i .i64 x36)) (s_pure (o_ext rfl e36)) ?_
    refine wo_step (v := v35) (s_pure (p_mv rfl)) ?_
    refine wo_step (v := (.i .i64 x36)) (s_pure (p_mv rfl)) ?_
    refine wo_nil ?_
    refine nx_norm ?_
    refine w_seq ?_
    refine w_seq ?_
    refine w_ops ?_
    refine wo_step (v := (.i .i64 x36)) (s_pure (p_mv rfl)) ?_
    have hq := forceB_inv hr
    clear hr
    obtain ⟨c38, e38, hr⟩ := hq
    refine wo_step (v := (.b c38)) (s_pure (p_bin rfl rfl (b_neq.trans (cb e38)))) ?_
    refine wo_nil ?_
    refine nx_norm ?_
    have hq := cond_inv hr
    clear hr
    rcases hq with ⟨rfl, hr⟩ | ⟨rfl, hr⟩
    · refine w_condT rfl ?_
      refine w_seq ?_
      refine w_ops ?_
      refine wo_step (v := v35) (s_pure (p_mv rfl)) ?_
      have hq := bindO_inv hr
      clear hr
      obtain ⟨v40, e40, hr⟩ := hq
      have hq := asI_inv hr
      clear hr
      obtain ⟨x40, rfl, hr⟩ := hq
      refine wo_step (v := (.i .i64 x40)) (s_pure (o_len rfl e40)) ?_
      have hq := forceB_inv hr
      clear hr
      obtain ⟨c41, e41, hr⟩ := hq
      refine wo_step (v := (.b c41)) (s_pure (p_bin rfl rfl (b_eql.trans (cb e41)))) ?_
      refine wo_step (v := (.b c41)) (s_pure (p_mv rfl)) ?_
      have hq := bindO_inv hr
      clear hr
      obtain ⟨o, hr, hk⟩ := hq
      refine wo_join 2 (g11_J0  o) ?_ ?_
      · clear hk
        have hq := cond_inv hr
        clear hr
        rcases hq with ⟨rfl, hr⟩ | ⟨rfl, hr⟩
        · have hq := bindP_inv hr
          clear hr
          obtain ⟨v43, m_5, e43, hr⟩ := hq
          have hq := asB_inv hr
          clear hr
          obtain ⟨c43, rfl, hr⟩ := hq
          refine wo_take (v := (.b c43)) rfl (s_call mn (callM_le hM.call e43)) ?_
          refine wo_step (v := (.b c43)) (s_pure (p_pickT rfl rfl)) ?_
          refine wo_nil ?_
          cases hr
          exact ⟨_, _, rfl, rfl, gl rfl⟩
        · refine wo_skip (v := (.b false)) rfl rfl ?_
          refine wo_step (v := (.b false)) (s_pure (p_pickF rfl rfl)) ?_
          refine wo_nil ?_
          cases hr
          exact ⟨_, _, rfl, rfl, gl rfl⟩
      · clear hr
        have hr := hk
        clear hk
        obtain ⟨c44, m_4⟩ := o
        rintro mm t_1 ⟨rfl, g44⟩
        refine wo_step (v := (.b c44)) (s_pure (p_mv g44)) ?_
        refine wo_nil ?_
        refine nx_norm ?_
        refine w_ret ?_
        refine nx_ret ?_
        exact qf ret_ok (rt rfl rn) hr
    · refine w_condF rfl ?_
      refine w_skip ?_
      refine nx_norm ?_
      refine w_seq ?_
      refine w_seq ?_
      refine w_ops ?_
      refine wo_step (v := (.i .i64 x0)) (s_pure (p_mv g0)) ?_
      refine wo_step (v := (.i .i64 x1)) (s_pure (p_mv g1)) ?_
      refine wo_step (v := v2) (s_pure (p_mv g2)) ?_
      have hq := bindP_inv hr
      clear hr
      obtain ⟨v48, m_6, e48, hr⟩ := hq
      have hq := asI_inv hr
      clear hr
      obtain ⟨x48, rfl, hr⟩ := hq
      refine wo_step (v := (.i .i64 x48)) (s_call (mc rfl (mc rfl (mc rfl mn))) (callM_le hM.call e48)) ?_
      have hq := forceB_inv hr
      clear hr
      obtain ⟨c49, e49, hr⟩ := hq
      refine wo_step (v := (.b c49)) (s_pure (p_bin rfl rfl (b_neq.trans (cb e49)))) ?_
      refine wo_step (v := (.b c49)) (s_pure (p_mv rfl)) ?_
      have hq := bindO_inv hr
      clear hr
      obtain ⟨o_1, hr, hk⟩ := hq
      refine wo_join 6 (g11_J1 x0 x1 v2 v3 x4 v35 o_1) ?_ ?_
      · clear hk
        have hq := cond_inv hr
        clear hr
        rcases hq with ⟨rfl, hr⟩ | ⟨rfl, hr⟩
        · refine wo_skip (v := (.b true)) rfl rfl ?_
          refine wo_skip (v := (.b true)) rfl rfl ?_
          refine wo_skip (v := (.b true)) rfl rfl ?_
          refine wo_skip (v := (.b true)) rfl rfl ?_
          refine wo_skip (v := (.b true)) rfl rfl ?_
          refine wo_step (v := (.b true)) (s_pure (p_pickT rfl rfl)) ?_
          refine wo_nil ?_
          cases hr
          exact ⟨_, _, rfl, rfl, gl rfl, gl g0, gl g1, gl g2, gl g3, gl g4, gl rfl⟩
        · refine wo_take (v := (.i .i64 x0)) rfl (s_pure (p_mv g0)) ?_
          refine wo_take (v := (.i .i64 x1)) rfl (s_pure (p_mv g1)) ?_
          refine wo_take (v := v3) rfl (s_pure (p_mv g3)) ?_
          have hq := bindP_inv hr
          clear hr
          obtain ⟨v54, m_8, e54, hr⟩ := hq
          have hq := asB_inv hr
          clear hr
          obtain ⟨c54, rfl, hr⟩ := hq
          refine wo_take (v := (.b c54)) rfl (s_call (mc rfl (mc rfl (mc rfl mn))) (callM_le hM.call e54)) ?_
          have hq := forceB_inv hr
          clear hr
          obtain ⟨c55, e55, hr⟩ := hq
          refine wo_take (v := (.b c55)) rfl (s_pure ((p_not rfl).trans (cb e55))) ?_
          refine wo_step (v := (.b c55)) (s_pure (p_pickF rfl rfl)) ?_
          refine wo_nil ?_
          cases hr
          exact ⟨_, _, rfl, rfl, gl rfl, gl g0, gl g1, gl g2, gl g3, gl g4, gl rfl⟩
      · clear hr
        have hr := hk
        clear hk
        obtain ⟨c56, m_7⟩ := o_1
        rintro mm_1 t_2 ⟨rfl, g56, g0, g1, g2, g3, g4, g11⟩
        refine wo_step (v := (.b c56)) (s_pure (p_mv g56)) ?_
        have hq := bindO_inv hr
        clear hr
        obtain ⟨o_2, hr, hk⟩ := hq
        refine wo_join 6 (g11_J2 x0 x1 v2 v3 x4 v35 m_7 o_2) ?_ ?_
        · clear hk
          have hq := cond_inv hr
          clear hr
          rcases hq with ⟨rfl, hr⟩ | ⟨rfl, hr⟩
          · refine wo_skip (v := (.b true)) rfl rfl ?_
            refine wo_skip (v := (.b true)) rfl rfl ?_
            refine wo_skip (v := (.b true)) rfl rfl ?_
            refine wo_skip (v := (.b true)) rfl rfl ?_
            refine wo_skip (v := (.b true)) rfl rfl ?_
            refine wo_step (v := (.b true)) (s_pure (p_pickT rfl rfl)) ?_
            refine wo_nil ?_
            cases hr
            exact ⟨_, _, rfl, rfl, gl rfl, gl g0, gl g1, gl g2, gl g3, gl g4, gl g11⟩
          · refine wo_take (v := v35) rfl (s_pure (p_mv g11)) ?_
            have hq := bindO_inv hr
            clear hr
            obtain ⟨v59, e59, hr⟩ := hq
            have hq := asI_inv hr
            clear hr
            obtain ⟨x59, rfl, hr⟩ := hq
            refine wo_take (v := (.i .i64 x59)) rfl (s_pure (o_len rfl e59)) ?_
            refine wo_take (v := v2) rfl (s_pure (p_mv g2)) ?_
            have hq := bindO_inv hr
            clear hr
            obtain ⟨v61, e61, hr⟩ := hq
            have hq := asI_inv hr
            clear hr
            obtain ⟨x61, rfl, hr⟩ := hq
            refine wo_take (v := (.i .i64 x61)) rfl (s_pure (o_len rfl e61)) ?_
            have hq := forceB_inv hr
            clear hr
            obtain ⟨c62, e62, hr⟩ := hq
            refine wo_take (v := (.b c62)) rfl (s_pure (p_bin rfl rfl (b_neq.trans (cb e62)))) ?_
            refine wo_step (v := (.b c62)) (s_pure (p_pickF rfl rfl)) ?_
            refine wo_nil ?_
            cases hr
            exact ⟨_, _, rfl, rfl, gl rfl, gl g0, gl g1, gl g2, gl g3, gl g4, gl g11⟩
        · clear hr
          have hr := hk
          clear hk
          obtain ⟨c63, ho⟩ : ∃ z, z = o_2 := ⟨_, rfl⟩
          subst ho
          rintro mm_2 t_3 ⟨rfl, g63, g0, g1, g2, g3, g4, g11⟩
          refine wo_nil ?_
          refine nx_norm ?_
          have hq := cond_inv hr
          clear hr
          rcases hq with ⟨rfl, hr⟩ | ⟨rfl, hr⟩
          · refine w_condT g63 ?_
            refine w_seq ?_
            refine w_ops ?_
            refine wo_step (v := (.b false)) (s_pure (p_mv rfl)) ?_
            refine wo_nil ?_
            refine nx_norm ?_
            refine w_ret ?_
            refine nx_ret ?_
            exact qf ret_ok (rt rfl rn) hr
          · refine w_condF g63 ?_
            refine w_skip ?_
            refine nx_norm ?_
            refine w_seq ?_
            refine w_ops ?_
            refine wo_step (v := AVal.nsl) (s_pure (p_mv rfl)) ?_
            refine wo_step (v := AVal.nsl) (s_pure (p_mv rfl)) ?_
            refine wo_nil ?_
            refine nx_norm ?_
            refine w_seq ?_
            refine w_seq ?_
            refine w_ops ?_
            refine wo_step (v := (.i .i64 0)) (s_pure (p_mv rfl)) ?_
            refine wo_nil ?_
            refine nx_norm ?_
            refine w_block ?_
            have hq := bindO_inv hr
            clear hr
            obtain ⟨o_3, hl_1, hr⟩ := hq
            obtain ⟨n_1, hl_1⟩ := hM.loop _ _ _ hl_1
            refine jp_mono (w_loop _ (g11_I3 x0 x1 v2 v3 x4 v35) (g11_J3 x0 x1 v2 v3 x4 v35) ?_ n_1 _ _ _ _ hl_1 ⟨rfl, gl rfl, gl rfl, gl rfl, gl g0, gl g1, gl g2, gl g3, gl g4, gl g11⟩) ?_
            · clear hr hl_1
              intro s mm_11 t_4 o hi hr
              obtain ⟨v13, v14, x15, m_9⟩ := s
              obtain ⟨rfl, g13, g14, g15, g0, g1, g2, g3, g4, g11⟩ := hi
              unfold g11_b3 at hr
              refine w_seq ?_
              refine w_seq ?_
              refine w_ops ?_
              refine wo_step (v := (.i .i64 x15)) (s_pure (p_mv g15)) ?_
              refine wo_step (v := v3) (s_pure (p_mv g3)) ?_
              have hq := bindO_inv hr
              clear hr
              obtain ⟨v66, e66, hr⟩ := hq
              have hq := asI_inv hr
              clear hr
              obtain ⟨x66, rfl, hr⟩ := hq
              refine wo_step (v := (.i .i64 x66)) (s_pure (o_len rfl e66)) ?_
              have hq := forceB_inv hr
              clear hr
              obtain ⟨c67, e67, hr⟩ := hq
              refine wo_step (v := (.b c67)) (s_pure (p_bin rfl rfl (b_lss.trans (cb e67)))) ?_
              refine wo_nil ?_
              refine nx_norm ?_
              have hq := cond_inv hr
              clear hr
              rcases hq with ⟨rfl, hr⟩ | ⟨rfl, hr⟩
              · refine w_condT rfl ?_
                refine w_skip ?_
                refine nx_norm ?_
                refine w_seq ?_
                refine w_block ?_
                refine w_seq ?_
                refine w_ops ?_
                refine wo_step (v := v13) (s_pure (p_mv g13)) ?_
                refine wo_step (v := v3) (s_pure (p_mv g3)) ?_
                refine wo_step (v := (.i .i64 x15)) (s_pure (p_mv g15)) ?_
                have hq := bindO_inv hr
                clear hr
                obtain ⟨v73, e73, hr⟩ := hq
                refine wo_step (v := v73) (s_pure (o_ixS rfl rfl e73)) ?_
                have hq := bindO_inv hr
                clear hr
                obtain ⟨v74, e74, hr⟩ := hq
                have hq := asI_inv hr
                clear hr
                obtain ⟨x74, rfl, hr⟩ := hq
                refine wo_step (v := (.i .i64 x74)) (s_ld rfl e74) ?_
                refine wo_step (v := (.i .u8 x4)) (s_pure (p_mv g4)) ?_
                have hq := forceI_inv hr
                clear hr
                obtain ⟨x76, e76, hr⟩ := hq
                refine wo_step (v := (.i .i64 x76)) (s_pure ((p_conv rfl).trans (ci e76))) ?_
                have hq := forceI_inv hr
                clear hr
                obtain ⟨x77, e77, hr⟩ := hq
                refine wo_step (v := (.i .i64 x77)) (s_pure (p_bin rfl rfl (b_add.trans (ci e77)))) ?_
                refine wo_step (v := (.i .i64 x0)) (s_pure (p_mv g0)) ?_
                have hq := chk_inv hr
                clear hr
                obtain ⟨hc79, hr⟩ := hq
                have hq := forceI_inv hr
                clear hr
                obtain ⟨x79, e79, hr⟩ := hq
                refine wo_step (v := (.i .i64 x79)) (s_pure (p_bin rfl rfl ((b_rem hc79).trans (ci e79)))) ?_
                have hq := bindP_inv hr
                clear hr
                obtain ⟨v80, m_10, e80, hr⟩ := hq
                refine wo_step (v := v80) (s_bsl (qc rfl qn) e80) ?_
                have hq := bindP_inv hr
                clear hr
                obtain ⟨v81, m_11, e81, hr⟩ := hq
                refine wo_step (v := v81) (s_app rfl rfl e81) ?_
                refine wo_step (v := v81) (s_pure (p_mv rfl)) ?_
                refine wo_nil ?_
                refine nx_norm ?_
                refine w_seq ?_
                refine w_ops ?_
                refine wo_step (v := v14) (s_pure (p_mv g14)) ?_
                refine wo_step (v := v3) (s_pure (p_mv g3)) ?_
                refine wo_step (v := (.i .i64 x15)) (s_pure (p_mv g15)) ?_
                have hq := bindO_inv hr
                clear hr
                obtain ⟨v85, e85, hr⟩ := hq
                refine wo_step (v := v85) (s_pure (o_ixS rfl rfl e85)) ?_
                refine wo_step (v := v3) (s_pure (p_mv g3)) ?_
                have hq := bindO_inv hr
                clear hr
                obtain ⟨v88, e88, hr⟩ := hq
                refine wo_step (v := v88) (s_pure (o_ixS rfl rfl e88)) ?_
                refine wo_step (v := (.i .i64 x0)) (s_pure (p_mv g0)) ?_
                refine wo_step (v := (.i .i64 x0)) (s_pure (p_mv g0)) ?_
                refine wo_nil ?_
                refine nx_norm ?_
                refine w_seq ?_
                refine w_any ?_
                have hq := bindO_inv hr
                clear hr
                obtain ⟨v86, e86, hr⟩ := hq
                have hq := asI_inv hr
                clear hr
                obtain ⟨x86, rfl, hr⟩ := hq
                refine wa_step (v := (.i .i64 x86)) (a_ld rfl e86) ?_
                have hq := bindO_inv hr
                clear hr
                obtain ⟨v89, e89, hr⟩ := hq
                have hq := asI_inv hr
                clear hr
                obtain ⟨x89, rfl, hr⟩ := hq
                refine wa_step (v := (.i .i64 x89)) (a_ld rfl e89) ?_
                refine wa_nil ?_
                refine ⟨m_11, rfl, ?_⟩
                refine nx_norm ?_
                refine w_ops ?_
                have hq := forceI_inv hr
                clear hr
                obtain ⟨x90, e90, hr⟩ := hq
                refine wo_step (v := (.i .i64 x90)) (s_pure (p_bin rfl rfl (b_sub.trans (ci e90)))) ?_
                have hq := forceI_inv hr
                clear hr
                obtain ⟨x92, e92, hr⟩ := hq
                refine wo_step (v := (.i .i64 x92)) (s_pure (p_bin rfl rfl (b_add.trans (ci e92)))) ?_
                have hq := chk_inv hr
                clear hr
                obtain ⟨hc94, hr⟩ := hq
                have hq := forceI_inv hr
                clear hr
                obtain ⟨x94, e94, hr⟩ := hq
                refine wo_step (v := (.i .i64 x94)) (s_pure (p_bin rfl rfl ((b_rem hc94).trans (ci e94)))) ?_
                have hq := bindP_inv hr
                clear hr
                obtain ⟨v95, m_12, e95, hr⟩ := hq
                refine wo_step (v := v95) (s_bsl (qc rfl qn) e95) ?_
                have hq := bindP_inv hr
                clear hr
                obtain ⟨v96, m_13, e96, hr⟩ := hq
                refine wo_step (v := v96) (s_app rfl rfl e96) ?_
                refine wo_step (v := v96) (s_pure (p_mv rfl)) ?_
                refine wo_nil ?_
                refine bk_norm ?_
                refine nx_norm ?_
                refine w_ops ?_
                refine wo_step (v := (.i .i64 x15)) (s_pure (p_mv g15)) ?_
                have hq := forceI_inv hr
                clear hr
                obtain ⟨x69, e69, hr⟩ := hq
                refine wo_step (v := (.i .i64 x69)) (s_pure (p_bin rfl rfl (b_add.trans (ci e69)))) ?_
                refine wo_step (v := (.i .i64 x69)) (s_pure (p_mv rfl)) ?_
                refine wo_nil ?_
                cases hr
                exact ⟨_, _, rfl, rfl, rfl, gl rfl, gl rfl, gl rfl, gl g0, gl g1, gl g2, gl g3, gl g4, gl g11⟩
              · refine w_condF rfl ?_
                refine w_exit ?_
                refine nx_exit ?_
                cases hr
                exact ⟨_, _, rfl, ne_norm_exit, rfl, rfl, gl g13, gl g14, gl g0, gl g1, gl g2, gl g11⟩
            · obtain ⟨v13_1, v14_1, m_14⟩ := o_3
              rintro _ mm_10 t_5 ⟨rfl, rfl, g13, g14, g0, g1, g2, g11⟩
              refine bk_hit ?_
              refine nx_norm ?_
              refine w_seq ?_
              refine w_ops ?_
              refine wo_step (v := (.i .i64 x0)) (s_pure (p_mv g0)) ?_
              refine wo_step (v := (.i .i64 x1)) (s_pure (p_mv g1)) ?_
              refine wo_step (v := v2) (s_pure (p_mv g2)) ?_
              refine wo_step (v := v13_1) (s_pure (p_mv g13)) ?_
              have hq := bindP_inv hr
              clear hr
              obtain ⟨v102, m_15, e102, hr⟩ := hq
              refine wo_step (v := v102) (s_call (mc rfl (mc rfl (mc rfl (mc rfl mn)))) (callM_le hM.call e102)) ?_
              refine wo_step (v := v102) (s_pure (p_mv rfl)) ?_
              have hq := bindO_inv hr
              clear hr
              obtain ⟨v103, e103, hr⟩ := hq
              refine wo_step (v := v103) (s_pure (o_ext rfl e103)) ?_
              have hq := bindO_inv hr
              clear hr
              obtain ⟨v104, e104, hr⟩ := hq
              have hq := asI_inv hr
              clear hr
              obtain ⟨x104, rfl, hr⟩ := hq
              refine wo_step (v := (.i .i64 x104)) (s_pure (o_ext rfl e104)) ?_
              refine wo_step (v := v103) (s_pure (p_mv rfl)) ?_
              refine wo_step (v := (.i .i64 x104)) (s_pure (p_mv rfl)) ?_
              refine wo_nil ?_
              refine nx_norm ?_
              refine w_seq ?_
              refine w_ops ?_
              refine wo_step (v := (.i .i64 x0)) (s_pure (p_mv g0)) ?_
              refine wo_step (v := (.i .i64 x1)) (s_pure (p_mv g1)) ?_
              refine wo_step (v := v2) (s_pure (p_mv g2)) ?_
              refine wo_step (v := v14_1) (s_pure (p_mv g14)) ?_
              have hq := bindP_inv hr
              clear hr
              obtain ⟨v110, m_16, e110, hr⟩ := hq
              refine wo_step (v := v110) (s_call (mc rfl (mc rfl (mc rfl (mc rfl mn)))) (callM_le hM.call e110)) ?_
              refine wo_step (v := v110) (s_pure (p_mv rfl)) ?_
              have hq := bindO_inv hr
              clear hr
              obtain ⟨v111, e111, hr⟩ := hq
              have hq := asB_inv hr
              clear hr
              obtain ⟨c111, rfl, hr⟩ := hq
              refine wo_step (v := (.b c111)) (s_pure (o_ext rfl e111)) ?_
              have hq := bindO_inv hr
              clear hr
              obtain ⟨v112, e112, hr⟩ := hq
              have hq := asI_inv hr
              clear hr
              obtain ⟨x112, rfl, hr⟩ := hq
              refine wo_step (v := (.i .i64 x112)) (s_pure (o_ext rfl e112)) ?_
              refine wo_step (v := (.b c111)) (s_pure (p_mv rfl)) ?_
              refine wo_step (v := (.i .i64 x112)) (s_pure (p_mv rfl)) ?_
              refine wo_nil ?_
              refine nx_norm ?_
              refine w_seq ?_
              refine w_seq ?_
              refine w_ops ?_
              refine wo_step (v := (.i .i64 x104)) (s_pure (p_mv rfl)) ?_
              have hq := forceB_inv hr
              clear hr
              obtain ⟨c114, e114, hr⟩ := hq
              refine wo_step (v := (.b c114)) (s_pure (p_bin rfl rfl (b_neq.trans (cb e114)))) ?_
              refine wo_step (v := (.b c114)) (s_pure (p_mv rfl)) ?_
              have hq := bindO_inv hr
              clear hr
              obtain ⟨o_4, hr, hk⟩ := hq
              refine wo_join 3 (g11_J4 x0 x1 v2 v35 v103 c111 m_16 o_4) ?_ ?_
              · clear hk
                have hq := cond_inv hr
                clear hr
                rcases hq with ⟨rfl, hr⟩ | ⟨rfl, hr⟩
                · refine wo_skip (v := (.b true)) rfl rfl ?_
                  refine wo_skip (v := (.b true)) rfl rfl ?_
                  refine wo_step (v := (.b true)) (s_pure (p_pickT rfl rfl)) ?_
                  refine wo_nil ?_
                  cases hr
                  exact ⟨_, _, rfl, rfl, gl rfl, gl g0, gl g1, gl g2, gl g11, gl rfl, gl rfl⟩
                · refine wo_take (v := (.i .i64 x112)) rfl (s_pure (p_mv rfl)) ?_
                  have hq := forceB_inv hr
                  clear hr
                  obtain ⟨c117, e117, hr⟩ := hq
                  refine wo_take (v := (.b c117)) rfl (s_pure (p_bin rfl rfl (b_neq.trans (cb e117)))) ?_
                  refine wo_step (v := (.b c117)) (s_pure (p_pickF rfl rfl)) ?_
                  refine wo_nil ?_
                  cases hr
                  exact ⟨_, _, rfl, rfl, gl rfl, gl g0, gl g1, gl g2, gl g11, gl rfl, gl rfl⟩
              · clear hr
                have hr := hk
                clear hk
                obtain ⟨c118, ho⟩ : ∃ z, z = o_4 := ⟨_, rfl⟩
                subst ho
                rintro mm_3 t_6 ⟨rfl, g118, g0, g1, g2, g11, g16, g18⟩
                refine wo_step (v := (.b c118)) (s_pure (p_mv g118)) ?_
                have hq := bindO_inv hr
                clear hr
                obtain ⟨o_5, hr, hk⟩ := hq
                refine wo_join 5 (g11_J5 x0 x1 v2 v35 c111 o_5) ?_ ?_
                · clear hk
                  have hq := cond_inv hr
                  clear hr
                  rcases hq with ⟨rfl, hr⟩ | ⟨rfl, hr⟩
                  · refine wo_skip (v := (.b true)) rfl rfl ?_
                    refine wo_skip (v := (.b true)) rfl rfl ?_
                    refine wo_skip (v := (.b true)) rfl rfl ?_
                    refine wo_skip (v := (.b true)) rfl rfl ?_
                    refine wo_step (v := (.b true)) (s_pure (p_pickT rfl rfl)) ?_
                    refine wo_nil ?_
                    cases hr
                    exact ⟨_, _, rfl, rfl, gl rfl, gl g0, gl g1, gl g2, gl g11, gl g18⟩
                  · refine wo_take (v := v35) rfl (s_pure (p_mv g11)) ?_
                    refine wo_take (v := v103) rfl (s_pure (p_mv g16)) ?_
                    have hq := bindP_inv hr
                    clear hr
                    obtain ⟨v122, m_18, e122, hr⟩ := hq
                    have hq := asB_inv hr
                    clear hr
                    obtain ⟨c122, rfl, hr⟩ := hq
                    refine wo_take (v := (.b c122)) rfl (s_call (mc rfl (mc rfl mn)) (callM_le hM.call e122)) ?_
                    have hq := forceB_inv hr
                    clear hr
                    obtain ⟨c123, e123, hr⟩ := hq
                    refine wo_take (v := (.b c123)) rfl (s_pure ((p_not rfl).trans (cb e123))) ?_
                    refine wo_step (v := (.b c123)) (s_pure (p_pickF rfl rfl)) ?_
                    refine wo_nil ?_
                    cases hr
                    exact ⟨_, _, rfl, rfl, gl rfl, gl g0, gl g1, gl g2, gl g11, gl g18⟩
                · clear hr
                  have hr := hk
                  clear hk
                  obtain ⟨c124, m_17⟩ := o_5
                  rintro mm_4 t_7 ⟨rfl, g124, g0, g1, g2, g11, g18⟩
                  refine wo_nil ?_
                  refine nx_norm ?_
                  have hq := cond_inv hr
                  clear hr
                  rcases hq with ⟨rfl, hr⟩ | ⟨rfl, hr⟩
                  · refine w_condT g124 ?_
                    refine w_seq ?_
                    refine w_ops ?_
                    refine wo_step (v := (.b false)) (s_pure (p_mv rfl)) ?_
                    refine wo_nil ?_
                    refine nx_norm ?_
                    refine w_ret ?_
                    refine nx_ret ?_
                    exact qf ret_ok (rt rfl rn) hr
                  · refine w_condF g124 ?_
                    refine w_skip ?_
                    refine nx_norm ?_
                    refine w_seq ?_
                    refine w_ops ?_
                    refine wo_step (v := (.b true)) (s_pure (p_mv rfl)) ?_
                    refine wo_nil ?_
                    refine nx_norm ?_
                    refine w_seq ?_
                    refine w_seq ?_
                    refine w_ops ?_
                    refine wo_step (v := (.i .i64 0)) (s_pure (p_mv rfl)) ?_
                    refine wo_nil ?_
                    refine nx_norm ?_
                    refine w_block ?_
                    have hq := bindO_inv hr
                    clear hr
                    obtain ⟨o_7, hl, hr⟩ := hq
                    obtain ⟨n, hl⟩ := hM.loop _ _ _ hl
                    refine jp_mono (w_loop _ (g11_I6 x0 x1 v2 v35 c111 m_17) (g11_J6 x0 x1 v2 v35 c111 m_17) ?_ n _ _ _ _ hl ⟨rfl, gl rfl, gl rfl, gl g0, gl g1, gl g2, gl g11, gl g18⟩) ?_
                    · clear hr hl
                      intro s mm_9 t_8 o hi hr
                      obtain ⟨c20, x21⟩ := s
                      obtain ⟨rfl, g20, g21, g0, g1, g2, g11, g18⟩ := hi
                      unfold g11_b6 at hr
                      refine w_seq ?_
                      refine w_seq ?_
                      refine w_ops ?_
                      refine wo_step (v := (.i .i64 x21)) (s_pure (p_mv g21)) ?_
                      refine wo_step (v := v2) (s_pure (p_mv g2)) ?_
                      have hq := bindO_inv hr
                      clear hr
                      obtain ⟨v127, e127, hr⟩ := hq
                      have hq := asI_inv hr
                      clear hr
                      obtain ⟨x127, rfl, hr⟩ := hq
                      refine wo_step (v := (.i .i64 x127)) (s_pure (o_len rfl e127)) ?_
                      have hq := forceB_inv hr
                      clear hr
                      obtain ⟨c128, e128, hr⟩ := hq
                      refine wo_step (v := (.b c128)) (s_pure (p_bin rfl rfl (b_lss.trans (cb e128)))) ?_
                      refine wo_nil ?_
                      refine nx_norm ?_
                      have hq := cond_inv hr
                      clear hr
                      rcases hq with ⟨rfl, hr⟩ | ⟨rfl, hr⟩
                      · refine w_condT rfl ?_
                        refine w_skip ?_
                        refine nx_norm ?_
                        refine w_seq ?_
                        refine w_block ?_
                        refine w_any ?_
                        refine wa_step (v := (.b c20)) (a_pure (p_mv g20)) ?_
                        refine wa_step (v := (.b c20)) (a_pure (p_mv rfl)) ?_
                        have hq := bindO_inv hr
                        clear hr
                        obtain ⟨o_6, hr, hk⟩ := hq
                        refine wa_join 17 (JA (g11_J7 x0 x1 v2 v35 c111 x21 m_17 o_6) m_17 (m_17.h) [] []) ?_ ?_
                        · clear hk
                          have hq := cond_inv hr
                          clear hr
                          rcases hq with ⟨rfl, hr⟩ | ⟨rfl, hr⟩
                          · refine wa_take (v := v35) rfl (a_pure (p_mv g11)) ?_
                            refine wa_take (v := (.i .i64 x21)) rfl (a_pure (p_mv g21)) ?_
                            have hq := bindO_inv hr
                            clear hr
                            obtain ⟨v135, e135, hr⟩ := hq
                            refine wa_take (v := v135) rfl (a_pure (o_ixS rfl rfl e135)) ?_
                            have hq := bindO_inv hr
                            clear hr
                            obtain ⟨v136, e136, hr⟩ := hq
                            have hq := asI_inv hr
                            clear hr
                            obtain ⟨x136, rfl, hr⟩ := hq
                            refine wa_take (v := (.i .i64 x136)) rfl (a_ld rfl e136) ?_
                            refine wa_take (v := v2) rfl (a_pure (p_mv g2)) ?_
                            refine wa_take (v := (.i .i64 x21)) rfl (a_pure (p_mv g21)) ?_
                            have hq := bindO_inv hr
                            clear hr
                            obtain ⟨v139, e139, hr⟩ := hq
                            refine wa_take (v := v139) rfl (a_pure (o_ixS rfl rfl e139)) ?_
                            have hq := bindO_inv hr
                            clear hr
                            obtain ⟨v140, e140, hr⟩ := hq
                            refine wa_take (v := v140) rfl (a_pure (o_faddr rfl e140)) ?_
                            have hq := bindO_inv hr
                            clear hr
                            obtain ⟨v141, e141, hr⟩ := hq
                            have hq := asI_inv hr
                            clear hr
                            obtain ⟨x141, rfl, hr⟩ := hq
                            refine wa_take (v := (.i .i64 x141)) rfl (a_ld rfl e141) ?_
                            refine wa_take (v := v2) rfl (a_pure (p_mv g2)) ?_
                            refine wa_take (v := (.i .i64 x21)) rfl (a_pure (p_mv g21)) ?_
                            have hq := bindO_inv hr
                            clear hr
                            obtain ⟨v144, e144, hr⟩ := hq
                            refine wa_take (v := v144) rfl (a_pure (o_ixS rfl rfl e144)) ?_
                            have hq := bindO_inv hr
                            clear hr
                            obtain ⟨v145, e145, hr⟩ := hq
                            refine wa_take (v := v145) rfl (a_pure (o_faddr rfl e145)) ?_
                            have hq := bindO_inv hr
                            clear hr
                            obtain ⟨v146, e146, hr⟩ := hq
                            have hq := asI_inv hr
                            clear hr
                            obtain ⟨x146, rfl, hr⟩ := hq
                            refine wa_take (v := (.i .i64 x146)) rfl (a_ld rfl e146) ?_
                            have hq := forceI_inv hr
                            clear hr
                            obtain ⟨x147, e147, hr⟩ := hq
                            refine wa_take (v := (.i .i64 x147)) rfl (a_pure (p_bin rfl rfl (b_sub.trans (ci e147)))) ?_
                            have hq := forceB_inv hr
                            clear hr
                            obtain ⟨c148, e148, hr⟩ := hq
                            refine wa_take (v := (.b c148)) rfl (a_pure (p_bin rfl rfl (b_leq.trans (cb e148)))) ?_
                            refine wa_step (v := (.b c148)) (a_pure (p_pickT rfl rfl)) ?_
                            refine wa_nil ?_
                            cases hr
                            exact ja_in ⟨rfl, gl rfl, gl g0, gl g1, gl g2, gl g11, gl g18, gl g21⟩
                          · refine wa_skip (v := (.b false)) rfl rfl ?_
                            refine wa_skip (v := (.b false)) rfl rfl ?_
                            refine wa_skip (v := (.b false)) rfl rfl ?_
                            refine wa_skip (v := (.b false)) rfl rfl ?_
                            refine wa_skip (v := (.b false)) rfl rfl ?_
                            refine wa_skip (v := (.b false)) rfl rfl ?_
                            refine wa_skip (v := (.b false)) rfl rfl ?_
                            refine wa_skip (v := (.b false)) rfl rfl ?_
                            refine wa_skip (v := (.b false)) rfl rfl ?_
                            refine wa_skip (v := (.b false)) rfl rfl ?_
                            refine wa_skip (v := (.b false)) rfl rfl ?_
                            refine wa_skip (v := (.b false)) rfl rfl ?_
                            refine wa_skip (v := (.b false)) rfl rfl ?_
                            refine wa_skip (v := (.b false)) rfl rfl ?_
                            refine wa_skip (v := (.b false)) rfl rfl ?_
                            refine wa_skip (v := (.b false)) rfl rfl ?_
                            refine wa_step (v := (.b false)) (a_pure (p_pickF rfl rfl)) ?_
                            refine wa_nil ?_
                            cases hr
                            exact ja_in ⟨rfl, gl rfl, gl g0, gl g1, gl g2, gl g11, gl g18, gl g21⟩
                        · clear hr
                          have hr := hk
                          clear hk
                          obtain ⟨c149, ho⟩ : ∃ z, z = o_6 := ⟨_, rfl⟩
                          subst ho
                          refine ja_out ?_
                          rintro t_9 ⟨-, g149, g0, g1, g2, g11, g18, g21⟩
                          refine wa_step (v := (.b c149)) (a_pure (p_mv g149)) ?_
                          refine wa_nil ?_
                          refine ⟨m_17, rfl, ?_⟩
                          refine bk_norm ?_
                          refine nx_norm ?_
                          refine w_ops ?_
                          refine wo_step (v := (.i .i64 x21)) (s_pure (p_mv g21)) ?_
                          have hq := forceI_inv hr
                          clear hr
                          obtain ⟨x130, e130, hr⟩ := hq
                          refine wo_step (v := (.i .i64 x130)) (s_pure (p_bin rfl rfl (b_add.trans (ci e130)))) ?_
                          refine wo_step (v := (.i .i64 x130)) (s_pure (p_mv rfl)) ?_
                          refine wo_nil ?_
                          cases hr
                          exact ⟨_, _, rfl, rfl, rfl, gl rfl, gl rfl, gl g0, gl g1, gl g2, gl g11, gl g18⟩
                      · refine w_condF rfl ?_
                        refine w_exit ?_
                        refine nx_exit ?_
                        cases hr
                        exact ⟨_, _, rfl, ne_norm_exit, rfl, rfl, gl g20, gl g0, gl g1, gl g2, gl g18⟩
                    · obtain ⟨c20_1, ho⟩ : ∃ z, z = o_7 := ⟨_, rfl⟩
                      subst ho
                      rintro _ mm_8 t_10 ⟨rfl, rfl, g20, g0, g1, g2, g18⟩
                      refine bk_hit ?_
                      refine nx_norm ?_
                      refine w_seq ?_
                      refine w_ops ?_
                      refine wo_step (v := (.i .i64 x0)) (s_pure (p_mv g0)) ?_
                      refine wo_step (v := (.i .i64 x1)) (s_pure (p_mv g1)) ?_
                      refine wo_step (v := v2) (s_pure (p_mv g2)) ?_
                      have hq := bindP_inv hr
                      clear hr
                      obtain ⟨v154, m_19, e154, hr⟩ := hq
                      refine wo_step (v := v154) (s_call (mc rfl (mc rfl (mc rfl mn))) (callM_le hM.call e154)) ?_
                      refine wo_step (v := v154) (s_pure (p_mv rfl)) ?_
                      have hq := bindO_inv hr
                      clear hr
                      obtain ⟨v155, e155, hr⟩ := hq
                      refine wo_step (v := v155) (s_pure (o_ext rfl e155)) ?_
                      have hq := bindO_inv hr
                      clear hr
                      obtain ⟨v156, e156, hr⟩ := hq
                      have hq := asI_inv hr
                      clear hr
                      obtain ⟨x156, rfl, hr⟩ := hq
                      refine wo_step (v := (.i .i64 x156)) (s_pure (o_ext rfl e156)) ?_
                      refine wo_step (v := v155) (s_pure (p_mv rfl)) ?_
                      refine wo_step (v := (.i .i64 x156)) (s_pure (p_mv rfl)) ?_
                      refine wo_nil ?_
                      refine nx_norm ?_
                      refine w_seq ?_
                      refine w_ops ?_
                      refine wo_step (v := (.b c111)) (s_pure (p_mv g18)) ?_
                      refine wo_step (v := (.b c20_1)) (s_pure (p_mv g20)) ?_
                      have hq := forceB_inv hr
                      clear hr
                      obtain ⟨c159, e159, hr⟩ := hq
                      refine wo_step (v := (.b c159)) (s_pure ((p_beq rfl rfl).trans (cb e159))) ?_
                      refine wo_step (v := (.b c159)) (s_pure (p_mv rfl)) ?_
                      have hq := bindO_inv hr
                      clear hr
                      obtain ⟨o_8, hr, hk⟩ := hq
                      refine wo_join 7 (g11_J8 m_19 o_8) ?_ ?_
                      · clear hk
                        have hq := cond_inv hr
                        clear hr
                        rcases hq with ⟨rfl, hr⟩ | ⟨rfl, hr⟩
                        · refine wo_take (v := (.b c111)) rfl (s_pure (p_mv g18)) ?_
                          have hq := forceB_inv hr
                          clear hr
                          obtain ⟨c162, e162, hr⟩ := hq
                          refine wo_take (v := (.b c162)) rfl (s_pure ((p_not rfl).trans (cb e162))) ?_
                          refine wo_take (v := (.b c162)) rfl (s_pure (p_mv rfl)) ?_
                          have hq := bindO_inv hr
                          clear hr
                          obtain ⟨o_9, hr, hk⟩ := hq
                          refine wo_join 4 (g11_J9 m_19 o_9) ?_ ?_
                          · clear hk
                            have hq := cond_inv hr
                            clear hr
                            rcases hq with ⟨rfl, hr⟩ | ⟨rfl, hr⟩
                            · refine wo_skip (v := (.b true)) rfl rfl ?_
                              refine wo_skip (v := (.b true)) rfl rfl ?_
                              refine wo_take (v := (.b true)) rfl (s_pure (p_pickT rfl rfl)) ?_
                              refine wo_step (v := (.b true)) (s_pure (p_pickT rfl rfl)) ?_
                              refine wo_nil ?_
                              cases hr
                              exact ⟨_, _, rfl, rfl, gl rfl⟩
                            · refine wo_take (v := (.i .i64 x156)) rfl (s_pure (p_mv rfl)) ?_
                              have hq := forceB_inv hr
                              clear hr
                              obtain ⟨c165, e165, hr⟩ := hq
                              refine wo_take (v := (.b c165)) rfl (s_pure (p_bin rfl rfl (b_eql.trans (cb e165)))) ?_
                              refine wo_take (v := (.b c165)) rfl (s_pure (p_pickF rfl rfl)) ?_
                              refine wo_step (v := (.b c165)) (s_pure (p_pickT rfl rfl)) ?_
                              refine wo_nil ?_
                              cases hr
                              exact ⟨_, _, rfl, rfl, gl rfl⟩
                          · clear hr
                            have hr := hk
                            clear hk
                            obtain ⟨c167_1, ho⟩ : ∃ z, z = o_9 := ⟨_, rfl⟩
                            subst ho
                            rintro mm_5 t_11 ⟨rfl, g167⟩
                            refine wo_nil ?_
                            cases hr
                            exact ⟨_, _, rfl, rfl, gl g167⟩
                        · refine wo_skip (v := (.b false)) rfl rfl ?_
                          refine wo_skip (v := (.b false)) rfl rfl ?_
                          refine wo_skip (v := (.b false)) rfl rfl ?_
                          refine wo_skip (v := und) rfl rfl ?_
                          refine wo_skip (v := und) rfl rfl ?_
                          refine wo_skip (v := (.b false)) rfl rfl ?_
                          refine wo_step (v := (.b false)) (s_pure (p_pickF rfl rfl)) ?_
                          refine wo_nil ?_
                          cases hr
                          exact ⟨_, _, rfl, rfl, gl rfl⟩
                      · clear hr
                        have hr := hk
                        clear hk
                        obtain ⟨c167, ho⟩ : ∃ z, z = o_8 := ⟨_, rfl⟩
                        subst ho
                        rintro mm_6 t_12 ⟨rfl, g167⟩
                        refine wo_step (v := (.b c167)) (s_pure (p_mv g167)) ?_
                        have hq := bindO_inv hr
                        clear hr
                        obtain ⟨o_10, hr, hk⟩ := hq
                        refine wo_join 2 (g11_J10  o_10) ?_ ?_
                        · clear hk
                          have hq := cond_inv hr
                          clear hr
                          rcases hq with ⟨rfl, hr⟩ | ⟨rfl, hr⟩
                          · have hq := bindP_inv hr
                            clear hr
                            obtain ⟨v169, m_21, e169, hr⟩ := hq
                            have hq := asB_inv hr
                            clear hr
                            obtain ⟨c169, rfl, hr⟩ := hq
                            refine wo_take (v := (.b c169)) rfl (s_call mn (callM_le hM.call e169)) ?_
                            refine wo_step (v := (.b c169)) (s_pure (p_pickT rfl rfl)) ?_
                            refine wo_nil ?_
                            cases hr
                            exact ⟨_, _, rfl, rfl, gl rfl⟩
                          · refine wo_skip (v := (.b false)) rfl rfl ?_
                            refine wo_step (v := (.b false)) (s_pure (p_pickF rfl rfl)) ?_
                            refine wo_nil ?_
                            cases hr
                            exact ⟨_, _, rfl, rfl, gl rfl⟩
                        · clear hr
                          have hr := hk
                          clear hk
                          obtain ⟨c170, m_20⟩ := o_10
                          rintro mm_7 t_13 ⟨rfl, g170⟩
                          refine wo_step (v := (.b c170)) (s_pure (p_mv g170)) ?_
                          refine wo_nil ?_
                          refine nx_norm ?_
                          refine w_ret ?_
                          exact qf ret_ok (rt rfl rn) hr

/- dibber/dibberlaw04.few -/
abbrev g15_J0 (v2 : AVal) (m0 : Mm) (o : Bool) (m1 : Mm) (t1 : Tr) : Prop :=
  match o with
  | c14 => m0 = m1 ∧ t1.get 14 = (.b c14) ∧ t1.get 2 = v2
abbrev g15_J1 (m0 : Mm) (o : Bool) (m1 : Mm) (t1 : Tr) : Prop :=
  match o with
  | c19 => m0 = m1 ∧ t1.get 19 = (.b c19)
def g15 (M : Means) (ro : List ABlk) (v0 : AVal) (v1 : AVal) (v2 : AVal) (m0 : Mm) : Option (AVal × Heap × Nat × Nat) :=
  bindO (evP .e (.len false (.c v0))) fun v8 =>
  asI .i64 v8 fun x8 =>
  forceB (!ltI 40 x8) fun c9 =>
  bindO (cond c9 (
    bindO (evP .e (.len false (.c v1))) fun v12 =>
    asI .i64 v12 fun x12 =>
    forceB (!ltI 40 x12) fun c13 =>
    some c13) (
    some false)) fun c14 =>
  bindO (cond c14 (
    bindO (evP .e (.len false (.c v2))) fun v17 =>
    asI .i64 v17 fun x17 =>
    forceB (!ltI 40 x17) fun c18 =>
    some c18) (
    some false)) fun c19 =>
  finM m0.h.length (tupA [(.b c19)]) m0

theorem g15_ok {ro : List ABlk} {O : Caller} {M : Means} (hM : M.Ok ⟨F, O⟩ ro) {v0 v1 v2 h r} (ho : O 15 [v0, v1, v2] h = none) (hr : g15 M ro v0 v1 v2 ⟨h, h.length, h.length⟩ = some r) : callX ⟨F, O⟩ ro 15 [v0, v1, v2] h = some r := by
  refine callX_of (F := ⟨F, O⟩) (fn := fn15) (g := g15 M ro v0 v1 v2) ho rfl rfl hr ?_
  clear ho
  clear hr
  intro m0 t0 ht hr
  have g0 : t0.get 0 = v0 := ht 0
  have g1 : t0.get 1 = v1 := ht 1
  have g2 : t0.get 2 = v2 := ht 2
  clear ht
  unfold g15 at hr
  refine w_seq ?_
  refine w_ops ?_
  refine wo_step (v := (.b false)) (s_pure (p_mv rfl)) ?_
  refine wo_nil ?_
  refine nx_norm ?_
  refine w_seq ?_
  refine w_ops ?_
  refine wo_step (v := v0) (s_pure (p_mv g0)) ?_
  have hq := bindO_inv hr
  clear hr
  obtain ⟨v8, e8, hr⟩ := hq
  have hq := asI_inv hr
  clear hr
  obtain ⟨x8, rfl, hr⟩ := hq
  refine wo_step (v := (.i .i64 x8)) (s_pure (o_len rfl e8)) ?_
  have hq := forceB_inv hr
  clear hr
  obtain ⟨c9, e9, hr⟩ := hq
  refine wo_step (v := (.b c9)) (s_pure (p_bin rfl rfl (b_leq.trans (cb e9)))) ?_
  refine wo_step (v := (.b c9)) (s_pure (p_mv rfl)) ?_
  have hq := bindO_inv hr
  clear hr
  obtain ⟨o, hr, hk⟩ := hq
  refine wo_join 4 (g15_J0 v2 m0 o) ?_ ?_
  · clear hk
    have hq := cond_inv hr
    clear hr
    rcases hq with ⟨rfl, hr⟩ | ⟨rfl, hr⟩
    · refine wo_take (v := v1) rfl (s_pure (p_mv g1)) ?_
      have hq := bindO_inv hr
      clear hr
      obtain ⟨v12, e12, hr⟩ := hq
      have hq := asI_inv hr
      clear hr
      obtain ⟨x12, rfl, hr⟩ := hq
      refine wo_take (v := (.i .i64 x12)) rfl (s_pure (o_len rfl e12)) ?_
      have hq := forceB_inv hr
      clear hr
      obtain ⟨c13, e13, hr⟩ := hq
      refine wo_take (v := (.b c13)) rfl (s_pure (p_bin rfl rfl (b_leq.trans (cb e13)))) ?_
      refine wo_step (v := (.b c13)) (s_pure (p_pickT rfl rfl)) ?_
      refine wo_nil ?_
      cases hr
      exact ⟨_, _, rfl, rfl, gl rfl, gl g2⟩
    · refine wo_skip (v := (.b false)) rfl rfl ?_
      refine wo_skip (v := (.b false)) rfl rfl ?_
      refine wo_skip (v := (.b false)) rfl rfl ?_
      refine wo_step (v := (.b false)) (s_pure (p_pickF rfl rfl)) ?_
      refine wo_nil ?_
      cases hr
      exact ⟨_, _, rfl, rfl, gl rfl, gl g2⟩
  · clear hr
    have hr := hk
    clear hk
    obtain ⟨c14, ho⟩ : ∃ z, z = o := ⟨_, rfl⟩
    subst ho
    rintro mm t_1 ⟨rfl, g14, g2⟩
    refine wo_step (v := (.b c14)) (s_pure (p_mv g14)) ?_
    have hq := bindO_inv hr
    clear hr
    obtain ⟨o_1, hr, hk⟩ := hq
    refine wo_join 4 (g15_J1 m0 o_1) ?_ ?_
    · clear hk
      have hq := cond_inv hr
      clear hr
      rcases hq with ⟨rfl, hr⟩ | ⟨rfl, hr⟩
      · refine wo_take (v := v2) rfl (s_pure (p_mv g2)) ?_
        have hq := bindO_inv hr
        clear hr
        obtain ⟨v17, e17, hr⟩ := hq
        have hq := asI_inv hr
        clear hr
        obtain ⟨x17, rfl, hr⟩ := hq
        refine wo_take (v := (.i .i64 x17)) rfl (s_pure (o_len rfl e17)) ?_
        have hq := forceB_inv hr
        clear hr
        obtain ⟨c18, e18, hr⟩ := hq
        refine wo_take (v := (.b c18)) rfl (s_pure (p_bin rfl rfl (b_leq.trans (cb e18)))) ?_
        refine wo_step (v := (.b c18)) (s_pure (p_pickT rfl rfl)) ?_
        refine wo_nil ?_
        cases hr
        exact ⟨_, _, rfl, rfl, gl rfl⟩
      · refine wo_skip (v := (.b false)) rfl rfl ?_
        refine wo_skip (v := (.b false)) rfl rfl ?_
        refine wo_skip (v := (.b false)) rfl rfl ?_
        refine wo_step (v := (.b false)) (s_pure (p_pickF rfl rfl)) ?_
        refine wo_nil ?_
        cases hr
        exact ⟨_, _, rfl, rfl, gl rfl⟩
    · clear hr
      have hr := hk
      clear hk
      obtain ⟨c19, ho⟩ : ∃ z, z = o_1 := ⟨_, rfl⟩
      subst ho
      rintro mm_1 t_2 ⟨rfl, g19⟩
      refine wo_step (v := (.b c19)) (s_pure (p_mv g19)) ?_
      refine wo_nil ?_
      refine nx_norm ?_
      refine w_ret ?_
      exact qf ret_ok (rt rfl rn) hr

/- dibber/turn.Plan -/
abbrev k17a0 : ACode := (.ops [(.mk (some 10) none (.pure (.mv (.t 23))))])
abbrev k17c0 : ACode := (.block 1 (.seq (.ops [(.mk (some 24) none (.pure (.mv (.t 10)))), (.mk none none (.st 1 (.t 6) (.t 24))), (.mk none none (.st 1 (.t 7) (.c (.i .i64 0))))]) .ret))
abbrev g17_P0 (v6 : AVal) (v7 : AVal) (t1 : Tr) : Prop := True ∧ t1.get 6 = v6 ∧ t1.get 7 = v7
def g17_r0 (M : Means) (ro : List ABlk) (v6 : AVal) (v7 : AVal) (b : Nat) (v23 : AVal) (m0 : Mm) : Option (AVal × Heap × Nat × Nat) :=
  bindO (rndB b m0) fun m_9 =>
  bindP (stepM ro m_9 (.st 1 (.c v6) (.c v23))) fun vn_3 m_10 =>
  bindP (stepM ro m_10 (.st 1 (.c v7) (.c (.i .i64 0)))) fun vn_4 m_11 =>
  rndE m0.h.length b .ret m_11
noncomputable def g17 (M : Means) (ro : List ABlk) (x0 : Int) (x1 : Int) (v2 : AVal) (m0 : Mm) : Option (AVal × Heap × Nat × Nat) :=
  bindP (stepM ro m0 (.al 25 [AVal.nsl])) fun v6 m_1 =>
  bindP (stepM ro m_1 (.al 26 [(AVal.i IntKind.i64 0)])) fun v7 m_2 =>
  bindP (callM M.call m_2 43 [(.i .i64 x0), (.i .i64 x1), v2]) fun v15 m_3 =>
  bindO (evP .e (.ext 0 (.c v15))) fun v16 =>
  bindO (evP .e (.ext 1 (.c v15))) fun v17 =>
  asI .i64 v17 fun x17 =>
  bindP (stepM ro m_3 (.al 55 [(AVal.i IntKind.i64 0), (AVal.i IntKind.i64 0), AVal.nsl])) fun v8 m_4 =>
  bindP (stepM ro m_4 (.st 3 (.c v8) (.c v16))) fun vn m_5 =>
  forceB (!eqI x17 0) fun c19 =>
  cond c19 (
    bindP (stepM ro m_5 (.st 1 (.c v6) (.c AVal.nsl))) fun vn_1 m_6 =>
    bindP (stepM ro m_6 (.st 1 (.c v7) (.c (.i .i64 x17)))) fun vn_2 m_7 =>
    bindO (ldM ro m_7 true 1 v6) fun vr =>
    bindO (ldM ro m_7 true 1 v7) fun vr_1 =>
    finM m0.h.length (tupA [vr, vr_1]) m_7) (
    bindO (ldM ro m_5 false 3 v8) fun v21 =>
    bindP (callM M.call m_5 44 [v21]) fun v22 m_8 =>
    bindO (rngP M.call (g17_P0 v6 v7) [23] k17a0 k17c0 v22 m_8) fun ⟨ex, m_12⟩ => onE ex (
      bindP (stepM ro m_12 (.st 1 (.c v6) (.c AVal.nsl))) fun vn_5 m_13 =>
      bindP (stepM ro m_13 (.st 1 (.c v7) (.c (.i .i64 10)))) fun vn_6 m_14 =>
      bindO (ldM ro m_14 true 1 v6) fun vr_2 =>
      bindO (ldM ro m_14 true 1 v7) fun vr_3 =>
      finM m0.h.length (tupA [vr_2, vr_3]) m_14) (
      bindO (ldM ro m_12 true 1 v6) fun vr_4 =>
      bindO (ldM ro m_12 true 1 v7) fun vr_5 =>
      finM m0.h.length (tupA [vr_4, vr_5]) m_12) (fun ix =>
      none))

theorem g17_r0_ok {ro : List ABlk} {O : Caller} {M : Means} (hM : M.Ok ⟨F, O⟩ ro) {v6} {v7} {v23} {b h r bk t p} (hb : lget h b = some (some bk)) (hg : bk.g = some (.lp ⟨t, [23], k17a0, k17c0⟩ .ready p)) (hP : g17_P0 v6 v7 t) (hr : g17_r0 M ro v6 v7 b v23 ⟨h, h.length, h.length⟩ = some r) : roundX ⟨F, O⟩ ro b [v23] h = some r := by
  refine roundX_on (F := ⟨F, O⟩) (g := g17_r0 M ro v6 v7 b v23) hb hg rfl hr ?_
  clear hb hg hr
  intro m0 t0 ht hr
  obtain ⟨-, g6, g7⟩ := hP
  have g23 : t0.get 23 = v23 := by rw [ht]; simp [putPs, get_set]
  have g6 : t0.get 6 = v6 := by rw [ht]; simp only [putPs, get_set]; simpa using g6
  have g7 : t0.get 7 = v7 := by rw [ht]; simp only [putPs, get_set]; simpa using g7
  clear ht
  unfold g17_r0 at hr
  show W _ _ k17a0 _ _
  unfold k17a0
  refine w_ops ?_
  refine wo_step (v := v23) (s_pure (p_mv g23)) ?_
  refine wo_nil ?_
  have hq := bindO_inv hr
  clear hr
  obtain ⟨m_9, eb, hr⟩ := hq
  refine qb eb ?_
  unfold k17c0
  refine w_block ?_
  refine w_seq ?_
  refine w_ops ?_
  refine wo_step (v := v23) (s_pure (p_mv rfl)) ?_
  have hq := bindP_inv hr
  clear hr
  obtain ⟨vn_3, m_10, en_3, hr⟩ := hq
  refine wo_stepN (s_st g6 rfl en_3) ?_
  have hq := bindP_inv hr
  clear hr
  obtain ⟨vn_4, m_11, en_4, hr⟩ := hq
  refine wo_stepN (s_st g7 rfl en_4) ?_
  refine wo_nil ?_
  refine nx_norm ?_
  refine w_ret ?_
  refine bk_ret ?_
  exact hr

theorem g17_ok {ro : List ABlk} {O : Caller} {M : Means} (hM : M.Ok ⟨F, O⟩ ro) {x0 x1 v2 h r} (ho : O 17 [(.i .i64 x0), (.i .i64 x1), v2] h = none) (hr : g17 M ro x0 x1 v2 ⟨h, h.length, h.length⟩ = some r) : callX ⟨F, O⟩ ro 17 [(.i .i64 x0), (.i .i64 x1), v2] h = some r := by
  refine callX_of (F := ⟨F, O⟩) (fn := fn17) (g := g17 M ro x0 x1 v2) ho rfl rfl hr ?_
  clear ho
  clear hr
  intro m0 t0 ht hr
  have g0 : t0.get 0 = (.i .i64 x0) := ht 0
  have g1 : t0.get 1 = (.i .i64 x1) := ht 1
  have g2 : t0.get 2 = v2 := ht 2
  clear ht
  unfold g17 at hr
  refine w_seq ?_
  refine w_ops ?_
  have hq := bindP_inv hr
  clear hr
  obtain ⟨v6, m_1, e6, hr⟩ := hq
  refine wo_step (v := v6) (s_al e6) ?_
  have hq := bindP_inv hr
  clear hr
  obtain ⟨v7, m_2, e7, hr⟩ := hq
  refine wo_step (v := v7) (s_al e7) ?_
  refine wo_nil ?_
  refine nx_norm ?_
  refine w_seq ?_
  refine w_ops ?_
  refine wo_step (v := (.i .i64 x0)) (s_pure (p_mv g0)) ?_
  refine wo_step (v := (.i .i64 x1)) (s_pure (p_mv g1)) ?_
  refine wo_step (v := v2) (s_pure (p_mv g2)) ?_
  have hq := bindP_inv hr
  clear hr
  obtain ⟨v15, m_3, e15, hr⟩ := hq
  refine wo_step (v := v15) (s_call (mc rfl (mc rfl (mc rfl mn))) (callM_le hM.call e15)) ?_
  refine wo_step (v := v15) (s_pure (p_mv rfl)) ?_
  have hq := bindO_inv hr
  clear hr
  obtain ⟨v16, e16, hr⟩ := hq
  refine wo_step (v := v16) (s_pure (o_ext rfl e16)) ?_
  have hq := bindO_inv hr
  clear hr
  obtain ⟨v17, e17, hr⟩ := hq
  have hq := asI_inv hr
  clear hr
  obtain ⟨x17, rfl, hr⟩ := hq
  refine wo_step (v := (.i .i64 x17)) (s_pure (o_ext rfl e17)) ?_
  have hq := bindP_inv hr
  clear hr
  obtain ⟨v8, m_4, e8, hr⟩ := hq
  refine wo_step (v := v8) (s_al e8) ?_
  have hq := bindP_inv hr
  clear hr
  obtain ⟨vn, m_5, en, hr⟩ := hq
  refine wo_stepN (s_st rfl rfl en) ?_
  refine wo_step (v := (.i .i64 x17)) (s_pure (p_mv rfl)) ?_
  refine wo_nil ?_
  refine nx_norm ?_
  refine w_seq ?_
  refine w_seq ?_
  refine w_ops ?_
  refine wo_step (v := (.i .i64 x17)) (s_pure (p_mv rfl)) ?_
  have hq := forceB_inv hr
  clear hr
  obtain ⟨c19, e19, hr⟩ := hq
  refine wo_step (v := (.b c19)) (s_pure (p_bin rfl rfl (b_neq.trans (cb e19)))) ?_
  refine wo_nil ?_
  refine nx_norm ?_
  have hq := cond_inv hr
  clear hr
  rcases hq with ⟨rfl, hr⟩ | ⟨rfl, hr⟩
  · refine w_condT rfl ?_
    refine w_seq ?_
    refine w_ops ?_
    refine wo_step (v := (.i .i64 x17)) (s_pure (p_mv rfl)) ?_
    have hq := bindP_inv hr
    clear hr
    obtain ⟨vn_1, m_6, en_1, hr⟩ := hq
    refine wo_stepN (s_st rfl rfl en_1) ?_
    have hq := bindP_inv hr
    clear hr
    obtain ⟨vn_2, m_7, en_2, hr⟩ := hq
    refine wo_stepN (s_st rfl rfl en_2) ?_
    refine wo_nil ?_
    refine nx_norm ?_
    refine w_ret ?_
    refine nx_ret ?_
    have hq := bindO_inv hr
    clear hr
    obtain ⟨vr, er, hr⟩ := hq
    have hq := bindO_inv hr
    clear hr
    obtain ⟨vr_1, er_1, hr⟩ := hq
    exact qf ret_ok (rc rfl er (rc rfl er_1 rn)) hr
  · refine w_condF rfl ?_
    refine w_skip ?_
    refine nx_norm ?_
    refine w_seq ?_
    refine w_seq ?_
    refine w_ops ?_
    have hq := bindO_inv hr
    clear hr
    obtain ⟨v21, e21, hr⟩ := hq
    refine wo_step (v := v21) (s_ld rfl e21) ?_
    have hq := bindP_inv hr
    clear hr
    obtain ⟨v22, m_8, e22, hr⟩ := hq
    refine wo_step (v := v22) (s_call (mc rfl mn) (callM_le hM.call e22)) ?_
    refine wo_nil ?_
    refine nx_norm ?_
    refine w_block ?_
    have hq := bindO_inv hr
    clear hr
    obtain ⟨⟨ex, m_12⟩, er_2, hr⟩ := hq
    refine w_rng hM.call rfl er_2 ⟨trivial, gl rfl, gl rfl⟩ ?_
    have hq := onE_inv hr
    clear hr
    rcases hq with ⟨rfl, hr⟩ | ⟨rfl, hr⟩ | ⟨ix, rfl, hr⟩
    · refine bk_norm ?_
      refine nx_norm ?_
      refine w_seq ?_
      refine w_ops ?_
      have hq := bindP_inv hr
      clear hr
      obtain ⟨vn_5, m_13, en_5, hr⟩ := hq
      refine wo_stepN (s_st rfl rfl en_5) ?_
      have hq := bindP_inv hr
      clear hr
      obtain ⟨vn_6, m_14, en_6, hr⟩ := hq
      refine wo_stepN (s_st rfl rfl en_6) ?_
      refine wo_nil ?_
      refine nx_norm ?_
      refine w_ret ?_
      have hq := bindO_inv hr
      clear hr
      obtain ⟨vr_2, er_3, hr⟩ := hq
      have hq := bindO_inv hr
      clear hr
      obtain ⟨vr_3, er_4, hr⟩ := hq
      exact qf ret_ok (rc rfl er_3 (rc rfl er_4 rn)) hr
    · refine bk_ret ?_
      refine nx_ret ?_
      have hq := bindO_inv hr
      clear hr
      obtain ⟨vr_4, er_5, hr⟩ := hq
      have hq := bindO_inv hr
      clear hr
      obtain ⟨vr_5, er_6, hr⟩ := hq
      exact qf ret_ok (rc rfl er_5 (rc rfl er_6 rn)) hr
    · cases hr

/- dibber/dibberlaw04.same -/
abbrev g19_I0 (v0 : AVal) (v1 : AVal) (m0 : Mm) (s : Int) (m1 : Mm) (t1 : Tr) : Prop :=
  match s with
  | x5 => m0 = m1 ∧ t1.get 5 = (.i .i64 x5) ∧ t1.get 0 = v0 ∧ t1.get 1 = v1
abbrev g19_J0 (v0 : AVal) (v1 : AVal) (m0 : Mm) (o : (Unit ⊕ Bool)) (e : AExit) (m1 : Mm) (t1 : Tr) : Prop :=
  match o with
  | (.inl _) => e = (.exit 0) ∧ m0 = m1
  | (.inr y4) => e = .ret ∧ m0 = m1 ∧ t1.get 4 = (.b y4)
def g19_b0 (M : Means) (ro : List ABlk) (v0 : AVal) (v1 : AVal) (m0 : Mm) (x5 : Int) : Option ((Int) ⊕ ((Unit ⊕ Bool))) :=
  bindO (evP .e (.len false (.c v0))) fun v13 =>
  asI .i64 v13 fun x13 =>
  forceB (ltI x5 x13) fun c14 =>
  cond c14 (
    bindO (evP .e (.ixS 1 (.c v0) (.c (.i .i64 x5)))) fun v19 =>
    bindO (ldA ro m0.h true 1 v19) fun v20 =>
    asI .i64 v20 fun x20 =>
    bindO (evP .e (.ixS 1 (.c v1) (.c (.i .i64 x5)))) fun v23 =>
    bindO (ldA ro m0.h true 1 v23) fun v24 =>
    asI .i64 v24 fun x24 =>
    forceB (!eqI x20 x24) fun c25 =>
    cond c25 (
      some (.inr (.inr false))) (
      forceI (wr .i64 (x5 + 1)) fun x16 =>
      some (.inl x16))) (
    some (.inr (.inl ())))
def g19 (M : Means) (ro : List ABlk) (v0 : AVal) (v1 : AVal) (m0 : Mm) : Option (AVal × Heap × Nat × Nat) :=
  bindO (evP .e (.len false (.c v0))) fun v7 =>
  asI .i64 v7 fun x7 =>
  bindO (evP .e (.len false (.c v1))) fun v9 =>
  asI .i64 v9 fun x9 =>
  forceB (!eqI x7 x9) fun c10 =>
  cond c10 (
    finM m0.h.length (tupA [(.b false)]) m0) (
    bindO (M.loop (S := Int) (R := (Unit ⊕ Bool)) (fun s => g19_b0 M ro v0 v1 m0 s) 0) fun o => match o with
    | (.inl _) =>
      finM m0.h.length (tupA [(.b true)]) m0
    | (.inr c4) =>
      finM m0.h.length (tupA [(.b c4)]) m0)

theorem g19_ok {ro : List ABlk} {O : Caller} {M : Means} (hM : M.Ok ⟨F, O⟩ ro) {v0 v1 h r} (ho : O 19 [v0, v1] h = none) (hr : g19 M ro v0 v1 ⟨h, h.length, h.length⟩ = some r) : callX ⟨F, O⟩ ro 19 [v0, v1] h = some r := by
  refine callX_of (F := ⟨F, O⟩) (fn := fn19) (g := g19 M ro v0 v1) ho rfl rfl hr ?_
  clear ho
  clear hr
  intro m0 t0 ht hr
  have g0 : t0.get 0 = v0 := ht 0
  have g1 : t0.get 1 = v1 := ht 1
  clear ht
  unfold g19 at hr
  refine w_seq ?_
  refine w_ops ?_
  refine wo_step (v := (.b false)) (s_pure (p_mv rfl)) ?_
  refine wo_nil ?_
  refine nx_norm ?_
  refine w_seq ?_
  refine w_seq ?_
  refine w_ops ?_
  refine wo_step (v := v0) (s_pure (p_mv g0)) ?_
  have hq := bindO_inv hr
  clear hr
  obtain ⟨v7, e7, hr⟩ := hq
  have hq := asI_inv hr
  clear hr
  obtain ⟨x7, rfl, hr⟩ := hq
  refine wo_step (v := (.i .i64 x7)) (s_pure (o_len rfl e7)) ?_
  refine wo_step (v := v1) (s_pure (p_mv g1)) ?_
  have hq := bindO_inv hr
  clear hr
  obtain ⟨v9, e9, hr⟩ := hq
  have hq := asI_inv hr
  clear hr
  obtain ⟨x9, rfl, hr⟩ := hq
  refine wo_step (v := (.i .i64 x9)) (s_pure (o_len rfl e9)) ?_
  have hq := forceB_inv hr
  clear hr
  obtain ⟨c10, e10, hr⟩ := hq
  refine wo_step (v := (.b c10)) (s_pure (p_bin rfl rfl (b_neq.trans (cb e10)))) ?_
  refine wo_nil ?_
  refine nx_norm ?_
  have hq := cond_inv hr
  clear hr
  rcases hq with ⟨rfl, hr⟩ | ⟨rfl, hr⟩
  · refine w_condT rfl ?_
    refine w_seq ?_
    refine w_ops ?_
    refine wo_step (v := (.b false)) (s_pure (p_mv rfl)) ?_
    refine wo_nil ?_
    refine nx_norm ?_
    refine w_ret ?_
    refine nx_ret ?_
    exact qf ret_ok (rt rfl rn) hr
  · refine w_condF rfl ?_
    refine w_skip ?_
    refine nx_norm ?_
    refine w_seq ?_
    refine w_seq ?_
    refine w_ops ?_
    refine wo_step (v := (.i .i64 0)) (s_pure (p_mv rfl)) ?_
    refine wo_nil ?_
    refine nx_norm ?_
    refine w_block ?_
    have hq := bindO_inv hr
    clear hr
    obtain ⟨o, hl, hr⟩ := hq
    obtain ⟨n, hl⟩ := hM.loop _ _ _ hl
    refine jp_mono (w_loop _ (g19_I0 v0 v1 m0) (g19_J0 v0 v1 m0) ?_ n _ _ _ _ hl ⟨rfl, gl rfl, gl g0, gl g1⟩) ?_
    · clear hr hl
      intro s mm_2 t_1 o hi hr
      obtain ⟨x5, hs⟩ : ∃ z, z = s := ⟨_, rfl⟩
      subst hs
      obtain ⟨rfl, g5, g0, g1⟩ := hi
      unfold g19_b0 at hr
      refine w_seq ?_
      refine w_seq ?_
      refine w_ops ?_
      refine wo_step (v := (.i .i64 x5)) (s_pure (p_mv g5)) ?_
      refine wo_step (v := v0) (s_pure (p_mv g0)) ?_
      have hq := bindO_inv hr
      clear hr
      obtain ⟨v13, e13, hr⟩ := hq
      have hq := asI_inv hr
      clear hr
      obtain ⟨x13, rfl, hr⟩ := hq
      refine wo_step (v := (.i .i64 x13)) (s_pure (o_len rfl e13)) ?_
      have hq := forceB_inv hr
      clear hr
      obtain ⟨c14, e14, hr⟩ := hq
      refine wo_step (v := (.b c14)) (s_pure (p_bin rfl rfl (b_lss.trans (cb e14)))) ?_
      refine wo_nil ?_
      refine nx_norm ?_
      have hq := cond_inv hr
      clear hr
      rcases hq with ⟨rfl, hr⟩ | ⟨rfl, hr⟩
      · refine w_condT rfl ?_
        refine w_skip ?_
        refine nx_norm ?_
        refine w_seq ?_
        refine w_block ?_
        refine w_seq ?_
        refine w_any ?_
        refine wa_step (v := v0) (a_pure (p_mv g0)) ?_
        refine wa_step (v := (.i .i64 x5)) (a_pure (p_mv g5)) ?_
        have hq := bindO_inv hr
        clear hr
        obtain ⟨v19, e19, hr⟩ := hq
        refine wa_step (v := v19) (a_pure (o_ixS rfl rfl e19)) ?_
        have hq := bindO_inv hr
        clear hr
        obtain ⟨v20, e20, hr⟩ := hq
        have hq := asI_inv hr
        clear hr
        obtain ⟨x20, rfl, hr⟩ := hq
        refine wa_step (v := (.i .i64 x20)) (a_ld rfl e20) ?_
        refine wa_step (v := v1) (a_pure (p_mv g1)) ?_
        refine wa_step (v := (.i .i64 x5)) (a_pure (p_mv g5)) ?_
        have hq := bindO_inv hr
        clear hr
        obtain ⟨v23, e23, hr⟩ := hq
        refine wa_step (v := v23) (a_pure (o_ixS rfl rfl e23)) ?_
        have hq := bindO_inv hr
        clear hr
        obtain ⟨v24, e24, hr⟩ := hq
        have hq := asI_inv hr
        clear hr
        obtain ⟨x24, rfl, hr⟩ := hq
        refine wa_step (v := (.i .i64 x24)) (a_ld rfl e24) ?_
        have hq := forceB_inv hr
        clear hr
        obtain ⟨c25, e25, hr⟩ := hq
        refine wa_step (v := (.b c25)) (a_pure (p_bin rfl rfl (b_neq.trans (cb e25)))) ?_
        refine wa_nil ?_
        refine ⟨m0, rfl, ?_⟩
        refine nx_norm ?_
        have hq := cond_inv hr
        clear hr
        rcases hq with ⟨rfl, hr⟩ | ⟨rfl, hr⟩
        · refine w_condT rfl ?_
          refine w_seq ?_
          refine w_ops ?_
          refine wo_step (v := (.b false)) (s_pure (p_mv rfl)) ?_
          refine wo_nil ?_
          refine nx_norm ?_
          refine w_ret ?_
          refine bk_ret ?_
          refine nx_ret ?_
          cases hr
          exact ⟨_, _, rfl, ne_norm_ret, rfl, rfl, gl rfl⟩
        · refine w_condF rfl ?_
          refine w_skip ?_
          refine bk_norm ?_
          refine nx_norm ?_
          refine w_ops ?_
          refine wo_step (v := (.i .i64 x5)) (s_pure (p_mv g5)) ?_
          have hq := forceI_inv hr
          clear hr
          obtain ⟨x16, e16, hr⟩ := hq
          refine wo_step (v := (.i .i64 x16)) (s_pure (p_bin rfl rfl (b_add.trans (ci e16)))) ?_
          refine wo_step (v := (.i .i64 x16)) (s_pure (p_mv rfl)) ?_
          refine wo_nil ?_
          cases hr
          exact ⟨_, _, rfl, rfl, rfl, gl rfl, gl g0, gl g1⟩
      · refine w_condF rfl ?_
        refine w_exit ?_
        refine nx_exit ?_
        cases hr
        exact ⟨_, _, rfl, ne_norm_exit, rfl, rfl⟩
    · rcases o with o | o
      · rintro _ mm t_2 ⟨rfl, rfl⟩
        refine bk_hit ?_
        refine nx_norm ?_
        refine w_seq ?_
        refine w_ops ?_
        refine wo_step (v := (.b true)) (s_pure (p_mv rfl)) ?_
        refine wo_nil ?_
        refine nx_norm ?_
        refine w_ret ?_
        exact qf ret_ok (rt rfl rn) hr
      · obtain ⟨c4, ho⟩ : ∃ z, z = o := ⟨_, rfl⟩
        subst ho
        rintro _ mm_1 t_3 ⟨rfl, rfl, g4⟩
        refine bk_ret ?_
        refine nx_ret ?_
        exact qf ret_ok (rt g4 rn) hr

/- dibber/dibberref04.Spans -/
abbrev g20_J0 (x0 : Int) (x1 : Int) (v2 : AVal) (m0 : Mm) (o : Bool) (m1 : Mm) (t1 : Tr) : Prop :=
  match o with
  | c14 => m0 = m1 ∧ t1.get 14 = (.b c14) ∧ t1.get 0 = (.i .i64 x0) ∧ t1.get 1 = (.i .i64 x1) ∧ t1.get 2 = v2
abbrev g20_J1 (x0 : Int) (x1 : Int) (v2 : AVal) (m0 : Mm) (o : Bool) (m1 : Mm) (t1 : Tr) : Prop :=
  match o with
  | c18 => m0 = m1 ∧ t1.get 18 = (.b c18) ∧ t1.get 0 = (.i .i64 x0) ∧ t1.get 1 = (.i .i64 x1) ∧ t1.get 2 = v2
abbrev g20_J2 (x0 : Int) (x1 : Int) (v2 : AVal) (m0 : Mm) (o : Bool) (m1 : Mm) (t1 : Tr) : Prop :=
  match o with
  | c22 => m0 = m1 ∧ t1.get 22 = (.b c22) ∧ t1.get 0 = (.i .i64 x0) ∧ t1.get 1 = (.i .i64 x1) ∧ t1.get 2 = v2
abbrev g20_I3 (x0 : Int) (x1 : Int) (v2 : AVal) (s : Int × Mm) (m1 : Mm) (t1 : Tr) : Prop :=
  match s with
  | (x7, m_1) => m_1 = m1 ∧ t1.get 7 = (.i .i64 x7) ∧ t1.get 0 = (.i .i64 x0) ∧ t1.get 1 = (.i .i64 x1) ∧ t1.get 2 = v2
abbrev g20_J3 (x0 : Int) (x1 : Int) (v2 : AVal) (o : (Mm ⊕ (Int × Mm))) (e : AExit) (m1 : Mm) (t1 : Tr) : Prop :=
  match o with
  | (.inl mo) => e = (.exit 0) ∧ mo = m1
  | (.inr (y6, mo)) => e = .ret ∧ mo = m1 ∧ t1.get 6 = (.i .i64 y6)
abbrev g20_J4 (x0 : Int) (x1 : Int) (v2 : AVal) (x7 : Int) (v8 : AVal) (m_3 : Mm) (o : Bool) (m1 : Mm) (t1 : Tr) : Prop :=
  match o with
  | c44 => m_3 = m1 ∧ t1.get 44 = (.b c44) ∧ t1.get 0 = (.i .i64 x0) ∧ t1.get 1 = (.i .i64 x1) ∧ t1.get 2 = v2 ∧ t1.get 7 = (.i .i64 x7) ∧ t1.get 8 = v8
abbrev g20_J5 (x0 : Int) (x1 : Int) (v2 : AVal) (x7 : Int) (v8 : AVal) (m_3 : Mm) (o : Bool) (m1 : Mm) (t1 : Tr) : Prop :=
  match o with
  | c49 => m_3 = m1 ∧ t1.get 49 = (.b c49) ∧ t1.get 0 = (.i .i64 x0) ∧ t1.get 1 = (.i .i64 x1) ∧ t1.get 2 = v2 ∧ t1.get 7 = (.i .i64 x7) ∧ t1.get 8 = v8
abbrev g20_J6 (x0 : Int) (x1 : Int) (v2 : AVal) (x7 : Int) (v8 : AVal) (m_3 : Mm) (o : Bool) (m1 : Mm) (t1 : Tr) : Prop :=
  match o with
  | c55 => m_3 = m1 ∧ t1.get 55 = (.b c55) ∧ t1.get 0 = (.i .i64 x0) ∧ t1.get 1 = (.i .i64 x1) ∧ t1.get 2 = v2 ∧ t1.get 7 = (.i .i64 x7) ∧ t1.get 8 = v8
abbrev g20_J7 (x0 : Int) (x1 : Int) (v2 : AVal) (x7 : Int) (v8 : AVal) (m_3 : Mm) (o : Bool) (m1 : Mm) (t1 : Tr) : Prop :=
  match o with
  | c62 => m_3 = m1 ∧ t1.get 62 = (.b c62) ∧ t1.get 0 = (.i .i64 x0) ∧ t1.get 1 = (.i .i64 x1) ∧ t1.get 2 = v2 ∧ t1.get 7 = (.i .i64 x7) ∧ t1.get 8 = v8
abbrev g20_J8 (x0 : Int) (x1 : Int) (v2 : AVal) (x7 : Int) (v8 : AVal) (m_3 : Mm) (o : Bool) (m1 : Mm) (t1 : Tr) : Prop :=
  match o with
  | c67 => m_3 = m1 ∧ t1.get 67 = (.b c67) ∧ t1.get 0 = (.i .i64 x0) ∧ t1.get 1 = (.i .i64 x1) ∧ t1.get 2 = v2 ∧ t1.get 7 = (.i .i64 x7) ∧ t1.get 8 = v8
abbrev g20_J9 (x0 : Int) (x1 : Int) (v2 : AVal) (x7 : Int) (v8 : AVal) (m_3 : Mm) (o : Bool) (m1 : Mm) (t1 : Tr) : Prop :=
  match o with
  | c72 => m_3 = m1 ∧ t1.get 72 = (.b c72) ∧ t1.get 0 = (.i .i64 x0) ∧ t1.get 1 = (.i .i64 x1) ∧ t1.get 2 = v2 ∧ t1.get 7 = (.i .i64 x7) ∧ t1.get 8 = v8
abbrev g20_J10 (x0 : Int) (x1 : Int) (v2 : AVal) (x7 : Int) (v8 : AVal) (m_3 : Mm) (o : Bool) (m1 : Mm) (t1 : Tr) : Prop :=
  match o with
  | c79 => m_3 = m1 ∧ t1.get 79 = (.b c79) ∧ t1.get 0 = (.i .i64 x0) ∧ t1.get 1 = (.i .i64 x1) ∧ t1.get 2 = v2 ∧ t1.get 7 = (.i .i64 x7) ∧ t1.get 8 = v8
abbrev g20_J11 (x0 : Int) (x1 : Int) (v2 : AVal) (x7 : Int) (m_3 : Mm) (o : Bool) (m1 : Mm) (t1 : Tr) : Prop :=
  match o with
  | c89 => m_3 = m1 ∧ t1.get 89 = (.b c89) ∧ t1.get 0 = (.i .i64 x0) ∧ t1.get 1 = (.i .i64 x1) ∧ t1.get 2 = v2 ∧ t1.get 7 = (.i .i64 x7)
def g20_b3 (M : Means) (ro : List ABlk) (x0 : Int) (x1 : Int) (v2 : AVal) (x7 : Int) (m_1 : Mm) : Option ((Int × Mm) ⊕ ((Mm ⊕ (Int × Mm)))) :=
  bindO (evP .e (.len false (.c v2))) fun v28 =>
  asI .i64 v28 fun x28 =>
  forceB (ltI x7 x28) fun c29 =>
  cond c29 (
    bindO (evP .e (.ixS 4 (.c v2) (.c (.i .i64 x7)))) fun v34 =>
    bindO (ldM ro m_1 false 4 v34) fun v35 =>
    bindP (stepM ro m_1 (.al 31 [(AVal.i IntKind.i64 0), (AVal.i IntKind.i64 0), (AVal.i IntKind.i64 0), (AVal.i IntKind.i64 0)])) fun v8 m_2 =>
    bindP (stepM ro m_2 (.st 4 (.c v8) (.c v35))) fun vn m_3 =>
    bindO (evP .e (.faddr 0 (.c v8))) fun v36 =>
    bindO (ldM ro m_3 true 1 v36) fun v37 =>
    asI .i64 v37 fun x37 =>
    forceB (ltI x37 0) fun c38 =>
    bindO (cond c38 (
      some true) (
      bindO (evP .e (.faddr 0 (.c v8))) fun v40 =>
      bindO (ldM ro m_3 true 1 v40) fun v41 =>
      asI .i64 v41 fun x41 =>
      forceB (!ltI x41 x1) fun c43 =>
      some c43)) fun c44 =>
    bindO (cond c44 (
      some true) (
      bindO (evP .e (.faddr 1 (.c v8))) fun v46 =>
      bindO (ldM ro m_3 true 1 v46) fun v47 =>
      asI .i64 v47 fun x47 =>
      forceB (ltI x47 0) fun c48 =>
      some c48)) fun c49 =>
    bindO (cond c49 (
      some true) (
      bindO (evP .e (.faddr 1 (.c v8))) fun v51 =>
      bindO (ldM ro m_3 true 1 v51) fun v52 =>
      asI .i64 v52 fun x52 =>
      forceB (!ltI x52 x1) fun c54 =>
      some c54)) fun c55 =>
    bindO (cond c55 (
      some true) (
      bindO (evP .e (.faddr 0 (.c v8))) fun v57 =>
      bindO (ldM ro m_3 true 1 v57) fun v58 =>
      asI .i64 v58 fun x58 =>
      bindO (evP .e (.faddr 1 (.c v8))) fun v59 =>
      bindO (ldM ro m_3 true 1 v59) fun v60 =>
      asI .i64 v60 fun x60 =>
      forceB (eqI x58 x60) fun c61 =>
      some c61)) fun c62 =>
    bindO (cond c62 (
      some true) (
      bindO (evP .e (.faddr 2 (.c v8))) fun v64 =>
      bindO (ldM ro m_3 true 1 v64) fun v65 =>
      asI .i64 v65 fun x65 =>
      forceB (ltI x65 (-600)) fun c66 =>
      some c66)) fun c67 =>
    bindO (cond c67 (
      some true) (
      bindO (evP .e (.faddr 2 (.c v8))) fun v69 =>
      bindO (ldM ro m_3 true 1 v69) fun v70 =>
      asI .i64 v70 fun x70 =>
      forceB (ltI 600 x70) fun c71 =>
      some c71)) fun c72 =>
    bindO (cond c72 (
      some true) (
      bindO (evP .e (.faddr 3 (.c v8))) fun v74 =>
      bindO (ldM ro m_3 true 1 v74) fun v75 =>
      asI .i64 v75 fun x75 =>
      bindO (evP .e (.faddr 2 (.c v8))) fun v76 =>
      bindO (ldM ro m_3 true 1 v76) fun v77 =>
      asI .i64 v77 fun x77 =>
      forceB (ltI x75 x77) fun c78 =>
      some c78)) fun c79 =>
    bindO (cond c79 (
      some true) (
      bindO (evP .e (.faddr 3 (.c v8))) fun v81 =>
      bindO (ldM ro m_3 true 1 v81) fun v82 =>
      asI .i64 v82 fun x82 =>
      bindO (evP .e (.faddr 2 (.c v8))) fun v83 =>
      bindO (ldM ro m_3 true 1 v83) fun v84 =>
      asI .i64 v84 fun x84 =>
      forceI (wr .i64 (x84 + x0)) fun x86 =>
      forceI (wr .i64 (x86 - 1)) fun x87 =>
      forceB (ltI x87 x82) fun c88 =>
      some c88)) fun c89 =>
    cond c89 (
      some (.inr (.inr (2, m_3)))) (
      forceI (wr .i64 (x7 + 1)) fun x31 =>
      some (.inl (x31, m_3)))) (
    some (.inr (.inl m_1)))
def g20 (M : Means) (ro : List ABlk) (x0 : Int) (x1 : Int) (v2 : AVal) (m0 : Mm) : Option (AVal × Heap × Nat × Nat) :=
  forceB (ltI x0 1) fun c10 =>
  bindO (cond c10 (
    some true) (
    forceB (ltI 24 x0) fun c13 =>
    some c13)) fun c14 =>
  bindO (cond c14 (
    some true) (
    forceB (ltI x1 1) fun c17 =>
    some c17)) fun c18 =>
  bindO (cond c18 (
    some true) (
    forceB (ltI 6 x1) fun c21 =>
    some c21)) fun c22 =>
  cond c22 (
    finM m0.h.length (tupA [(.i .i64 2)]) m0) (
    bindO (evP .e (.len false (.c v2))) fun v24 =>
    asI .i64 v24 fun x24 =>
    forceB (ltI 20 x24) fun c25 =>
    cond c25 (
      finM m0.h.length (tupA [(.i .i64 3)]) m0) (
      bindO (M.loop (S := Int × Mm) (R := (Mm ⊕ (Int × Mm))) (fun s => g20_b3 M ro x0 x1 v2 s.1 s.2) (0, m0)) fun o_11 => match o_11 with
      | (.inl m_4) =>
        finM m0.h.length (tupA [(.i .i64 0)]) m_4
      | (.inr (x6, m_5)) =>
        finM m0.h.length (tupA [(.i .i64 x6)]) m_5))

theorem g20_ok {ro : List ABlk} {O : Caller} {M : Means} (hM : M.Ok ⟨F, O⟩ ro) {x0 x1 v2 h r} (ho : O 20 [(.i .i64 x0), (.i .i64 x1), v2] h = none) (hr : g20 M ro x0 x1 v2 ⟨h, h.length, h.length⟩ = some r) : callX ⟨F, O⟩ ro 20 [(.i .i64 x0), (.i .i64 x1), v2] h = some r := by
  refine callX_of (F := ⟨F, O⟩) (fn := fn20) (g := g20 M ro x0 x1 v2) ho rfl rfl hr ?_
  clear ho
  clear hr
  intro m0 t0 ht hr
  have g0 : t0.get 0 = (.i .i64 x0) := ht 0
  have g1 : t0.get 1 = (.i .i64 x1) := ht 1
  have g2 : t0.get 2 = v2 := ht 2
  clear ht
  unfold g20 at hr
  refine w_seq ?_
  refine w_ops ?_
  refine wo_step (v := (.i .i64 0)) (s_pure (p_mv rfl)) ?_
  refine wo_nil ?_
  refine nx_norm ?_
  refine w_seq ?_
  refine w_seq ?_
  refine w_ops ?_
  refine wo_step (v := (.i .i64 x0)) (s_pure (p_mv g0)) ?_
  have hq := forceB_inv hr
  clear hr
  obtain ⟨c10, e10, hr⟩ := hq
  refine wo_step (v := (.b c10)) (s_pure (p_bin rfl rfl (b_lss.trans (cb e10)))) ?_
  refine wo_step (v := (.b c10)) (s_pure (p_mv rfl)) ?_
  have hq := bindO_inv hr
  clear hr
  obtain ⟨o, hr, hk⟩ := hq
  refine wo_join 3 (g20_J0 x0 x1 v2 m0 o) ?_ ?_
  · clear hk
    have hq := cond_inv hr
    clear hr
    rcases hq with ⟨rfl, hr⟩ | ⟨rfl, hr⟩
    · refine wo_skip (v := (.b true)) rfl rfl ?_
      refine wo_skip (v := (.b true)) rfl rfl ?_
      refine wo_step (v := (.b true)) (s_pure (p_pickT rfl rfl)) ?_
      refine wo_nil ?_
      cases hr
      exact ⟨_, _, rfl, rfl, gl rfl, gl g0, gl g1, gl g2⟩
    · refine wo_take (v := (.i .i64 x0)) rfl (s_pure (p_mv g0)) ?_
      have hq := forceB_inv hr
      clear hr
      obtain ⟨c13, e13, hr⟩ := hq
      refine wo_take (v := (.b c13)) rfl (s_pure (p_bin rfl rfl (b_gtr.trans (cb e13)))) ?_
      refine wo_step (v := (.b c13)) (s_pure (p_pickF rfl rfl)) ?_
      refine wo_nil ?_
      cases hr
      exact ⟨_, _, rfl, rfl, gl rfl, gl g0, gl g1, gl g2⟩
  · clear hr
    have hr := hk
    clear hk
    obtain ⟨c14, ho⟩ : ∃ z, z = o := ⟨_, rfl⟩
    subst ho
    rintro mm t_1 ⟨rfl, g14, g0, g1, g2⟩
    refine wo_step (v := (.b c14)) (s_pure (p_mv g14)) ?_
    have hq := bindO_inv hr
    clear hr
    obtain ⟨o_1, hr, hk⟩ := hq
    refine wo_join 3 (g20_J1 x0 x1 v2 m0 o_1) ?_ ?_
    · clear hk
      have hq := cond_inv hr
      clear hr
      rcases hq with ⟨rfl, hr⟩ | ⟨rfl, hr⟩
      · refine wo_skip (v := (.b true)) rfl rfl ?_
        refine wo_skip (v := (.b true)) rfl rfl ?_
        refine wo_step (v := (.b true)) (s_pure (p_pickT rfl rfl)) ?_
        refine wo_nil ?_
        cases hr
        exact ⟨_, _, rfl, rfl, gl rfl, gl g0, gl g1, gl g2⟩
      · refine wo_take (v := (.i .i64 x1)) rfl (s_pure (p_mv g1)) ?_
        have hq := forceB_inv hr
        clear hr
        obtain ⟨c17, e17, hr⟩ := hq
        refine wo_take (v := (.b c17)) rfl (s_pure (p_bin rfl rfl (b_lss.trans (cb e17)))) ?_
        refine wo_step (v := (.b c17)) (s_pure (p_pickF rfl rfl)) ?_
        refine wo_nil ?_
        cases hr
        exact ⟨_, _, rfl, rfl, gl rfl, gl g0, gl g1, gl g2⟩
    · clear hr
      have hr := hk
      clear hk
      obtain ⟨c18, ho⟩ : ∃ z, z = o_1 := ⟨_, rfl⟩
      subst ho
      rintro mm_1 t_2 ⟨rfl, g18, g0, g1, g2⟩
      refine wo_step (v := (.b c18)) (s_pure (p_mv g18)) ?_
      have hq := bindO_inv hr
      clear hr
      obtain ⟨o_2, hr, hk⟩ := hq
      refine wo_join 3 (g20_J2 x0 x1 v2 m0 o_2) ?_ ?_
      · clear hk
        have hq := cond_inv hr
        clear hr
        rcases hq with ⟨rfl, hr⟩ | ⟨rfl, hr⟩
        · refine wo_skip (v := (.b true)) rfl rfl ?_
          refine wo_skip (v := (.b true)) rfl rfl ?_
          refine wo_step (v := (.b true)) (s_pure (p_pickT rfl rfl)) ?_
          refine wo_nil ?_
          cases hr
          exact ⟨_, _, rfl, rfl, gl rfl, gl g0, gl g1, gl g2⟩
        · refine wo_take (v := (.i .i64 x1)) rfl (s_pure (p_mv g1)) ?_
          have hq := forceB_inv hr
          clear hr
          obtain ⟨c21, e21, hr⟩ := hq
          refine wo_take (v := (.b c21)) rfl (s_pure (p_bin rfl rfl (b_gtr.trans (cb e21)))) ?_
          refine wo_step (v := (.b c21)) (s_pure (p_pickF rfl rfl)) ?_
          refine wo_nil ?_
          cases hr
          exact ⟨_, _, rfl, rfl, gl rfl, gl g0, gl g1, gl g2⟩
      · clear hr
        have hr := hk
        clear hk
        obtain ⟨c22, ho⟩ : ∃ z, z = o_2 := ⟨_, rfl⟩
        subst ho
        rintro mm_2 t_3 ⟨rfl, g22, g0, g1, g2⟩
        refine wo_nil ?_
        refine nx_norm ?_
        have hq := cond_inv hr
        clear hr
        rcases hq with ⟨rfl, hr⟩ | ⟨rfl, hr⟩
        · refine w_condT g22 ?_
          refine w_seq ?_
          refine w_ops ?_
          refine wo_step (v := (.i .i64 2)) (s_pure (p_mv rfl)) ?_
          refine wo_nil ?_
          refine nx_norm ?_
          refine w_ret ?_
          refine nx_ret ?_
          exact qf ret_ok (rt rfl rn) hr
        · refine w_condF g22 ?_
          refine w_skip ?_
          refine nx_norm ?_
          refine w_seq ?_
          refine w_seq ?_
          refine w_ops ?_
          refine wo_step (v := v2) (s_pure (p_mv g2)) ?_
          have hq := bindO_inv hr
          clear hr
          obtain ⟨v24, e24, hr⟩ := hq
          have hq := asI_inv hr
          clear hr
          obtain ⟨x24, rfl, hr⟩ := hq
          refine wo_step (v := (.i .i64 x24)) (s_pure (o_len rfl e24)) ?_
          have hq := forceB_inv hr
          clear hr
          obtain ⟨c25, e25, hr⟩ := hq
          refine wo_step (v := (.b c25)) (s_pure (p_bin rfl rfl (b_gtr.trans (cb e25)))) ?_
          refine wo_nil ?_
          refine nx_norm ?_
          have hq := cond_inv hr
          clear hr
          rcases hq with ⟨rfl, hr⟩ | ⟨rfl, hr⟩
          · refine w_condT rfl ?_
            refine w_seq ?_
            refine w_ops ?_
            refine wo_step (v := (.i .i64 3)) (s_pure (p_mv rfl)) ?_
            refine wo_nil ?_
            refine nx_norm ?_
            refine w_ret ?_
            refine nx_ret ?_
            exact qf ret_ok (rt rfl rn) hr
          · refine w_condF rfl ?_
            refine w_skip ?_
            refine nx_norm ?_
            refine w_seq ?_
            refine w_seq ?_
            refine w_ops ?_
            refine wo_step (v := (.i .i64 0)) (s_pure (p_mv rfl)) ?_
            refine wo_nil ?_
            refine nx_norm ?_
            refine w_block ?_
            have hq := bindO_inv hr
            clear hr
            obtain ⟨o_11, hl, hr⟩ := hq
            obtain ⟨n, hl⟩ := hM.loop _ _ _ hl
            refine jp_mono (w_loop _ (g20_I3 x0 x1 v2) (g20_J3 x0 x1 v2) ?_ n _ _ _ _ hl ⟨rfl, gl rfl, gl g0, gl g1, gl g2⟩) ?_
            · clear hr hl
              intro s mm_13 t_4 o hi hr
              obtain ⟨x7, m_1⟩ := s
              obtain ⟨rfl, g7, g0, g1, g2⟩ := hi
              unfold g20_b3 at hr
              refine w_seq ?_
              refine w_seq ?_
              refine w_ops ?_
              refine wo_step (v := (.i .i64 x7)) (s_pure (p_mv g7)) ?_
              refine wo_step (v := v2) (s_pure (p_mv g2)) ?_
              have hq := bindO_inv hr
              clear hr
              obtain ⟨v28, e28, hr⟩ := hq
              have hq := asI_inv hr
              clear hr
              obtain ⟨x28, rfl, hr⟩ := hq
              refine wo_step (v := (.i .i64 x28)) (s_pure (o_len rfl e28)) ?_
              have hq := forceB_inv hr
              clear hr
              obtain ⟨c29, e29, hr⟩ := hq
              refine wo_step (v := (.b c29)) (s_pure (p_bin rfl rfl (b_lss.trans (cb e29)))) ?_
              refine wo_nil ?_
              refine nx_norm ?_
              have hq := cond_inv hr
              clear hr
              rcases hq with ⟨rfl, hr⟩ | ⟨rfl, hr⟩
              · refine w_condT rfl ?_
                refine w_skip ?_
                refine nx_norm ?_
                refine w_seq ?_
                refine w_block ?_
                refine w_seq ?_
                refine w_ops ?_
                refine wo_step (v := v2) (s_pure (p_mv g2)) ?_
                refine wo_step (v := (.i .i64 x7)) (s_pure (p_mv g7)) ?_
                have hq := bindO_inv hr
                clear hr
                obtain ⟨v34, e34, hr⟩ := hq
                refine wo_step (v := v34) (s_pure (o_ixS rfl rfl e34)) ?_
                have hq := bindO_inv hr
                clear hr
                obtain ⟨v35, e35, hr⟩ := hq
                refine wo_step (v := v35) (s_ld rfl e35) ?_
                have hq := bindP_inv hr
                clear hr
                obtain ⟨v8, m_2, e8, hr⟩ := hq
                refine wo_step (v := v8) (s_al e8) ?_
                have hq := bindP_inv hr
                clear hr
                obtain ⟨vn, m_3, en, hr⟩ := hq
                refine wo_stepN (s_st rfl rfl en) ?_
                refine wo_nil ?_
                refine nx_norm ?_
                refine w_seq ?_
                refine w_ops ?_
                have hq := bindO_inv hr
                clear hr
                obtain ⟨v36, e36, hr⟩ := hq
                refine wo_step (v := v36) (s_pure (o_faddr rfl e36)) ?_
                have hq := bindO_inv hr
                clear hr
                obtain ⟨v37, e37, hr⟩ := hq
                have hq := asI_inv hr
                clear hr
                obtain ⟨x37, rfl, hr⟩ := hq
                refine wo_step (v := (.i .i64 x37)) (s_ld rfl e37) ?_
                have hq := forceB_inv hr
                clear hr
                obtain ⟨c38, e38, hr⟩ := hq
                refine wo_step (v := (.b c38)) (s_pure (p_bin rfl rfl (b_lss.trans (cb e38)))) ?_
                refine wo_step (v := (.b c38)) (s_pure (p_mv rfl)) ?_
                have hq := bindO_inv hr
                clear hr
                obtain ⟨o_3, hr, hk⟩ := hq
                refine wo_join 5 (g20_J4 x0 x1 v2 x7 v8 m_3 o_3) ?_ ?_
                · clear hk
                  have hq := cond_inv hr
                  clear hr
                  rcases hq with ⟨rfl, hr⟩ | ⟨rfl, hr⟩
                  · refine wo_skip (v := (.b true)) rfl rfl ?_
                    refine wo_skip (v := (.b true)) rfl rfl ?_
                    refine wo_skip (v := (.b true)) rfl rfl ?_
                    refine wo_skip (v := (.b true)) rfl rfl ?_
                    refine wo_step (v := (.b true)) (s_pure (p_pickT rfl rfl)) ?_
                    refine wo_nil ?_
                    cases hr
                    exact ⟨_, _, rfl, rfl, gl rfl, gl g0, gl g1, gl g2, gl g7, gl rfl⟩
                  · have hq := bindO_inv hr
                    clear hr
                    obtain ⟨v40, e40, hr⟩ := hq
                    refine wo_take (v := v40) rfl (s_pure (o_faddr rfl e40)) ?_
                    have hq := bindO_inv hr
                    clear hr
                    obtain ⟨v41, e41, hr⟩ := hq
                    have hq := asI_inv hr
                    clear hr
                    obtain ⟨x41, rfl, hr⟩ := hq
                    refine wo_take (v := (.i .i64 x41)) rfl (s_ld rfl e41) ?_
                    refine wo_take (v := (.i .i64 x1)) rfl (s_pure (p_mv g1)) ?_
                    have hq := forceB_inv hr
                    clear hr
                    obtain ⟨c43, e43, hr⟩ := hq
                    refine wo_take (v := (.b c43)) rfl (s_pure (p_bin rfl rfl (b_geq.trans (cb e43)))) ?_
                    refine wo_step (v := (.b c43)) (s_pure (p_pickF rfl rfl)) ?_
                    refine wo_nil ?_
                    cases hr
                    exact ⟨_, _, rfl, rfl, gl rfl, gl g0, gl g1, gl g2, gl g7, gl rfl⟩
                · clear hr
                  have hr := hk
                  clear hk
                  obtain ⟨c44, ho⟩ : ∃ z, z = o_3 := ⟨_, rfl⟩
                  subst ho
                  rintro mm_3 t_5 ⟨rfl, g44, g0, g1, g2, g7, g8⟩
                  refine wo_step (v := (.b c44)) (s_pure (p_mv g44)) ?_
                  have hq := bindO_inv hr
                  clear hr
                  obtain ⟨o_4, hr, hk⟩ := hq
                  refine wo_join 4 (g20_J5 x0 x1 v2 x7 v8 m_3 o_4) ?_ ?_
                  · clear hk
                    have hq := cond_inv hr
                    clear hr
                    rcases hq with ⟨rfl, hr⟩ | ⟨rfl, hr⟩
                    · refine wo_skip (v := (.b true)) rfl rfl ?_
                      refine wo_skip (v := (.b true)) rfl rfl ?_
                      refine wo_skip (v := (.b true)) rfl rfl ?_
                      refine wo_step (v := (.b true)) (s_pure (p_pickT rfl rfl)) ?_
                      refine wo_nil ?_
                      cases hr
                      exact ⟨_, _, rfl, rfl, gl rfl, gl g0, gl g1, gl g2, gl g7, gl g8⟩
                    · have hq := bindO_inv hr
                      clear hr
                      obtain ⟨v46, e46, hr⟩ := hq
                      refine wo_take (v := v46) rfl (s_pure (o_faddr g8 e46)) ?_
                      have hq := bindO_inv hr
                      clear hr
                      obtain ⟨v47, e47, hr⟩ := hq
                      have hq := asI_inv hr
                      clear hr
                      obtain ⟨x47, rfl, hr⟩ := hq
                      refine wo_take (v := (.i .i64 x47)) rfl (s_ld rfl e47) ?_
                      have hq := forceB_inv hr
                      clear hr
                      obtain ⟨c48, e48, hr⟩ := hq
                      refine wo_take (v := (.b c48)) rfl (s_pure (p_bin rfl rfl (b_lss.trans (cb e48)))) ?_
                      refine wo_step (v := (.b c48)) (s_pure (p_pickF rfl rfl)) ?_
                      refine wo_nil ?_
                      cases hr
                      exact ⟨_, _, rfl, rfl, gl rfl, gl g0, gl g1, gl g2, gl g7, gl g8⟩
                  · clear hr
                    have hr := hk
                    clear hk
                    obtain ⟨c49, ho⟩ : ∃ z, z = o_4 := ⟨_, rfl⟩
                    subst ho
                    rintro mm_4 t_6 ⟨rfl, g49, g0, g1, g2, g7, g8⟩
                    refine wo_step (v := (.b c49)) (s_pure (p_mv g49)) ?_
                    have hq := bindO_inv hr
                    clear hr
                    obtain ⟨o_5, hr, hk⟩ := hq
                    refine wo_join 5 (g20_J6 x0 x1 v2 x7 v8 m_3 o_5) ?_ ?_
                    · clear hk
                      have hq := cond_inv hr
                      clear hr
                      rcases hq with ⟨rfl, hr⟩ | ⟨rfl, hr⟩
                      · refine wo_skip (v := (.b true)) rfl rfl ?_
                        refine wo_skip (v := (.b true)) rfl rfl ?_
                        refine wo_skip (v := (.b true)) rfl rfl ?_
                        refine wo_skip (v := (.b true)) rfl rfl ?_
                        refine wo_step (v := (.b true)) (s_pure (p_pickT rfl rfl)) ?_
                        refine wo_nil ?_
                        cases hr
                        exact ⟨_, _, rfl, rfl, gl rfl, gl g0, gl g1, gl g2, gl g7, gl g8⟩
                      · have hq := bindO_inv hr
                        clear hr
                        obtain ⟨v51, e51, hr⟩ := hq
                        refine wo_take (v := v51) rfl (s_pure (o_faddr g8 e51)) ?_
                        have hq := bindO_inv hr
                        clear hr
                        obtain ⟨v52, e52, hr⟩ := hq
                        have hq := asI_inv hr
                        clear hr
                        obtain ⟨x52, rfl, hr⟩ := hq
                        refine wo_take (v := (.i .i64 x52)) rfl (s_ld rfl e52) ?_
                        refine wo_take (v := (.i .i64 x1)) rfl (s_pure (p_mv g1)) ?_
                        have hq := forceB_inv hr
                        clear hr
                        obtain ⟨c54, e54, hr⟩ := hq
                        refine wo_take (v := (.b c54)) rfl (s_pure (p_bin rfl rfl (b_geq.trans (cb e54)))) ?_
                        refine wo_step (v := (.b c54)) (s_pure (p_pickF rfl rfl)) ?_
                        refine wo_nil ?_
                        cases hr
                        exact ⟨_, _, rfl, rfl, gl rfl, gl g0, gl g1, gl g2, gl g7, gl g8⟩
                    · clear hr
                      have hr := hk
                      clear hk
                      obtain ⟨c55, ho⟩ : ∃ z, z = o_5 := ⟨_, rfl⟩
                      subst ho
                      rintro mm_5 t_7 ⟨rfl, g55, g0, g1, g2, g7, g8⟩
                      refine wo_step (v := (.b c55)) (s_pure (p_mv g55)) ?_
                      have hq := bindO_inv hr
                      clear hr
                      obtain ⟨o_6, hr, hk⟩ := hq
                      refine wo_join 6 (g20_J7 x0 x1 v2 x7 v8 m_3 o_6) ?_ ?_
                      · clear hk
                        have hq := cond_inv hr
                        clear hr
                        rcases hq with ⟨rfl, hr⟩ | ⟨rfl, hr⟩
                        · refine wo_skip (v := (.b true)) rfl rfl ?_
                          refine wo_skip (v := (.b true)) rfl rfl ?_
                          refine wo_skip (v := (.b true)) rfl rfl ?_
                          refine wo_skip (v := (.b true)) rfl rfl ?_
                          refine wo_skip (v := (.b true)) rfl rfl ?_
                          refine wo_step (v := (.b true)) (s_pure (p_pickT rfl rfl)) ?_
                          refine wo_nil ?_
                          cases hr
                          exact ⟨_, _, rfl, rfl, gl rfl, gl g0, gl g1, gl g2, gl g7, gl g8⟩
                        · have hq := bindO_inv hr
                          clear hr
                          obtain ⟨v57, e57, hr⟩ := hq
                          refine wo_take (v := v57) rfl (s_pure (o_faddr g8 e57)) ?_
                          have hq := bindO_inv hr
                          clear hr
                          obtain ⟨v58, e58, hr⟩ := hq
                          have hq := asI_inv hr
                          clear hr
                          obtain ⟨x58, rfl, hr⟩ := hq
                          refine wo_take (v := (.i .i64 x58)) rfl (s_ld rfl e58) ?_
                          have hq := bindO_inv hr
                          clear hr
                          obtain ⟨v59, e59, hr⟩ := hq
                          refine wo_take (v := v59) rfl (s_pure (o_faddr g8 e59)) ?_
                          have hq := bindO_inv hr
                          clear hr
                          obtain ⟨v60, e60, hr⟩ := hq
                          have hq := asI_inv hr
                          clear hr
                          obtain ⟨x60, rfl, hr⟩ := hq
                          refine wo_take (v := (.i .i64 x60)) rfl (s_ld rfl e60) ?_
                          have hq := forceB_inv hr
                          clear hr
                          obtain ⟨c61, e61, hr⟩ := hq
                          refine wo_take (v := (.b c61)) rfl (s_pure (p_bin rfl rfl (b_eql.trans (cb e61)))) ?_
                          refine wo_step (v := (.b c61)) (s_pure (p_pickF rfl rfl)) ?_
                          refine wo_nil ?_
                          cases hr
                          exact ⟨_, _, rfl, rfl, gl rfl, gl g0, gl g1, gl g2, gl g7, gl g8⟩
                      · clear hr
                        have hr := hk
                        clear hk
                        obtain ⟨c62, ho⟩ : ∃ z, z = o_6 := ⟨_, rfl⟩
                        subst ho
                        rintro mm_6 t_8 ⟨rfl, g62, g0, g1, g2, g7, g8⟩
                        refine wo_step (v := (.b c62)) (s_pure (p_mv g62)) ?_
                        have hq := bindO_inv hr
                        clear hr
                        obtain ⟨o_7, hr, hk⟩ := hq
                        refine wo_join 4 (g20_J8 x0 x1 v2 x7 v8 m_3 o_7) ?_ ?_
                        · clear hk
                          have hq := cond_inv hr
                          clear hr
                          rcases hq with ⟨rfl, hr⟩ | ⟨rfl, hr⟩
                          · refine wo_skip (v := (.b true)) rfl rfl ?_
                            refine wo_skip (v := (.b true)) rfl rfl ?_
                            refine wo_skip (v := (.b true)) rfl rfl ?_
                            refine wo_step (v := (.b true)) (s_pure (p_pickT rfl rfl)) ?_
                            refine wo_nil ?_
                            cases hr
                            exact ⟨_, _, rfl, rfl, gl rfl, gl g0, gl g1, gl g2, gl g7, gl g8⟩
                          · have hq := bindO_inv hr
                            clear hr
                            obtain ⟨v64, e64, hr⟩ := hq
                            refine wo_take (v := v64) rfl (s_pure (o_faddr g8 e64)) ?_
                            have hq := bindO_inv hr
                            clear hr
                            obtain ⟨v65, e65, hr⟩ := hq
                            have hq := asI_inv hr
                            clear hr
                            obtain ⟨x65, rfl, hr⟩ := hq
                            refine wo_take (v := (.i .i64 x65)) rfl (s_ld rfl e65) ?_
                            have hq := forceB_inv hr
                            clear hr
                            obtain ⟨c66, e66, hr⟩ := hq
                            refine wo_take (v := (.b c66)) rfl (s_pure (p_bin rfl rfl (b_lss.trans (cb e66)))) ?_
                            refine wo_step (v := (.b c66)) (s_pure (p_pickF rfl rfl)) ?_
                            refine wo_nil ?_
                            cases hr
                            exact ⟨_, _, rfl, rfl, gl rfl, gl g0, gl g1, gl g2, gl g7, gl g8⟩
                        · clear hr
                          have hr := hk
                          clear hk
                          obtain ⟨c67, ho⟩ : ∃ z, z = o_7 := ⟨_, rfl⟩
                          subst ho
                          rintro mm_7 t_9 ⟨rfl, g67, g0, g1, g2, g7, g8⟩
                          refine wo_step (v := (.b c67)) (s_pure (p_mv g67)) ?_
                          have hq := bindO_inv hr
                          clear hr
                          obtain ⟨o_8, hr, hk⟩ := hq
                          refine wo_join 4 (g20_J9 x0 x1 v2 x7 v8 m_3 o_8) ?_ ?_
                          · clear hk
                            have hq := cond_inv hr
                            clear hr
                            rcases hq with ⟨rfl, hr⟩ | ⟨rfl, hr⟩
                            · refine wo_skip (v := (.b true)) rfl rfl ?_
                              refine wo_skip (v := (.b true)) rfl rfl ?_
                              refine wo_skip (v := (.b true)) rfl rfl ?_
                              refine wo_step (v := (.b true)) (s_pure (p_pickT rfl rfl)) ?_
                              refine wo_nil ?_
                              cases hr
                              exact ⟨_, _, rfl, rfl, gl rfl, gl g0, gl g1, gl g2, gl g7, gl g8⟩
                            · have hq := bindO_inv hr
                              clear hr
                              obtain ⟨v69, e69, hr⟩ := hq
                              refine wo_take (v := v69) rfl (s_pure (o_faddr g8 e69)) ?_
                              have hq := bindO_inv hr
                              clear hr
                              obtain ⟨v70, e70, hr⟩ := hq
                              have hq := asI_inv hr
                              clear hr
                              obtain ⟨x70, rfl, hr⟩ := hq
                              refine wo_take (v := (.i .i64 x70)) rfl (s_ld rfl e70) ?_
                              have hq := forceB_inv hr
                              clear hr
                              obtain ⟨c71, e71, hr⟩ := hq
                              refine wo_take (v := (.b c71)) rfl (s_pure (p_bin rfl rfl (b_gtr.trans (cb e71)))) ?_
                              refine wo_step (v := (.b c71)) (s_pure (p_pickF rfl rfl)) ?_
                              refine wo_nil ?_
                              cases hr
                              exact ⟨_, _, rfl, rfl, gl rfl, gl g0, gl g1, gl g2, gl g7, gl g8⟩
                          · clear hr
                            have hr := hk
                            clear hk
                            obtain ⟨c72, ho⟩ : ∃ z, z = o_8 := ⟨_, rfl⟩
                            subst ho
                            rintro mm_8 t_10 ⟨rfl, g72, g0, g1, g2, g7, g8⟩
                            refine wo_step (v := (.b c72)) (s_pure (p_mv g72)) ?_
                            have hq := bindO_inv hr
                            clear hr
                            obtain ⟨o_9, hr, hk⟩ := hq
                            refine wo_join 6 (g20_J10 x0 x1 v2 x7 v8 m_3 o_9) ?_ ?_
                            · clear hk
                              have hq := cond_inv hr
                              clear hr
                              rcases hq with ⟨rfl, hr⟩ | ⟨rfl, hr⟩
                              · refine wo_skip (v := (.b true)) rfl rfl ?_
                                refine wo_skip (v := (.b true)) rfl rfl ?_
                                refine wo_skip (v := (.b true)) rfl rfl ?_
                                refine wo_skip (v := (.b true)) rfl rfl ?_
                                refine wo_skip (v := (.b true)) rfl rfl ?_
                                refine wo_step (v := (.b true)) (s_pure (p_pickT rfl rfl)) ?_
                                refine wo_nil ?_
                                cases hr
                                exact ⟨_, _, rfl, rfl, gl rfl, gl g0, gl g1, gl g2, gl g7, gl g8⟩
                              · have hq := bindO_inv hr
                                clear hr
                                obtain ⟨v74, e74, hr⟩ := hq
                                refine wo_take (v := v74) rfl (s_pure (o_faddr g8 e74)) ?_
                                have hq := bindO_inv hr
                                clear hr
                                obtain ⟨v75, e75, hr⟩ := hq
                                have hq := asI_inv hr
                                clear hr
                                obtain ⟨x75, rfl, hr⟩ := hq
                                refine wo_take (v := (.i .i64 x75)) rfl (s_ld rfl e75) ?_
                                have hq := bindO_inv hr
                                clear hr
                                obtain ⟨v76, e76, hr⟩ := hq
                                refine wo_take (v := v76) rfl (s_pure (o_faddr g8 e76)) ?_
                                have hq := bindO_inv hr
                                clear hr
                                obtain ⟨v77, e77, hr⟩ := hq
                                have hq := asI_inv hr
                                clear hr
                                obtain ⟨x77, rfl, hr⟩ := hq
                                refine wo_take (v := (.i .i64 x77)) rfl (s_ld rfl e77) ?_
                                have hq := forceB_inv hr
                                clear hr
                                obtain ⟨c78, e78, hr⟩ := hq
                                refine wo_take (v := (.b c78)) rfl (s_pure (p_bin rfl rfl (b_lss.trans (cb e78)))) ?_
                                refine wo_step (v := (.b c78)) (s_pure (p_pickF rfl rfl)) ?_
                                refine wo_nil ?_
                                cases hr
                                exact ⟨_, _, rfl, rfl, gl rfl, gl g0, gl g1, gl g2, gl g7, gl g8⟩
                            · clear hr
                              have hr := hk
                              clear hk
                              obtain ⟨c79, ho⟩ : ∃ z, z = o_9 := ⟨_, rfl⟩
                              subst ho
                              rintro mm_9 t_11 ⟨rfl, g79, g0, g1, g2, g7, g8⟩
                              refine wo_step (v := (.b c79)) (s_pure (p_mv g79)) ?_
                              have hq := bindO_inv hr
                              clear hr
                              obtain ⟨o_10, hr, hk⟩ := hq
                              refine wo_join 9 (g20_J11 x0 x1 v2 x7 m_3 o_10) ?_ ?_
                              · clear hk
                                have hq := cond_inv hr
                                clear hr
                                rcases hq with ⟨rfl, hr⟩ | ⟨rfl, hr⟩
                                · refine wo_skip (v := (.b true)) rfl rfl ?_
                                  refine wo_skip (v := (.b true)) rfl rfl ?_
                                  refine wo_skip (v := (.b true)) rfl rfl ?_
                                  refine wo_skip (v := (.b true)) rfl rfl ?_
                                  refine wo_skip (v := (.b true)) rfl rfl ?_
                                  refine wo_skip (v := (.b true)) rfl rfl ?_
                                  refine wo_skip (v := (.b true)) rfl rfl ?_
                                  refine wo_skip (v := (.b true)) rfl rfl ?_
                                  refine wo_step (v := (.b true)) (s_pure (p_pickT rfl rfl)) ?_
                                  refine wo_nil ?_
                                  cases hr
                                  exact ⟨_, _, rfl, rfl, gl rfl, gl g0, gl g1, gl g2, gl g7⟩
                                · have hq := bindO_inv hr
                                  clear hr
                                  obtain ⟨v81, e81, hr⟩ := hq
                                  refine wo_take (v := v81) rfl (s_pure (o_faddr g8 e81)) ?_
                                  have hq := bindO_inv hr
                                  clear hr
                                  obtain ⟨v82, e82, hr⟩ := hq
                                  have hq := asI_inv hr
                                  clear hr
                                  obtain ⟨x82, rfl, hr⟩ := hq
                                  refine wo_take (v := (.i .i64 x82)) rfl (s_ld rfl e82) ?_
                                  have hq := bindO_inv hr
                                  clear hr
                                  obtain ⟨v83, e83, hr⟩ := hq
                                  refine wo_take (v := v83) rfl (s_pure (o_faddr g8 e83)) ?_
                                  have hq := bindO_inv hr
                                  clear hr
                                  obtain ⟨v84, e84, hr⟩ := hq
                                  have hq := asI_inv hr
                                  clear hr
                                  obtain ⟨x84, rfl, hr⟩ := hq
                                  refine wo_take (v := (.i .i64 x84)) rfl (s_ld rfl e84) ?_
                                  refine wo_take (v := (.i .i64 x0)) rfl (s_pure (p_mv g0)) ?_
                                  have hq := forceI_inv hr
                                  clear hr
                                  obtain ⟨x86, e86, hr⟩ := hq
                                  refine wo_take (v := (.i .i64 x86)) rfl (s_pure (p_bin rfl rfl (b_add.trans (ci e86)))) ?_
                                  have hq := forceI_inv hr
                                  clear hr
                                  obtain ⟨x87, e87, hr⟩ := hq
                                  refine wo_take (v := (.i .i64 x87)) rfl (s_pure (p_bin rfl rfl (b_sub.trans (ci e87)))) ?_
                                  have hq := forceB_inv hr
                                  clear hr
                                  obtain ⟨c88, e88, hr⟩ := hq
                                  refine wo_take (v := (.b c88)) rfl (s_pure (p_bin rfl rfl (b_gtr.trans (cb e88)))) ?_
                                  refine wo_step (v := (.b c88)) (s_pure (p_pickF rfl rfl)) ?_
                                  refine wo_nil ?_
                                  cases hr
                                  exact ⟨_, _, rfl, rfl, gl rfl, gl g0, gl g1, gl g2, gl g7⟩
                              · clear hr
                                have hr := hk
                                clear hk
                                obtain ⟨c89, ho⟩ : ∃ z, z = o_10 := ⟨_, rfl⟩
                                subst ho
                                rintro mm_10 t_12 ⟨rfl, g89, g0, g1, g2, g7⟩
                                refine wo_nil ?_
                                refine nx_norm ?_
                                have hq := cond_inv hr
                                clear hr
                                rcases hq with ⟨rfl, hr⟩ | ⟨rfl, hr⟩
                                · refine w_condT g89 ?_
                                  refine w_seq ?_
                                  refine w_ops ?_
                                  refine wo_step (v := (.i .i64 2)) (s_pure (p_mv rfl)) ?_
                                  refine wo_nil ?_
                                  refine nx_norm ?_
                                  refine w_ret ?_
                                  refine bk_ret ?_
                                  refine nx_ret ?_
                                  cases hr
                                  exact ⟨_, _, rfl, ne_norm_ret, rfl, rfl, gl rfl⟩
                                · refine w_condF g89 ?_
                                  refine w_skip ?_
                                  refine bk_norm ?_
                                  refine nx_norm ?_
                                  refine w_ops ?_
                                  refine wo_step (v := (.i .i64 x7)) (s_pure (p_mv g7)) ?_
                                  have hq := forceI_inv hr
                                  clear hr
                                  obtain ⟨x31, e31, hr⟩ := hq
                                  refine wo_step (v := (.i .i64 x31)) (s_pure (p_bin rfl rfl (b_add.trans (ci e31)))) ?_
                                  refine wo_step (v := (.i .i64 x31)) (s_pure (p_mv rfl)) ?_
                                  refine wo_nil ?_
                                  cases hr
                                  exact ⟨_, _, rfl, rfl, rfl, gl rfl, gl g0, gl g1, gl g2⟩
              · refine w_condF rfl ?_
                refine w_exit ?_
                refine nx_exit ?_
                cases hr
                exact ⟨_, _, rfl, ne_norm_exit, rfl, rfl⟩
            · rcases o_11 with o_11 | o_11
              · obtain ⟨m_4, ho⟩ : ∃ z, z = o_11 := ⟨_, rfl⟩
                subst ho
                rintro _ mm_11 t_13 ⟨rfl, rfl⟩
                refine bk_hit ?_
                refine nx_norm ?_
                refine w_seq ?_
                refine w_ops ?_
                refine wo_step (v := (.i .i64 0)) (s_pure (p_mv rfl)) ?_
                refine wo_nil ?_
                refine nx_norm ?_
                refine w_ret ?_
                exact qf ret_ok (rt rfl rn) hr
              · obtain ⟨x6, m_5⟩ := o_11
                rintro _ mm_12 t_14 ⟨rfl, rfl, g6⟩
                refine bk_ret ?_
                refine nx_ret ?_
                exact qf ret_ok (rt g6 rn) hr

/- dibber/turn.Is -/

def g26 (M : Means) (ro : List ABlk) (x0 : Int) (x1 : Int) (v2 : AVal) (v3 : AVal) (m0 : Mm) : Option (AVal × Heap × Nat × Nat) :=
  bindP (callM M.call m0 43 [(.i .i64 x0), (.i .i64 x1), v2]) fun v16 m_1 =>
  bindO (evP .e (.ext 0 (.c v16))) fun v17 =>
  bindO (evP .e (.ext 1 (.c v16))) fun v18 =>
  asI .i64 v18 fun x18 =>
  bindP (stepM ro m_1 (.al 55 [(AVal.i IntKind.i64 0), (AVal.i IntKind.i64 0), AVal.nsl])) fun v10 m_2 =>
  bindP (stepM ro m_2 (.st 3 (.c v10) (.c v17))) fun vn m_3 =>
  forceB (!eqI x18 0) fun c20 =>
  cond c20 (
    finM m0.h.length (tupA [(.b false), (.i .i64 x18)]) m_3) (
    bindO (ldM ro m_3 false 3 v10) fun v22 =>
    bindP (callM M.call m_3 50 [v22, v3]) fun v24 m_4 =>
    asB v24 fun c24 =>
    finM m0.h.length (tupA [(.b c24), (.i .i64 0)]) m_4)

theorem g26_ok {ro : List ABlk} {O : Caller} {M : Means} (hM : M.Ok ⟨F, O⟩ ro) {x0 x1 v2 v3 h r} (ho : O 26 [(.i .i64 x0), (.i .i64 x1), v2, v3] h = none) (hr : g26 M ro x0 x1 v2 v3 ⟨h, h.length, h.length⟩ = some r) : callX ⟨F, O⟩ ro 26 [(.i .i64 x0), (.i .i64 x1), v2, v3] h = some r := by
  refine callX_of (F := ⟨F, O⟩) (fn := fn26) (g := g26 M ro x0 x1 v2 v3) ho rfl rfl hr ?_
  clear ho
  clear hr
  intro m0 t0 ht hr
  have g0 : t0.get 0 = (.i .i64 x0) := ht 0
  have g1 : t0.get 1 = (.i .i64 x1) := ht 1
  have g2 : t0.get 2 = v2 := ht 2
  have g3 : t0.get 3 = v3 := ht 3
  clear ht
  unfold g26 at hr
  refine w_seq ?_
  refine w_ops ?_
  refine wo_step (v := (.b false)) (s_pure (p_mv rfl)) ?_
  refine wo_step (v := (.i .i64 0)) (s_pure (p_mv rfl)) ?_
  refine wo_nil ?_
  refine nx_norm ?_
  refine w_seq ?_
  refine w_ops ?_
  refine wo_step (v := (.i .i64 x0)) (s_pure (p_mv g0)) ?_
  refine wo_step (v := (.i .i64 x1)) (s_pure (p_mv g1)) ?_
  refine wo_step (v := v2) (s_pure (p_mv g2)) ?_
  have hq := bindP_inv hr
  clear hr
  obtain ⟨v16, m_1, e16, hr⟩ := hq
  refine wo_step (v := v16) (s_call (mc rfl (mc rfl (mc rfl mn))) (callM_le hM.call e16)) ?_
  refine wo_step (v := v16) (s_pure (p_mv rfl)) ?_
  have hq := bindO_inv hr
  clear hr
  obtain ⟨v17, e17, hr⟩ := hq
  refine wo_step (v := v17) (s_pure (o_ext rfl e17)) ?_
  have hq := bindO_inv hr
  clear hr
  obtain ⟨v18, e18, hr⟩ := hq
  have hq := asI_inv hr
  clear hr
  obtain ⟨x18, rfl, hr⟩ := hq
  refine wo_step (v := (.i .i64 x18)) (s_pure (o_ext rfl e18)) ?_
  have hq := bindP_inv hr
  clear hr
  obtain ⟨v10, m_2, e10, hr⟩ := hq
  refine wo_step (v := v10) (s_al e10) ?_
  have hq := bindP_inv hr
  clear hr
  obtain ⟨vn, m_3, en, hr⟩ := hq
  refine wo_stepN (s_st rfl rfl en) ?_
  refine wo_step (v := (.i .i64 x18)) (s_pure (p_mv rfl)) ?_
  refine wo_nil ?_
  refine nx_norm ?_
  refine w_seq ?_
  refine w_seq ?_
  refine w_ops ?_
  refine wo_step (v := (.i .i64 x18)) (s_pure (p_mv rfl)) ?_
  have hq := forceB_inv hr
  clear hr
  obtain ⟨c20, e20, hr⟩ := hq
  refine wo_step (v := (.b c20)) (s_pure (p_bin rfl rfl (b_neq.trans (cb e20)))) ?_
  refine wo_nil ?_
  refine nx_norm ?_
  have hq := cond_inv hr
  clear hr
  rcases hq with ⟨rfl, hr⟩ | ⟨rfl, hr⟩
  · refine w_condT rfl ?_
    refine w_seq ?_
    refine w_ops ?_
    refine wo_step (v := (.i .i64 x18)) (s_pure (p_mv rfl)) ?_
    refine wo_step (v := (.b false)) (s_pure (p_mv rfl)) ?_
    refine wo_step (v := (.i .i64 x18)) (s_pure (p_mv rfl)) ?_
    refine wo_nil ?_
    refine nx_norm ?_
    refine w_ret ?_
    refine nx_ret ?_
    exact qf ret_ok (rt rfl (rt rfl rn)) hr
  · refine w_condF rfl ?_
    refine w_skip ?_
    refine nx_norm ?_
    refine w_seq ?_
    refine w_ops ?_
    have hq := bindO_inv hr
    clear hr
    obtain ⟨v22, e22, hr⟩ := hq
    refine wo_step (v := v22) (s_ld rfl e22) ?_
    refine wo_step (v := v3) (s_pure (p_mv g3)) ?_
    have hq := bindP_inv hr
    clear hr
    obtain ⟨v24, m_4, e24, hr⟩ := hq
    have hq := asB_inv hr
    clear hr
    obtain ⟨c24, rfl, hr⟩ := hq
    refine wo_step (v := (.b c24)) (s_call (mc rfl (mc rfl mn)) (callM_le hM.call e24)) ?_
    refine wo_step (v := (.b c24)) (s_pure (p_mv rfl)) ?_
    refine wo_step (v := (.i .i64 0)) (s_pure (p_mv rfl)) ?_
    refine wo_nil ?_
    refine nx_norm ?_
    refine w_ret ?_
    exact qf ret_ok (rt rfl (rt rfl rn)) hr

/- dibber/turn.Slack -/
abbrev g28_I0 (v3 : AVal) (v10 : AVal) (v31 : AVal) (v2 : AVal) (x33 : Int) (s : Int × Mm) (m1 : Mm) (t1 : Tr) : Prop :=
  match s with
  | (x34, m_6) => m_6 = m1 ∧ t1.get 34 = (.i .i64 x34) ∧ t1.get 3 = v3 ∧ t1.get 10 = v10 ∧ t1.get 12 = v31 ∧ t1.get 32 = v2 ∧ t1.get 33 = (.i .i64 x33)
abbrev g28_J0 (v3 : AVal) (v10 : AVal) (v31 : AVal) (v2 : AVal) (x33 : Int) (o : Mm) (e : AExit) (m1 : Mm) (t1 : Tr) : Prop :=
  match o with
  | mo => e = (.exit 0) ∧ mo = m1 ∧ t1.get 12 = v31
def g28_b0 (M : Means) (ro : List ABlk) (v3 : AVal) (v10 : AVal) (v31 : AVal) (v2 : AVal) (x33 : Int) (x34 : Int) (m_6 : Mm) : Option ((Int × Mm) ⊕ (Mm)) :=
  forceB (ltI x34 x33) fun c35 =>
  cond c35 (
    bindO (evP .e (.ixS 4 (.c v2) (.c (.i .i64 x34)))) fun v37 =>
    bindO (ldM ro m_6 false 4 v37) fun v38 =>
    bindP (stepM ro m_6 (.al 31 [(AVal.i IntKind.i64 0), (AVal.i IntKind.i64 0), (AVal.i IntKind.i64 0), (AVal.i IntKind.i64 0)])) fun v14 m_7 =>
    bindP (stepM ro m_7 (.st 4 (.c v14) (.c v38))) fun vn_1 m_8 =>
    bindO (ldM ro m_8 false 3 v10) fun v41 =>
    bindO (ldM ro m_8 false 4 v14) fun v42 =>
    bindP (callM M.call m_8 48 [v41, v42, v3]) fun v44 m_9 =>
    asI .i64 v44 fun x44 =>
    bindO (evP .e (.ixS 1 (.c v31) (.c (.i .i64 x34)))) fun v45 =>
    bindP (stepM ro m_9 (.st 1 (.c v45) (.c (.i .i64 x44)))) fun vn_2 m_10 =>
    forceI (wr .i64 (x34 + 1)) fun x46 =>
    some (.inl (x46, m_10))) (
    some (.inr m_6))
def g28 (M : Means) (ro : List ABlk) (x0 : Int) (x1 : Int) (v2 : AVal) (v3 : AVal) (m0 : Mm) : Option (AVal × Heap × Nat × Nat) :=
  bindP (callM M.call m0 43 [(.i .i64 x0), (.i .i64 x1), v2]) fun v19 m_1 =>
  bindO (evP .e (.ext 0 (.c v19))) fun v20 =>
  bindO (evP .e (.ext 1 (.c v19))) fun v21 =>
  asI .i64 v21 fun x21 =>
  bindP (stepM ro m_1 (.al 55 [(AVal.i IntKind.i64 0), (AVal.i IntKind.i64 0), AVal.nsl])) fun v10 m_2 =>
  bindP (stepM ro m_2 (.st 3 (.c v10) (.c v20))) fun vn m_3 =>
  forceB (!eqI x21 0) fun c23 =>
  cond c23 (
    finM m0.h.length (tupA [AVal.nsl, (.i .i64 x21)]) m_3) (
    bindO (ldM ro m_3 false 3 v10) fun v25 =>
    bindP (callM M.call m_3 52 [v25, v3]) fun v27 m_4 =>
    asB v27 fun c27 =>
    forceB (!c27) fun c28 =>
    cond c28 (
      finM m0.h.length (tupA [AVal.nsl, (.i .i64 2)]) m_4) (
      bindO (evP .e (.len false (.c v2))) fun v30 =>
      asI .i64 v30 fun x30 =>
      bindP (stepM ro m_4 (.mk 3 1 8 [(AVal.i IntKind.i64 0)] (.c (.i .i64 x30)) (.c (.i .i64 x30)))) fun v31 m_5 =>
      bindO (evP .e (.len false (.c v2))) fun v33 =>
      asI .i64 v33 fun x33 =>
      bindO (M.loop (S := Int × Mm) (R := Mm) (fun s => g28_b0 M ro v3 v10 v31 v2 x33 s.1 s.2) (0, m_5)) fun m_11 =>
      finM m0.h.length (tupA [v31, (.i .i64 0)]) m_11))

theorem g28_ok {ro : List ABlk} {O : Caller} {M : Means} (hM : M.Ok ⟨F, O⟩ ro) {x0 x1 v2 v3 h r} (ho : O 28 [(.i .i64 x0), (.i .i64 x1), v2, v3] h = none) (hr : g28 M ro x0 x1 v2 v3 ⟨h, h.length, h.length⟩ = some r) : callX ⟨F, O⟩ ro 28 [(.i .i64 x0), (.i .i64 x1), v2, v3] h = some r := by
  refine callX_of (F := ⟨F, O⟩) (fn := fn28) (g := g28 M ro x0 x1 v2 v3) ho rfl rfl hr ?_
  clear ho
  clear hr
  intro m0 t0 ht hr
  have g0 : t0.get 0 = (.i .i64 x0) := ht 0
  have g1 : t0.get 1 = (.i .i64 x1) := ht 1
  have g2 : t0.get 2 = v2 := ht 2
  have g3 : t0.get 3 = v3 := ht 3
  clear ht
  unfold g28 at hr
  refine w_seq ?_
  refine w_ops ?_
  refine wo_step (v := AVal.nsl) (s_pure (p_mv rfl)) ?_
  refine wo_step (v := (.i .i64 0)) (s_pure (p_mv rfl)) ?_
  refine wo_nil ?_
  refine nx_norm ?_
  refine w_seq ?_
  refine w_ops ?_
  refine wo_step (v := (.i .i64 x0)) (s_pure (p_mv g0)) ?_
  refine wo_step (v := (.i .i64 x1)) (s_pure (p_mv g1)) ?_
  refine wo_step (v := v2) (s_pure (p_mv g2)) ?_
  have hq := bindP_inv hr
  clear hr
  obtain ⟨v19, m_1, e19, hr⟩ := hq
  refine wo_step (v := v19) (s_call (mc rfl (mc rfl (mc rfl mn))) (callM_le hM.call e19)) ?_
  refine wo_step (v := v19) (s_pure (p_mv rfl)) ?_
  have hq := bindO_inv hr
  clear hr
  obtain ⟨v20, e20, hr⟩ := hq
  refine wo_step (v := v20) (s_pure (o_ext rfl e20)) ?_
  have hq := bindO_inv hr
  clear hr
  obtain ⟨v21, e21, hr⟩ := hq
  have hq := asI_inv hr
  clear hr
  obtain ⟨x21, rfl, hr⟩ := hq
  refine wo_step (v := (.i .i64 x21)) (s_pure (o_ext rfl e21)) ?_
  have hq := bindP_inv hr
  clear hr
  obtain ⟨v10, m_2, e10, hr⟩ := hq
  refine wo_step (v := v10) (s_al e10) ?_
  have hq := bindP_inv hr
  clear hr
  obtain ⟨vn, m_3, en, hr⟩ := hq
  refine wo_stepN (s_st rfl rfl en) ?_
  refine wo_step (v := (.i .i64 x21)) (s_pure (p_mv rfl)) ?_
  refine wo_nil ?_
  refine nx_norm ?_
  refine w_seq ?_
  refine w_seq ?_
  refine w_ops ?_
  refine wo_step (v := (.i .i64 x21)) (s_pure (p_mv rfl)) ?_
  have hq := forceB_inv hr
  clear hr
  obtain ⟨c23, e23, hr⟩ := hq
  refine wo_step (v := (.b c23)) (s_pure (p_bin rfl rfl (b_neq.trans (cb e23)))) ?_
  refine wo_nil ?_
  refine nx_norm ?_
  have hq := cond_inv hr
  clear hr
  rcases hq with ⟨rfl, hr⟩ | ⟨rfl, hr⟩
  · refine w_condT rfl ?_
    refine w_seq ?_
    refine w_ops ?_
    refine wo_step (v := (.i .i64 x21)) (s_pure (p_mv rfl)) ?_
    refine wo_step (v := AVal.nsl) (s_pure (p_mv rfl)) ?_
    refine wo_step (v := (.i .i64 x21)) (s_pure (p_mv rfl)) ?_
    refine wo_nil ?_
    refine nx_norm ?_
    refine w_ret ?_
    refine nx_ret ?_
    exact qf ret_ok (rt rfl (rt rfl rn)) hr
  · refine w_condF rfl ?_
    refine w_skip ?_
    refine nx_norm ?_
    refine w_seq ?_
    refine w_seq ?_
    refine w_ops ?_
    have hq := bindO_inv hr
    clear hr
    obtain ⟨v25, e25, hr⟩ := hq
    refine wo_step (v := v25) (s_ld rfl e25) ?_
    refine wo_step (v := v3) (s_pure (p_mv g3)) ?_
    have hq := bindP_inv hr
    clear hr
    obtain ⟨v27, m_4, e27, hr⟩ := hq
    have hq := asB_inv hr
    clear hr
    obtain ⟨c27, rfl, hr⟩ := hq
    refine wo_step (v := (.b c27)) (s_call (mc rfl (mc rfl mn)) (callM_le hM.call e27)) ?_
    have hq := forceB_inv hr
    clear hr
    obtain ⟨c28, e28, hr⟩ := hq
    refine wo_step (v := (.b c28)) (s_pure ((p_not rfl).trans (cb e28))) ?_
    refine wo_nil ?_
    refine nx_norm ?_
    have hq := cond_inv hr
    clear hr
    rcases hq with ⟨rfl, hr⟩ | ⟨rfl, hr⟩
    · refine w_condT rfl ?_
      refine w_seq ?_
      refine w_ops ?_
      refine wo_step (v := AVal.nsl) (s_pure (p_mv rfl)) ?_
      refine wo_step (v := (.i .i64 2)) (s_pure (p_mv rfl)) ?_
      refine wo_nil ?_
      refine nx_norm ?_
      refine w_ret ?_
      refine nx_ret ?_
      exact qf ret_ok (rt rfl (rt rfl rn)) hr
    · refine w_condF rfl ?_
      refine w_skip ?_
      refine nx_norm ?_
      refine w_seq ?_
      refine w_ops ?_
      refine wo_step (v := v2) (s_pure (p_mv g2)) ?_
      have hq := bindO_inv hr
      clear hr
      obtain ⟨v30, e30, hr⟩ := hq
      have hq := asI_inv hr
      clear hr
      obtain ⟨x30, rfl, hr⟩ := hq
      refine wo_step (v := (.i .i64 x30)) (s_pure (o_len rfl e30)) ?_
      have hq := bindP_inv hr
      clear hr
      obtain ⟨v31, m_5, e31, hr⟩ := hq
      refine wo_step (v := v31) (s_mk rfl rfl e31) ?_
      refine wo_step (v := v31) (s_pure (p_mv rfl)) ?_
      refine wo_nil ?_
      refine nx_norm ?_
      refine w_seq ?_
      refine w_seq ?_
      refine w_ops ?_
      refine wo_step (v := v2) (s_pure (p_mv g2)) ?_
      have hq := bindO_inv hr
      clear hr
      obtain ⟨v33, e33, hr⟩ := hq
      have hq := asI_inv hr
      clear hr
      obtain ⟨x33, rfl, hr⟩ := hq
      refine wo_step (v := (.i .i64 x33)) (s_pure (o_len rfl e33)) ?_
      refine wo_step (v := (.i .i64 0)) (s_pure (p_mv rfl)) ?_
      refine wo_nil ?_
      refine nx_norm ?_
      refine w_block ?_
      have hq := bindO_inv hr
      clear hr
      obtain ⟨o, hl, hr⟩ := hq
      obtain ⟨n, hl⟩ := hM.loop _ _ _ hl
      refine jp_mono (w_loop _ (g28_I0 v3 v10 v31 v2 x33) (g28_J0 v3 v10 v31 v2 x33) ?_ n _ _ _ _ hl ⟨rfl, gl rfl, gl g3, gl rfl, gl rfl, gl rfl, gl rfl⟩) ?_
      · clear hr hl
        intro s mm_1 t_1 o hi hr
        obtain ⟨x34, m_6⟩ := s
        obtain ⟨rfl, g34, g3, g10, g12, g32, g33⟩ := hi
        unfold g28_b0 at hr
        refine w_seq ?_
        refine w_ops ?_
        have hq := forceB_inv hr
        clear hr
        obtain ⟨c35, e35, hr⟩ := hq
        refine wo_step (v := (.b c35)) (s_pure (p_bin g34 g33 (b_lss.trans (cb e35)))) ?_
        refine wo_nil ?_
        refine nx_norm ?_
        refine w_seq ?_
        have hq := cond_inv hr
        clear hr
        rcases hq with ⟨rfl, hr⟩ | ⟨rfl, hr⟩
        · refine w_condT rfl ?_
          refine w_skip ?_
          refine nx_norm ?_
          refine w_seq ?_
          refine w_block ?_
          refine w_seq ?_
          refine w_ops ?_
          refine wo_step (v := (.i .i64 x34)) (s_pure (p_mv g34)) ?_
          have hq := bindO_inv hr
          clear hr
          obtain ⟨v37, e37, hr⟩ := hq
          refine wo_step (v := v37) (s_pure (o_ixS g32 g34 e37)) ?_
          have hq := bindO_inv hr
          clear hr
          obtain ⟨v38, e38, hr⟩ := hq
          refine wo_step (v := v38) (s_ld rfl e38) ?_
          have hq := bindP_inv hr
          clear hr
          obtain ⟨v14, m_7, e14, hr⟩ := hq
          refine wo_step (v := v14) (s_al e14) ?_
          refine wo_step (v := (.i .i64 x34)) (s_pure (p_mv rfl)) ?_
          have hq := bindP_inv hr
          clear hr
          obtain ⟨vn_1, m_8, en_1, hr⟩ := hq
          refine wo_stepN (s_st rfl rfl en_1) ?_
          refine wo_nil ?_
          refine nx_norm ?_
          refine w_ops ?_
          refine wo_step (v := v31) (s_pure (p_mv g12)) ?_
          refine wo_step (v := (.i .i64 x34)) (s_pure (p_mv rfl)) ?_
          have hq := bindO_inv hr
          clear hr
          obtain ⟨v41, e41, hr⟩ := hq
          refine wo_step (v := v41) (s_ld g10 e41) ?_
          have hq := bindO_inv hr
          clear hr
          obtain ⟨v42, e42, hr⟩ := hq
          refine wo_step (v := v42) (s_ld rfl e42) ?_
          refine wo_step (v := v3) (s_pure (p_mv g3)) ?_
          have hq := bindP_inv hr
          clear hr
          obtain ⟨v44, m_9, e44, hr⟩ := hq
          have hq := asI_inv hr
          clear hr
          obtain ⟨x44, rfl, hr⟩ := hq
          refine wo_step (v := (.i .i64 x44)) (s_call (mc rfl (mc rfl (mc rfl mn))) (callM_le hM.call e44)) ?_
          have hq := bindO_inv hr
          clear hr
          obtain ⟨v45, e45, hr⟩ := hq
          refine wo_step (v := v45) (s_pure (o_ixS rfl rfl e45)) ?_
          have hq := bindP_inv hr
          clear hr
          obtain ⟨vn_2, m_10, en_2, hr⟩ := hq
          refine wo_stepN (s_st rfl rfl en_2) ?_
          refine wo_nil ?_
          refine bk_norm ?_
          refine nx_norm ?_
          refine w_ops ?_
          have hq := forceI_inv hr
          clear hr
          obtain ⟨x46, e46, hr⟩ := hq
          refine wo_step (v := (.i .i64 x46)) (s_pure (p_bin g34 rfl (b_add.trans (ci e46)))) ?_
          refine wo_step (v := (.i .i64 x46)) (s_pure (p_mv rfl)) ?_
          refine wo_nil ?_
          cases hr
          exact ⟨_, _, rfl, rfl, rfl, gl rfl, gl g3, gl g10, gl g12, gl g32, gl g33⟩
        · refine w_condF rfl ?_
          refine w_exit ?_
          refine nx_exit ?_
          cases hr
          exact ⟨_, _, rfl, ne_norm_exit, rfl, rfl, gl g12⟩
      · obtain ⟨m_11, ho⟩ : ∃ z, z = o := ⟨_, rfl⟩
        subst ho
        rintro _ mm t_2 ⟨rfl, rfl, g12⟩
        refine bk_hit ?_
        refine nx_norm ?_
        refine w_seq ?_
        refine w_ops ?_
        refine wo_step (v := v31) (s_pure (p_mv g12)) ?_
        refine wo_step (v := v31) (s_pure (p_mv rfl)) ?_
        refine wo_step (v := (.i .i64 0)) (s_pure (p_mv rfl)) ?_
        refine wo_nil ?_
        refine nx_norm ?_
        refine w_ret ?_
        exact qf ret_ok (rt rfl (rt rfl rn)) hr

/- dibber/dibberref04.Hours -/
abbrev g41_I0 (x0 : Int) (x1 : Int) (v2 : AVal) (m0 : Mm) (s : Int) (m1 : Mm) (t1 : Tr) : Prop :=
  match s with
  | x7 => m0 = m1 ∧ t1.get 7 = (.i .i64 x7) ∧ t1.get 0 = (.i .i64 x0) ∧ t1.get 1 = (.i .i64 x1) ∧ t1.get 2 = v2
abbrev g41_J0 (x0 : Int) (x1 : Int) (v2 : AVal) (m0 : Mm) (o : (Unit ⊕ Bool)) (e : AExit) (m1 : Mm) (t1 : Tr) : Prop :=
  match o with
  | (.inl _) => e = (.exit 0) ∧ m0 = m1
  | (.inr y6) => e = .ret ∧ m0 = m1 ∧ t1.get 6 = (.b y6)
abbrev g41_J1 (x0 : Int) (x1 : Int) (v2 : AVal) (x7 : Int) (m0 : Mm) (o : Bool) (m1 : Mm) (t1 : Tr) : Prop :=
  match o with
  | c29 => m0 = m1 ∧ t1.get 29 = (.b c29) ∧ t1.get 0 = (.i .i64 x0) ∧ t1.get 1 = (.i .i64 x1) ∧ t1.get 2 = v2 ∧ t1.get 7 = (.i .i64 x7)
def g41_b0 (M : Means) (ro : List ABlk) (x0 : Int) (x1 : Int) (v2 : AVal) (m0 : Mm) (x7 : Int) : Option ((Int) ⊕ ((Unit ⊕ Bool))) :=
  forceB (ltI x7 x1) fun c14 =>
  cond c14 (
    bindO (evP .e (.ixS 1 (.c v2) (.c (.i .i64 x7)))) fun v19 =>
    bindO (ldM ro m0 true 1 v19) fun v20 =>
    asI .i64 v20 fun x20 =>
    forceB (ltI x20 0) fun c21 =>
    bindO (cond c21 (
      some true) (
      bindO (evP .e (.ixS 1 (.c v2) (.c (.i .i64 x7)))) fun v25 =>
      bindO (ldM ro m0 true 1 v25) fun v26 =>
      asI .i64 v26 fun x26 =>
      forceB (!ltI x26 x0) fun c28 =>
      some c28)) fun c29 =>
    cond c29 (
      some (.inr (.inr false))) (
      forceI (wr .i64 (x7 + 1)) fun x16 =>
      some (.inl x16))) (
    some (.inr (.inl ())))
def g41 (M : Means) (ro : List ABlk) (x0 : Int) (x1 : Int) (v2 : AVal) (m0 : Mm) : Option (AVal × Heap × Nat × Nat) :=
  bindO (evP .e (.len false (.c v2))) fun v9 =>
  asI .i64 v9 fun x9 =>
  forceB (!eqI x9 x1) fun c11 =>
  cond c11 (
    finM m0.h.length (tupA [(.b false)]) m0) (
    bindO (M.loop (S := Int) (R := (Unit ⊕ Bool)) (fun s => g41_b0 M ro x0 x1 v2 m0 s) 0) fun o_1 => match o_1 with
    | (.inl _) =>
      finM m0.h.length (tupA [(.b true)]) m0
    | (.inr c6) =>
      finM m0.h.length (tupA [(.b c6)]) m0)

theorem g41_ok {ro : List ABlk} {O : Caller} {M : Means} (hM : M.Ok ⟨F, O⟩ ro) {x0 x1 v2 h r} (ho : O 41 [(.i .i64 x0), (.i .i64 x1), v2] h = none) (hr : g41 M ro x0 x1 v2 ⟨h, h.length, h.length⟩ = some r) : callX ⟨F, O⟩ ro 41 [(.i .i64 x0), (.i .i64 x1), v2] h = some r := by
  refine callX_of (F := ⟨F, O⟩) (fn := fn41) (g := g41 M ro x0 x1 v2) ho rfl rfl hr ?_
  clear ho
  clear hr
  intro m0 t0 ht hr
  have g0 : t0.get 0 = (.i .i64 x0) := ht 0
  have g1 : t0.get 1 = (.i .i64 x1) := ht 1
  have g2 : t0.get 2 = v2 := ht 2
  clear ht
  unfold g41 at hr
  refine w_seq ?_
  refine w_ops ?_
  refine wo_step (v := (.b false)) (s_pure (p_mv rfl)) ?_
  refine wo_nil ?_
  refine nx_norm ?_
  refine w_seq ?_
  refine w_seq ?_
  refine w_ops ?_
  refine wo_step (v := v2) (s_pure (p_mv g2)) ?_
  have hq := bindO_inv hr
  clear hr
  obtain ⟨v9, e9, hr⟩ := hq
  have hq := asI_inv hr
  clear hr
  obtain ⟨x9, rfl, hr⟩ := hq
  refine wo_step (v := (.i .i64 x9)) (s_pure (o_len rfl e9)) ?_
  refine wo_step (v := (.i .i64 x1)) (s_pure (p_mv g1)) ?_
  have hq := forceB_inv hr
  clear hr
  obtain ⟨c11, e11, hr⟩ := hq
  refine wo_step (v := (.b c11)) (s_pure (p_bin rfl rfl (b_neq.trans (cb e11)))) ?_
  refine wo_nil ?_
  refine nx_norm ?_
  have hq := cond_inv hr
  clear hr
  rcases hq with ⟨rfl, hr⟩ | ⟨rfl, hr⟩
  · refine w_condT rfl ?_
    refine w_seq ?_
    refine w_ops ?_
    refine wo_step (v := (.b false)) (s_pure (p_mv rfl)) ?_
    refine wo_nil ?_
    refine nx_norm ?_
    refine w_ret ?_
    refine nx_ret ?_
    exact qf ret_ok (rt rfl rn) hr
  · refine w_condF rfl ?_
    refine w_skip ?_
    refine nx_norm ?_
    refine w_seq ?_
    refine w_seq ?_
    refine w_ops ?_
    refine wo_step (v := (.i .i64 0)) (s_pure (p_mv rfl)) ?_
    refine wo_nil ?_
    refine nx_norm ?_
    refine w_block ?_
    have hq := bindO_inv hr
    clear hr
    obtain ⟨o_1, hl, hr⟩ := hq
    obtain ⟨n, hl⟩ := hM.loop _ _ _ hl
    refine jp_mono (w_loop _ (g41_I0 x0 x1 v2 m0) (g41_J0 x0 x1 v2 m0) ?_ n _ _ _ _ hl ⟨rfl, gl rfl, gl g0, gl g1, gl g2⟩) ?_
    · clear hr hl
      intro s mm_3 t_1 o hi hr
      obtain ⟨x7, hs⟩ : ∃ z, z = s := ⟨_, rfl⟩
      subst hs
      obtain ⟨rfl, g7, g0, g1, g2⟩ := hi
      unfold g41_b0 at hr
      refine w_seq ?_
      refine w_seq ?_
      refine w_ops ?_
      refine wo_step (v := (.i .i64 x7)) (s_pure (p_mv g7)) ?_
      refine wo_step (v := (.i .i64 x1)) (s_pure (p_mv g1)) ?_
      have hq := forceB_inv hr
      clear hr
      obtain ⟨c14, e14, hr⟩ := hq
      refine wo_step (v := (.b c14)) (s_pure (p_bin rfl rfl (b_lss.trans (cb e14)))) ?_
      refine wo_nil ?_
      refine nx_norm ?_
      have hq := cond_inv hr
      clear hr
      rcases hq with ⟨rfl, hr⟩ | ⟨rfl, hr⟩
      · refine w_condT rfl ?_
        refine w_skip ?_
        refine nx_norm ?_
        refine w_seq ?_
        refine w_block ?_
        refine w_seq ?_
        refine w_ops ?_
        refine wo_step (v := v2) (s_pure (p_mv g2)) ?_
        refine wo_step (v := (.i .i64 x7)) (s_pure (p_mv g7)) ?_
        have hq := bindO_inv hr
        clear hr
        obtain ⟨v19, e19, hr⟩ := hq
        refine wo_step (v := v19) (s_pure (o_ixS rfl rfl e19)) ?_
        have hq := bindO_inv hr
        clear hr
        obtain ⟨v20, e20, hr⟩ := hq
        have hq := asI_inv hr
        clear hr
        obtain ⟨x20, rfl, hr⟩ := hq
        refine wo_step (v := (.i .i64 x20)) (s_ld rfl e20) ?_
        have hq := forceB_inv hr
        clear hr
        obtain ⟨c21, e21, hr⟩ := hq
        refine wo_step (v := (.b c21)) (s_pure (p_bin rfl rfl (b_lss.trans (cb e21)))) ?_
        refine wo_step (v := (.b c21)) (s_pure (p_mv rfl)) ?_
        have hq := bindO_inv hr
        clear hr
        obtain ⟨o, hr, hk⟩ := hq
        refine wo_join 7 (g41_J1 x0 x1 v2 x7 m0 o) ?_ ?_
        · clear hk
          have hq := cond_inv hr
          clear hr
          rcases hq with ⟨rfl, hr⟩ | ⟨rfl, hr⟩
          · refine wo_skip (v := (.b true)) rfl rfl ?_
            refine wo_skip (v := (.b true)) rfl rfl ?_
            refine wo_skip (v := (.b true)) rfl rfl ?_
            refine wo_skip (v := (.b true)) rfl rfl ?_
            refine wo_skip (v := (.b true)) rfl rfl ?_
            refine wo_skip (v := (.b true)) rfl rfl ?_
            refine wo_step (v := (.b true)) (s_pure (p_pickT rfl rfl)) ?_
            refine wo_nil ?_
            cases hr
            exact ⟨_, _, rfl, rfl, gl rfl, gl g0, gl g1, gl g2, gl g7⟩
          · refine wo_take (v := v2) rfl (s_pure (p_mv g2)) ?_
            refine wo_take (v := (.i .i64 x7)) rfl (s_pure (p_mv g7)) ?_
            have hq := bindO_inv hr
            clear hr
            obtain ⟨v25, e25, hr⟩ := hq
            refine wo_take (v := v25) rfl (s_pure (o_ixS rfl rfl e25)) ?_
            have hq := bindO_inv hr
            clear hr
            obtain ⟨v26, e26, hr⟩ := hq
            have hq := asI_inv hr
            clear hr
            obtain ⟨x26, rfl, hr⟩ := hq
            refine wo_take (v := (.i .i64 x26)) rfl (s_ld rfl e26) ?_
            refine wo_take (v := (.i .i64 x0)) rfl (s_pure (p_mv g0)) ?_
            have hq := forceB_inv hr
            clear hr
            obtain ⟨c28, e28, hr⟩ := hq
            refine wo_take (v := (.b c28)) rfl (s_pure (p_bin rfl rfl (b_geq.trans (cb e28)))) ?_
            refine wo_step (v := (.b c28)) (s_pure (p_pickF rfl rfl)) ?_
            refine wo_nil ?_
            cases hr
            exact ⟨_, _, rfl, rfl, gl rfl, gl g0, gl g1, gl g2, gl g7⟩
        · clear hr
          have hr := hk
          clear hk
          obtain ⟨c29, ho⟩ : ∃ z, z = o := ⟨_, rfl⟩
          subst ho
          rintro mm t_2 ⟨rfl, g29, g0, g1, g2, g7⟩
          refine wo_nil ?_
          refine nx_norm ?_
          have hq := cond_inv hr
          clear hr
          rcases hq with ⟨rfl, hr⟩ | ⟨rfl, hr⟩
          · refine w_condT g29 ?_
            refine w_seq ?_
            refine w_ops ?_
            refine wo_step (v := (.b false)) (s_pure (p_mv rfl)) ?_
            refine wo_nil ?_
            refine nx_norm ?_
            refine w_ret ?_
            refine bk_ret ?_
            refine nx_ret ?_
            cases hr
            exact ⟨_, _, rfl, ne_norm_ret, rfl, rfl, gl rfl⟩
          · refine w_condF g29 ?_
            refine w_skip ?_
            refine bk_norm ?_
            refine nx_norm ?_
            refine w_ops ?_
            refine wo_step (v := (.i .i64 x7)) (s_pure (p_mv g7)) ?_
            have hq := forceI_inv hr
            clear hr
            obtain ⟨x16, e16, hr⟩ := hq
            refine wo_step (v := (.i .i64 x16)) (s_pure (p_bin rfl rfl (b_add.trans (ci e16)))) ?_
            refine wo_step (v := (.i .i64 x16)) (s_pure (p_mv rfl)) ?_
            refine wo_nil ?_
            cases hr
            exact ⟨_, _, rfl, rfl, rfl, gl rfl, gl g0, gl g1, gl g2⟩
      · refine w_condF rfl ?_
        refine w_exit ?_
        refine nx_exit ?_
        cases hr
        exact ⟨_, _, rfl, ne_norm_exit, rfl, rfl⟩
    · rcases o_1 with o_1 | o_1
      · rintro _ mm_1 t_3 ⟨rfl, rfl⟩
        refine bk_hit ?_
        refine nx_norm ?_
        refine w_seq ?_
        refine w_ops ?_
        refine wo_step (v := (.b true)) (s_pure (p_mv rfl)) ?_
        refine wo_nil ?_
        refine nx_norm ?_
        refine w_ret ?_
        exact qf ret_ok (rt rfl rn) hr
      · obtain ⟨c6, ho⟩ : ∃ z, z = o_1 := ⟨_, rfl⟩
        subst ho
        rintro _ mm_2 t_4 ⟨rfl, rfl, g6⟩
        refine bk_ret ?_
        refine nx_ret ?_
        exact qf ret_ok (rt g6 rn) hr

/- dibber/turn.read -/
abbrev g43_J0 (x0 : Int) (x1 : Int) (v2 : AVal) (v6 : AVal) (m_1 : Mm) (o : Bool) (m1 : Mm) (t1 : Tr) : Prop :=
  match o with
  | c16 => m_1 = m1 ∧ t1.get 16 = (.b c16) ∧ t1.get 0 = (.i .i64 x0) ∧ t1.get 1 = (.i .i64 x1) ∧ t1.get 2 = v2 ∧ t1.get 6 = v6
abbrev g43_J1 (x0 : Int) (x1 : Int) (v2 : AVal) (v6 : AVal) (m_1 : Mm) (o : Bool) (m1 : Mm) (t1 : Tr) : Prop :=
  match o with
  | c20 => m_1 = m1 ∧ t1.get 20 = (.b c20) ∧ t1.get 0 = (.i .i64 x0) ∧ t1.get 1 = (.i .i64 x1) ∧ t1.get 2 = v2 ∧ t1.get 6 = v6
abbrev g43_J2 (x0 : Int) (x1 : Int) (v2 : AVal) (v6 : AVal) (m_1 : Mm) (o : Bool) (m1 : Mm) (t1 : Tr) : Prop :=
  match o with
  | c24 => m_1 = m1 ∧ t1.get 24 = (.b c24) ∧ t1.get 0 = (.i .i64 x0) ∧ t1.get 1 = (.i .i64 x1) ∧ t1.get 2 = v2 ∧ t1.get 6 = v6
abbrev g43_I3 (v6 : AVal) (v8 : AVal) (v2 : AVal) (x35 : Int) (s : Int × Mm) (m1 : Mm) (t1 : Tr) : Prop :=
  match s with
  | (x36, m_6) => m_6 = m1 ∧ t1.get 36 = (.i .i64 x36) ∧ t1.get 6 = v6 ∧ t1.get 8 = v8 ∧ t1.get 34 = v2 ∧ t1.get 35 = (.i .i64 x35)
abbrev g43_J3 (v6 : AVal) (v8 : AVal) (v2 : AVal) (x35 : Int) (o : (Mm ⊕ (Int × Mm))) (e : AExit) (m1 : Mm) (t1 : Tr) : Prop :=
  match o with
  | (.inl mo) => e = (.exit 0) ∧ mo = m1 ∧ t1.get 6 = v6 ∧ t1.get 8 = v8
  | (.inr (y7, mo)) => e = .ret ∧ mo = m1 ∧ t1.get 7 = (.i .i64 y7) ∧ t1.get 6 = v6
def g43_b3 (M : Means) (ro : List ABlk) (v6 : AVal) (v8 : AVal) (v2 : AVal) (x35 : Int) (x36 : Int) (m_6 : Mm) : Option ((Int × Mm) ⊕ ((Mm ⊕ (Int × Mm)))) :=
  forceB (ltI x36 x35) fun c37 =>
  cond c37 (
    bindO (evP .e (.ixS 4 (.c v2) (.c (.i .i64 x36)))) fun v38 =>
    bindO (ldM ro m_6 false 4 v38) fun v39 =>
    bindP (stepM ro m_6 (.al 31 [(AVal.i IntKind.i64 0), (AVal.i IntKind.i64 0), (AVal.i IntKind.i64 0), (AVal.i IntKind.i64 0)])) fun v10 m_7 =>
    bindP (stepM ro m_7 (.st 4 (.c v10) (.c v39))) fun vn_3 m_8 =>
    bindO (ldM ro m_8 false 3 v8) fun v40 =>
    bindO (ldM ro m_8 false 4 v10) fun v41 =>
    bindP (callM M.call m_8 60 [v40, v41]) fun v42 m_9 =>
    asB v42 fun c42 =>
    forceB (!c42) fun c43 =>
    cond c43 (
      bindO ((fillA [(AVal.i IntKind.i64 0), (AVal.i IntKind.i64 0), AVal.nsl] []).map AVal.agg) fun v44 =>
      bindP (stepM ro m_9 (.st 3 (.c v6) (.c v44))) fun vn_4 m_10 =>
      some (.inr (.inr (2, m_10)))) (
      forceI (wr .i64 (x36 + 1)) fun x45 =>
      some (.inl (x45, m_9)))) (
    some (.inr (.inl m_6)))
def g43 (M : Means) (ro : List ABlk) (x0 : Int) (x1 : Int) (v2 : AVal) (m0 : Mm) : Option (AVal × Heap × Nat × Nat) :=
  bindP (stepM ro m0 (.al 55 [(AVal.i IntKind.i64 0), (AVal.i IntKind.i64 0), AVal.nsl])) fun v6 m_1 =>
  forceB (ltI x0 1) fun c12 =>
  bindO (cond c12 (
    some true) (
    forceB (ltI 24 x0) fun c15 =>
    some c15)) fun c16 =>
  bindO (cond c16 (
    some true) (
    forceB (ltI x1 1) fun c19 =>
    some c19)) fun c20 =>
  bindO (cond c20 (
    some true) (
    forceB (ltI 6 x1) fun c23 =>
    some c23)) fun c24 =>
  cond c24 (
    bindO ((fillA [(AVal.i IntKind.i64 0), (AVal.i IntKind.i64 0), AVal.nsl] []).map AVal.agg) fun v25 =>
    bindP (stepM ro m_1 (.st 3 (.c v6) (.c v25))) fun vn m_2 =>
    bindO (ldM ro m_2 false 3 v6) fun vr =>
    finM m0.h.length (tupA [vr, (.i .i64 2)]) m_2) (
    bindO (evP .e (.len false (.c v2))) fun v27 =>
    asI .i64 v27 fun x27 =>
    forceB (ltI 20 x27) fun c28 =>
    cond c28 (
      bindO ((fillA [(AVal.i IntKind.i64 0), (AVal.i IntKind.i64 0), AVal.nsl] []).map AVal.agg) fun v29 =>
      bindP (stepM ro m_1 (.st 3 (.c v6) (.c v29))) fun vn_1 m_3 =>
      bindO (ldM ro m_3 false 3 v6) fun vr_1 =>
      finM m0.h.length (tupA [vr_1, (.i .i64 3)]) m_3) (
      bindO ((fillA [(AVal.i IntKind.i64 0), (AVal.i IntKind.i64 0), AVal.nsl] [((0, 1), (.i .i64 x0)), ((1, 1), (.i .i64 x1)), ((2, 1), v2)]).map AVal.agg) fun v33 =>
      bindP (stepM ro m_1 (.al 55 [(AVal.i IntKind.i64 0), (AVal.i IntKind.i64 0), AVal.nsl])) fun v8 m_4 =>
      bindP (stepM ro m_4 (.st 3 (.c v8) (.c v33))) fun vn_2 m_5 =>
      bindO (evP .e (.len false (.c v2))) fun v35 =>
      asI .i64 v35 fun x35 =>
      bindO (M.loop (S := Int × Mm) (R := (Mm ⊕ (Int × Mm))) (fun s => g43_b3 M ro v6 v8 v2 x35 s.1 s.2) (0, m_5)) fun o_3 => match o_3 with
      | (.inl m_11) =>
        bindO (ldM ro m_11 false 3 v8) fun v46 =>
        bindP (stepM ro m_11 (.st 3 (.c v6) (.c v46))) fun vn_5 m_12 =>
        bindO (ldM ro m_12 false 3 v6) fun vr_2 =>
        finM m0.h.length (tupA [vr_2, (.i .i64 0)]) m_12
      | (.inr (x7, m_13)) =>
        bindO (ldM ro m_13 false 3 v6) fun vr_3 =>
        finM m0.h.length (tupA [vr_3, (.i .i64 x7)]) m_13))

theorem g43_ok {ro : List ABlk} {O : Caller} {M : Means} (hM : M.Ok ⟨F, O⟩ ro) {x0 x1 v2 h r} (ho : O 43 [(.i .i64 x0), (.i .i64 x1), v2] h = none) (hr : g43 M ro x0 x1 v2 ⟨h, h.length, h.length⟩ = some r) : callX ⟨F, O⟩ ro 43 [(.i .i64 x0), (.i .i64 x1), v2] h = some r := by
  refine callX_of (F := ⟨F, O⟩) (fn := fn43) (g := g43 M ro x0 x1 v2) ho rfl rfl hr ?_
  clear ho
  clear hr
  intro m0 t0 ht hr
  have g0 : t0.get 0 = (.i .i64 x0) := ht 0
  have g1 : t0.get 1 = (.i .i64 x1) := ht 1
  have g2 : t0.get 2 = v2 := ht 2
  clear ht
  unfold g43 at hr
  refine w_seq ?_
  refine w_ops ?_
  have hq := bindP_inv hr
  clear hr
  obtain ⟨v6, m_1, e6, hr⟩ := hq
  refine wo_step (v := v6) (s_al e6) ?_
  refine wo_step (v := (.i .i64 0)) (s_pure (p_mv rfl)) ?_
  refine wo_nil ?_
  refine nx_norm ?_
  refine w_seq ?_
  refine w_seq ?_
  refine w_ops ?_
  refine wo_step (v := (.i .i64 x0)) (s_pure (p_mv g0)) ?_
  have hq := forceB_inv hr
  clear hr
  obtain ⟨c12, e12, hr⟩ := hq
  refine wo_step (v := (.b c12)) (s_pure (p_bin rfl rfl (b_lss.trans (cb e12)))) ?_
  refine wo_step (v := (.b c12)) (s_pure (p_mv rfl)) ?_
  have hq := bindO_inv hr
  clear hr
  obtain ⟨o, hr, hk⟩ := hq
  refine wo_join 3 (g43_J0 x0 x1 v2 v6 m_1 o) ?_ ?_
  · clear hk
    have hq := cond_inv hr
    clear hr
    rcases hq with ⟨rfl, hr⟩ | ⟨rfl, hr⟩
    · refine wo_skip (v := (.b true)) rfl rfl ?_
      refine wo_skip (v := (.b true)) rfl rfl ?_
      refine wo_step (v := (.b true)) (s_pure (p_pickT rfl rfl)) ?_
      refine wo_nil ?_
      cases hr
      exact ⟨_, _, rfl, rfl, gl rfl, gl g0, gl g1, gl g2, gl rfl⟩
    · refine wo_take (v := (.i .i64 x0)) rfl (s_pure (p_mv g0)) ?_
      have hq := forceB_inv hr
      clear hr
      obtain ⟨c15, e15, hr⟩ := hq
      refine wo_take (v := (.b c15)) rfl (s_pure (p_bin rfl rfl (b_gtr.trans (cb e15)))) ?_
      refine wo_step (v := (.b c15)) (s_pure (p_pickF rfl rfl)) ?_
      refine wo_nil ?_
      cases hr
      exact ⟨_, _, rfl, rfl, gl rfl, gl g0, gl g1, gl g2, gl rfl⟩
  · clear hr
    have hr := hk
    clear hk
    obtain ⟨c16, ho⟩ : ∃ z, z = o := ⟨_, rfl⟩
    subst ho
    rintro mm t_1 ⟨rfl, g16, g0, g1, g2, g6⟩
    refine wo_step (v := (.b c16)) (s_pure (p_mv g16)) ?_
    have hq := bindO_inv hr
    clear hr
    obtain ⟨o_1, hr, hk⟩ := hq
    refine wo_join 3 (g43_J1 x0 x1 v2 v6 m_1 o_1) ?_ ?_
    · clear hk
      have hq := cond_inv hr
      clear hr
      rcases hq with ⟨rfl, hr⟩ | ⟨rfl, hr⟩
      · refine wo_skip (v := (.b true)) rfl rfl ?_
        refine wo_skip (v := (.b true)) rfl rfl ?_
        refine wo_step (v := (.b true)) (s_pure (p_pickT rfl rfl)) ?_
        refine wo_nil ?_
        cases hr
        exact ⟨_, _, rfl, rfl, gl rfl, gl g0, gl g1, gl g2, gl g6⟩
      · refine wo_take (v := (.i .i64 x1)) rfl (s_pure (p_mv g1)) ?_
        have hq := forceB_inv hr
        clear hr
        obtain ⟨c19, e19, hr⟩ := hq
        refine wo_take (v := (.b c19)) rfl (s_pure (p_bin rfl rfl (b_lss.trans (cb e19)))) ?_
        refine wo_step (v := (.b c19)) (s_pure (p_pickF rfl rfl)) ?_
        refine wo_nil ?_
        cases hr
        exact ⟨_, _, rfl, rfl, gl rfl, gl g0, gl g1, gl g2, gl g6⟩
    · clear hr
      have hr := hk
      clear hk
      obtain ⟨c20, ho⟩ : ∃ z, z = o_1 := ⟨_, rfl⟩
      subst ho
      rintro mm_1 t_2 ⟨rfl, g20, g0, g1, g2, g6⟩
      refine wo_step (v := (.b c20)) (s_pure (p_mv g20)) ?_
      have hq := bindO_inv hr
      clear hr
      obtain ⟨o_2, hr, hk⟩ := hq
      refine wo_join 3 (g43_J2 x0 x1 v2 v6 m_1 o_2) ?_ ?_
      · clear hk
        have hq := cond_inv hr
        clear hr
        rcases hq with ⟨rfl, hr⟩ | ⟨rfl, hr⟩
        · refine wo_skip (v := (.b true)) rfl rfl ?_
          refine wo_skip (v := (.b true)) rfl rfl ?_
          refine wo_step (v := (.b true)) (s_pure (p_pickT rfl rfl)) ?_
          refine wo_nil ?_
          cases hr
          exact ⟨_, _, rfl, rfl, gl rfl, gl g0, gl g1, gl g2, gl g6⟩
        · refine wo_take (v := (.i .i64 x1)) rfl (s_pure (p_mv g1)) ?_
          have hq := forceB_inv hr
          clear hr
          obtain ⟨c23, e23, hr⟩ := hq
          refine wo_take (v := (.b c23)) rfl (s_pure (p_bin rfl rfl (b_gtr.trans (cb e23)))) ?_
          refine wo_step (v := (.b c23)) (s_pure (p_pickF rfl rfl)) ?_
          refine wo_nil ?_
          cases hr
          exact ⟨_, _, rfl, rfl, gl rfl, gl g0, gl g1, gl g2, gl g6⟩
      · clear hr
        have hr := hk
        clear hk
        obtain ⟨c24, ho⟩ : ∃ z, z = o_2 := ⟨_, rfl⟩
        subst ho
        rintro mm_2 t_3 ⟨rfl, g24, g0, g1, g2, g6⟩
        refine wo_nil ?_
        refine nx_norm ?_
        have hq := cond_inv hr
        clear hr
        rcases hq with ⟨rfl, hr⟩ | ⟨rfl, hr⟩
        · refine w_condT g24 ?_
          refine w_seq ?_
          refine w_ops ?_
          have hq := bindO_inv hr
          clear hr
          obtain ⟨v25, e25, hr⟩ := hq
          refine wo_step (v := v25) (s_pure (o_build qn e25)) ?_
          have hq := bindP_inv hr
          clear hr
          obtain ⟨vn, m_2, en, hr⟩ := hq
          refine wo_stepN (s_st g6 rfl en) ?_
          refine wo_step (v := (.i .i64 2)) (s_pure (p_mv rfl)) ?_
          refine wo_nil ?_
          refine nx_norm ?_
          refine w_ret ?_
          refine nx_ret ?_
          have hq := bindO_inv hr
          clear hr
          obtain ⟨vr, er, hr⟩ := hq
          exact qf ret_ok (rc g6 er (rt rfl rn)) hr
        · refine w_condF g24 ?_
          refine w_skip ?_
          refine nx_norm ?_
          refine w_seq ?_
          refine w_seq ?_
          refine w_ops ?_
          refine wo_step (v := v2) (s_pure (p_mv g2)) ?_
          have hq := bindO_inv hr
          clear hr
          obtain ⟨v27, e27, hr⟩ := hq
          have hq := asI_inv hr
          clear hr
          obtain ⟨x27, rfl, hr⟩ := hq
          refine wo_step (v := (.i .i64 x27)) (s_pure (o_len rfl e27)) ?_
          have hq := forceB_inv hr
          clear hr
          obtain ⟨c28, e28, hr⟩ := hq
          refine wo_step (v := (.b c28)) (s_pure (p_bin rfl rfl (b_gtr.trans (cb e28)))) ?_
          refine wo_nil ?_
          refine nx_norm ?_
          have hq := cond_inv hr
          clear hr
          rcases hq with ⟨rfl, hr⟩ | ⟨rfl, hr⟩
          · refine w_condT rfl ?_
            refine w_seq ?_
            refine w_ops ?_
            have hq := bindO_inv hr
            clear hr
            obtain ⟨v29, e29, hr⟩ := hq
            refine wo_step (v := v29) (s_pure (o_build qn e29)) ?_
            have hq := bindP_inv hr
            clear hr
            obtain ⟨vn_1, m_3, en_1, hr⟩ := hq
            refine wo_stepN (s_st g6 rfl en_1) ?_
            refine wo_step (v := (.i .i64 3)) (s_pure (p_mv rfl)) ?_
            refine wo_nil ?_
            refine nx_norm ?_
            refine w_ret ?_
            refine nx_ret ?_
            have hq := bindO_inv hr
            clear hr
            obtain ⟨vr_1, er_1, hr⟩ := hq
            exact qf ret_ok (rc g6 er_1 (rt rfl rn)) hr
          · refine w_condF rfl ?_
            refine w_skip ?_
            refine nx_norm ?_
            refine w_seq ?_
            refine w_ops ?_
            refine wo_step (v := (.i .i64 x0)) (s_pure (p_mv g0)) ?_
            refine wo_step (v := (.i .i64 x1)) (s_pure (p_mv g1)) ?_
            refine wo_step (v := v2) (s_pure (p_mv g2)) ?_
            have hq := bindO_inv hr
            clear hr
            obtain ⟨v33, e33, hr⟩ := hq
            refine wo_step (v := v33) (s_pure (o_build (qc rfl (qc rfl (qc rfl qn))) e33)) ?_
            have hq := bindP_inv hr
            clear hr
            obtain ⟨v8, m_4, e8, hr⟩ := hq
            refine wo_step (v := v8) (s_al e8) ?_
            have hq := bindP_inv hr
            clear hr
            obtain ⟨vn_2, m_5, en_2, hr⟩ := hq
            refine wo_stepN (s_st rfl rfl en_2) ?_
            refine wo_nil ?_
            refine nx_norm ?_
            refine w_seq ?_
            refine w_seq ?_
            refine w_ops ?_
            refine wo_step (v := v2) (s_pure (p_mv g2)) ?_
            have hq := bindO_inv hr
            clear hr
            obtain ⟨v35, e35, hr⟩ := hq
            have hq := asI_inv hr
            clear hr
            obtain ⟨x35, rfl, hr⟩ := hq
            refine wo_step (v := (.i .i64 x35)) (s_pure (o_len rfl e35)) ?_
            refine wo_step (v := (.i .i64 0)) (s_pure (p_mv rfl)) ?_
            refine wo_nil ?_
            refine nx_norm ?_
            refine w_block ?_
            have hq := bindO_inv hr
            clear hr
            obtain ⟨o_3, hl, hr⟩ := hq
            obtain ⟨n, hl⟩ := hM.loop _ _ _ hl
            refine jp_mono (w_loop _ (g43_I3 v6 v8 v2 x35) (g43_J3 v6 v8 v2 x35) ?_ n _ _ _ _ hl ⟨rfl, gl rfl, gl g6, gl rfl, gl rfl, gl rfl⟩) ?_
            · clear hr hl
              intro s mm_5 t_4 o hi hr
              obtain ⟨x36, m_6⟩ := s
              obtain ⟨rfl, g36, g6, g8, g34, g35⟩ := hi
              unfold g43_b3 at hr
              refine w_seq ?_
              refine w_ops ?_
              have hq := forceB_inv hr
              clear hr
              obtain ⟨c37, e37, hr⟩ := hq
              refine wo_step (v := (.b c37)) (s_pure (p_bin g36 g35 (b_lss.trans (cb e37)))) ?_
              refine wo_nil ?_
              refine nx_norm ?_
              refine w_seq ?_
              have hq := cond_inv hr
              clear hr
              rcases hq with ⟨rfl, hr⟩ | ⟨rfl, hr⟩
              · refine w_condT rfl ?_
                refine w_skip ?_
                refine nx_norm ?_
                refine w_seq ?_
                refine w_block ?_
                refine w_seq ?_
                refine w_ops ?_
                have hq := bindO_inv hr
                clear hr
                obtain ⟨v38, e38, hr⟩ := hq
                refine wo_step (v := v38) (s_pure (o_ixS g34 g36 e38)) ?_
                have hq := bindO_inv hr
                clear hr
                obtain ⟨v39, e39, hr⟩ := hq
                refine wo_step (v := v39) (s_ld rfl e39) ?_
                have hq := bindP_inv hr
                clear hr
                obtain ⟨v10, m_7, e10, hr⟩ := hq
                refine wo_step (v := v10) (s_al e10) ?_
                have hq := bindP_inv hr
                clear hr
                obtain ⟨vn_3, m_8, en_3, hr⟩ := hq
                refine wo_stepN (s_st rfl rfl en_3) ?_
                refine wo_nil ?_
                refine nx_norm ?_
                refine w_seq ?_
                refine w_ops ?_
                have hq := bindO_inv hr
                clear hr
                obtain ⟨v40, e40, hr⟩ := hq
                refine wo_step (v := v40) (s_ld g8 e40) ?_
                have hq := bindO_inv hr
                clear hr
                obtain ⟨v41, e41, hr⟩ := hq
                refine wo_step (v := v41) (s_ld rfl e41) ?_
                have hq := bindP_inv hr
                clear hr
                obtain ⟨v42, m_9, e42, hr⟩ := hq
                have hq := asB_inv hr
                clear hr
                obtain ⟨c42, rfl, hr⟩ := hq
                refine wo_step (v := (.b c42)) (s_call (mc rfl (mc rfl mn)) (callM_le hM.call e42)) ?_
                have hq := forceB_inv hr
                clear hr
                obtain ⟨c43, e43, hr⟩ := hq
                refine wo_step (v := (.b c43)) (s_pure ((p_not rfl).trans (cb e43))) ?_
                refine wo_nil ?_
                refine nx_norm ?_
                have hq := cond_inv hr
                clear hr
                rcases hq with ⟨rfl, hr⟩ | ⟨rfl, hr⟩
                · refine w_condT rfl ?_
                  refine w_seq ?_
                  refine w_ops ?_
                  have hq := bindO_inv hr
                  clear hr
                  obtain ⟨v44, e44, hr⟩ := hq
                  refine wo_step (v := v44) (s_pure (o_build qn e44)) ?_
                  have hq := bindP_inv hr
                  clear hr
                  obtain ⟨vn_4, m_10, en_4, hr⟩ := hq
                  refine wo_stepN (s_st g6 rfl en_4) ?_
                  refine wo_step (v := (.i .i64 2)) (s_pure (p_mv rfl)) ?_
                  refine wo_nil ?_
                  refine nx_norm ?_
                  refine w_ret ?_
                  refine bk_ret ?_
                  refine nx_ret ?_
                  cases hr
                  exact ⟨_, _, rfl, ne_norm_ret, rfl, rfl, gl rfl, gl g6⟩
                · refine w_condF rfl ?_
                  refine w_skip ?_
                  refine bk_norm ?_
                  refine nx_norm ?_
                  refine w_ops ?_
                  have hq := forceI_inv hr
                  clear hr
                  obtain ⟨x45, e45, hr⟩ := hq
                  refine wo_step (v := (.i .i64 x45)) (s_pure (p_bin g36 rfl (b_add.trans (ci e45)))) ?_
                  refine wo_step (v := (.i .i64 x45)) (s_pure (p_mv rfl)) ?_
                  refine wo_nil ?_
                  cases hr
                  exact ⟨_, _, rfl, rfl, rfl, gl rfl, gl g6, gl g8, gl g34, gl g35⟩
              · refine w_condF rfl ?_
                refine w_exit ?_
                refine nx_exit ?_
                cases hr
                exact ⟨_, _, rfl, ne_norm_exit, rfl, rfl, gl g6, gl g8⟩
            · rcases o_3 with o_3 | o_3
              · obtain ⟨m_11, ho⟩ : ∃ z, z = o_3 := ⟨_, rfl⟩
                subst ho
                rintro _ mm_3 t_5 ⟨rfl, rfl, g6, g8⟩
                refine bk_hit ?_
                refine nx_norm ?_
                refine w_seq ?_
                refine w_ops ?_
                have hq := bindO_inv hr
                clear hr
                obtain ⟨v46, e46, hr⟩ := hq
                refine wo_step (v := v46) (s_ld g8 e46) ?_
                have hq := bindP_inv hr
                clear hr
                obtain ⟨vn_5, m_12, en_5, hr⟩ := hq
                refine wo_stepN (s_st g6 rfl en_5) ?_
                refine wo_step (v := (.i .i64 0)) (s_pure (p_mv rfl)) ?_
                refine wo_nil ?_
                refine nx_norm ?_
                refine w_ret ?_
                have hq := bindO_inv hr
                clear hr
                obtain ⟨vr_2, er_2, hr⟩ := hq
                exact qf ret_ok (rc g6 er_2 (rt rfl rn)) hr
              · obtain ⟨x7, m_13⟩ := o_3
                rintro _ mm_4 t_6 ⟨rfl, rfl, g7, g6⟩
                refine bk_ret ?_
                refine nx_ret ?_
                have hq := bindO_inv hr
                clear hr
                obtain ⟨vr_3, er_3, hr⟩ := hq
                exact qf ret_ok (rc g6 er_3 (rt g7 rn)) hr

/- (dibber/turn.demands).plans -/

def g44 (M : Means) (ro : List ABlk) (v0 : AVal) (m0 : Mm) : Option (AVal × Heap × Nat × Nat) :=
  bindP (stepM ro m0 (.bx 55 3 (.c v0))) fun v1 m_1 =>
  bindO (some (AVal.fn 61 [] [v1])) fun v3 =>
  finM m0.h.length (tupA [v3]) m_1

theorem g44_ok {ro : List ABlk} {O : Caller} {M : Means} (hM : M.Ok ⟨F, O⟩ ro) {v0 h r} (ho : O 44 [v0] h = none) (hr : g44 M ro v0 ⟨h, h.length, h.length⟩ = some r) : callX ⟨F, O⟩ ro 44 [v0] h = some r := by
  refine callX_of (F := ⟨F, O⟩) (fn := fn44) (g := g44 M ro v0) ho rfl rfl hr ?_
  clear ho
  clear hr
  intro m0 t0 ht hr
  have g0 : t0.get 0 = v0 := ht 0
  clear ht
  unfold g44 at hr
  refine w_seq ?_
  refine w_ops ?_
  have hq := bindP_inv hr
  clear hr
  obtain ⟨v1, m_1, e1, hr⟩ := hq
  refine wo_step (v := v1) (s_bx g0 e1) ?_
  refine wo_step (v := AVal.nfn) (s_pure (p_mv rfl)) ?_
  refine wo_nil ?_
  refine nx_norm ?_
  refine w_seq ?_
  refine w_ops ?_
  have hq := bindO_inv hr
  clear hr
  obtain ⟨v3, e3, hr⟩ := hq
  refine wo_step (v := v3) (s_pure ((o_mkfn mn (mc rfl mn)).trans e3)) ?_
  refine wo_step (v := v3) (s_pure (p_mv rfl)) ?_
  refine wo_nil ?_
  refine nx_norm ?_
  refine w_ret ?_
  exact qf ret_ok (rt rfl rn) hr

/- (dibber/turn.demands).slack -/

def g48 (M : Means) (ro : List ABlk) (v0 : AVal) (v1 : AVal) (v2 : AVal) (m0 : Mm) : Option (AVal × Heap × Nat × Nat) :=
  bindP (stepM ro m0 (.bx 55 3 (.c v0))) fun v3 m_1 =>
  bindP (stepM ro m_1 (.bx 31 4 (.c v1))) fun v4 m_2 =>
  bindO (ldA ro m_2.h false 3 v3) fun v7 =>
  bindO (evP .e (.faddr 1 (.c v4))) fun v9 =>
  bindO (ldA ro m_2.h true 1 v9) fun v10 =>
  asI .i64 v10 fun x10 =>
  bindO (evP .e (.ixS 1 (.c v2) (.c (.i .i64 x10)))) fun v11 =>
  bindO (ldA ro m_2.h true 1 v11) fun v12 =>
  asI .i64 v12 fun x12 =>
  bindO (evP .e (.faddr 0 (.c v4))) fun v14 =>
  bindO (ldA ro m_2.h true 1 v14) fun v15 =>
  asI .i64 v15 fun x15 =>
  bindO (evP .e (.ixS 1 (.c v2) (.c (.i .i64 x15)))) fun v16 =>
  bindO (ldA ro m_2.h true 1 v16) fun v17 =>
  asI .i64 v17 fun x17 =>
  forceI (wr .i64 (x12 - x17)) fun x18 =>
  bindO (evP .e (.faddr 2 (.c v4))) fun v19 =>
  bindO (ldA ro m_2.h true 1 v19) fun v20 =>
  asI .i64 v20 fun x20 =>
  forceI (wr .i64 (x18 - x20)) fun x21 =>
  bindO (callN M.call m_2.h 70 [v7, (.i .i64 x21)]) fun v22 =>
  asI .i64 v22 fun x22 =>
  finM m0.h.length (tupA [(.i .i64 x22)]) m_2

theorem g48_ok {ro : List ABlk} {O : Caller} {M : Means} (hM : M.Ok ⟨F, O⟩ ro) {v0 v1 v2 h r} (ho : O 48 [v0, v1, v2] h = none) (hr : g48 M ro v0 v1 v2 ⟨h, h.length, h.length⟩ = some r) : callX ⟨F, O⟩ ro 48 [v0, v1, v2] h = some r := by
  refine callX_of (F := ⟨F, O⟩) (fn := fn48) (g := g48 M ro v0 v1 v2) ho rfl rfl hr ?_
  clear ho
  clear hr
  intro m0 t0 ht hr
  have g0 : t0.get 0 = v0 := ht 0
  have g1 : t0.get 1 = v1 := ht 1
  have g2 : t0.get 2 = v2 := ht 2
  clear ht
  unfold g48 at hr
  refine w_seq ?_
  refine w_ops ?_
  have hq := bindP_inv hr
  clear hr
  obtain ⟨v3, m_1, e3, hr⟩ := hq
  refine wo_step (v := v3) (s_bx g0 e3) ?_
  have hq := bindP_inv hr
  clear hr
  obtain ⟨v4, m_2, e4, hr⟩ := hq
  refine wo_step (v := v4) (s_bx g1 e4) ?_
  refine wo_step (v := (.i .i64 0)) (s_pure (p_mv rfl)) ?_
  refine wo_nil ?_
  refine nx_norm ?_
  refine w_seq ?_
  refine w_any ?_
  have hq := bindO_inv hr
  clear hr
  obtain ⟨v7, e7, hr⟩ := hq
  refine wa_step (v := v7) (a_ld rfl e7) ?_
  refine wa_step (v := v2) (a_pure (p_mv g2)) ?_
  have hq := bindO_inv hr
  clear hr
  obtain ⟨v9, e9, hr⟩ := hq
  refine wa_step (v := v9) (a_pure (o_faddr rfl e9)) ?_
  have hq := bindO_inv hr
  clear hr
  obtain ⟨v10, e10, hr⟩ := hq
  have hq := asI_inv hr
  clear hr
  obtain ⟨x10, rfl, hr⟩ := hq
  refine wa_step (v := (.i .i64 x10)) (a_ld rfl e10) ?_
  have hq := bindO_inv hr
  clear hr
  obtain ⟨v11, e11, hr⟩ := hq
  refine wa_step (v := v11) (a_pure (o_ixS rfl rfl e11)) ?_
  have hq := bindO_inv hr
  clear hr
  obtain ⟨v12, e12, hr⟩ := hq
  have hq := asI_inv hr
  clear hr
  obtain ⟨x12, rfl, hr⟩ := hq
  refine wa_step (v := (.i .i64 x12)) (a_ld rfl e12) ?_
  refine wa_step (v := v2) (a_pure (p_mv g2)) ?_
  have hq := bindO_inv hr
  clear hr
  obtain ⟨v14, e14, hr⟩ := hq
  refine wa_step (v := v14) (a_pure (o_faddr rfl e14)) ?_
  have hq := bindO_inv hr
  clear hr
  obtain ⟨v15, e15, hr⟩ := hq
  have hq := asI_inv hr
  clear hr
  obtain ⟨x15, rfl, hr⟩ := hq
  refine wa_step (v := (.i .i64 x15)) (a_ld rfl e15) ?_
  have hq := bindO_inv hr
  clear hr
  obtain ⟨v16, e16, hr⟩ := hq
  refine wa_step (v := v16) (a_pure (o_ixS rfl rfl e16)) ?_
  have hq := bindO_inv hr
  clear hr
  obtain ⟨v17, e17, hr⟩ := hq
  have hq := asI_inv hr
  clear hr
  obtain ⟨x17, rfl, hr⟩ := hq
  refine wa_step (v := (.i .i64 x17)) (a_ld rfl e17) ?_
  have hq := forceI_inv hr
  clear hr
  obtain ⟨x18, e18, hr⟩ := hq
  refine wa_step (v := (.i .i64 x18)) (a_pure (p_bin rfl rfl (b_sub.trans (ci e18)))) ?_
  have hq := bindO_inv hr
  clear hr
  obtain ⟨v19, e19, hr⟩ := hq
  refine wa_step (v := v19) (a_pure (o_faddr rfl e19)) ?_
  have hq := bindO_inv hr
  clear hr
  obtain ⟨v20, e20, hr⟩ := hq
  have hq := asI_inv hr
  clear hr
  obtain ⟨x20, rfl, hr⟩ := hq
  refine wa_step (v := (.i .i64 x20)) (a_ld rfl e20) ?_
  have hq := forceI_inv hr
  clear hr
  obtain ⟨x21, e21, hr⟩ := hq
  refine wa_step (v := (.i .i64 x21)) (a_pure (p_bin rfl rfl (b_sub.trans (ci e21)))) ?_
  have hq := bindO_inv hr
  clear hr
  obtain ⟨v22, e22, hr⟩ := hq
  have hq := asI_inv hr
  clear hr
  obtain ⟨x22, rfl, hr⟩ := hq
  refine wa_step (v := (.i .i64 x22)) (a_call (mc rfl (mc rfl mn)) (callN_le hM.call e22)) ?_
  refine wa_step (v := (.i .i64 x22)) (a_pure (p_mv rfl)) ?_
  refine wa_nil ?_
  refine ⟨m_2, rfl, ?_⟩
  refine nx_norm ?_
  refine w_ret ?_
  exact qf ret_ok (rt rfl rn) hr

/- (dibber/turn.demands).isPlan -/
abbrev g50_J0 (v1 : AVal) (v2 : AVal) (m_2 : Mm) (o : Bool) (m1 : Mm) (t1 : Tr) : Prop :=
  match o with
  | c16 => m_2 = m1 ∧ t1.get 16 = (.b c16) ∧ t1.get 1 = v1 ∧ t1.get 2 = v2
abbrev g50_I1 (v1 : AVal) (v2 : AVal) (v18 : AVal) (x19 : Int) (s : Int × Mm) (m1 : Mm) (t1 : Tr) : Prop :=
  match s with
  | (x20, m_3) => m_3 = m1 ∧ t1.get 20 = (.i .i64 x20) ∧ t1.get 1 = v1 ∧ t1.get 2 = v2 ∧ t1.get 18 = v18 ∧ t1.get 19 = (.i .i64 x19)
abbrev g50_J1 (v1 : AVal) (v2 : AVal) (v18 : AVal) (x19 : Int) (o : (Mm ⊕ (Bool × Mm))) (e : AExit) (m1 : Mm) (t1 : Tr) : Prop :=
  match o with
  | (.inl mo) => e = (.exit 0) ∧ mo = m1
  | (.inr (y4, mo)) => e = .ret ∧ mo = m1 ∧ t1.get 4 = (.b y4)
def g50_b1 (M : Means) (ro : List ABlk) (v1 : AVal) (v2 : AVal) (v18 : AVal) (x19 : Int) (x20 : Int) (m_3 : Mm) : Option ((Int × Mm) ⊕ ((Mm ⊕ (Bool × Mm)))) :=
  forceB (ltI x20 x19) fun c21 =>
  cond c21 (
    bindO (evP .e (.ixS 4 (.c v18) (.c (.i .i64 x20)))) fun v22 =>
    bindO (ldM ro m_3 false 4 v22) fun v23 =>
    bindP (stepM ro m_3 (.al 31 [(AVal.i IntKind.i64 0), (AVal.i IntKind.i64 0), (AVal.i IntKind.i64 0), (AVal.i IntKind.i64 0)])) fun v6 m_4 =>
    bindP (stepM ro m_4 (.st 4 (.c v6) (.c v23))) fun vn m_5 =>
    bindO (ldA ro m_5.h false 3 v2) fun v24 =>
    bindO (ldA ro m_5.h false 4 v6) fun v25 =>
    bindO (callN M.call m_5.h 48 [v24, v25, v1]) fun v27 =>
    asI .i64 v27 fun x27 =>
    bindO (evP .e (.faddr 3 (.c v6))) fun v28 =>
    bindO (ldA ro m_5.h true 1 v28) fun v29 =>
    asI .i64 v29 fun x29 =>
    bindO (evP .e (.faddr 2 (.c v6))) fun v30 =>
    bindO (ldA ro m_5.h true 1 v30) fun v31 =>
    asI .i64 v31 fun x31 =>
    forceI (wr .i64 (x29 - x31)) fun x32 =>
    forceB (ltI x32 x27) fun c33 =>
    cond c33 (
      some (.inr (.inr (false, m_5)))) (
      forceI (wr .i64 (x20 + 1)) fun x34 =>
      some (.inl (x34, m_5)))) (
    some (.inr (.inl m_3)))
def g50 (M : Means) (ro : List ABlk) (v0 : AVal) (v1 : AVal) (m0 : Mm) : Option (AVal × Heap × Nat × Nat) :=
  bindP (stepM ro m0 (.bx 55 3 (.c v0))) fun v2 m_1 =>
  bindO (ldM ro m_1 false 3 v2) fun v7 =>
  bindP (callM M.call m_1 52 [v7, v1]) fun v9 m_2 =>
  asB v9 fun c9 =>
  forceB (!c9) fun c10 =>
  bindO (cond c10 (
    some true) (
    bindO (evP .e (.ixS 1 (.c v1) (.c (.i .i64 0)))) fun v13 =>
    bindO (ldM ro m_2 true 1 v13) fun v14 =>
    asI .i64 v14 fun x14 =>
    forceB (!eqI x14 0) fun c15 =>
    some c15)) fun c16 =>
  cond c16 (
    finM m0.h.length (tupA [(.b false)]) m_2) (
    bindO (evP .e (.faddr 2 (.c v2))) fun v17 =>
    bindO (ldM ro m_2 true 1 v17) fun v18 =>
    bindO (evP .e (.len false (.c v18))) fun v19 =>
    asI .i64 v19 fun x19 =>
    bindO (M.loop (S := Int × Mm) (R := (Mm ⊕ (Bool × Mm))) (fun s => g50_b1 M ro v1 v2 v18 x19 s.1 s.2) (0, m_2)) fun o_1 => match o_1 with
    | (.inl m_6) =>
      finM m0.h.length (tupA [(.b true)]) m_6
    | (.inr (c4, m_7)) =>
      finM m0.h.length (tupA [(.b c4)]) m_7)

theorem g50_ok {ro : List ABlk} {O : Caller} {M : Means} (hM : M.Ok ⟨F, O⟩ ro) {v0 v1 h r} (ho : O 50 [v0, v1] h = none) (hr : g50 M ro v0 v1 ⟨h, h.length, h.length⟩ = some r) : callX ⟨F, O⟩ ro 50 [v0, v1] h = some r := by
  refine callX_of (F := ⟨F, O⟩) (fn := fn50) (g := g50 M ro v0 v1) ho rfl rfl hr ?_
  clear ho
  clear hr
  intro m0 t0 ht hr
  have g0 : t0.get 0 = v0 := ht 0
  have g1 : t0.get 1 = v1 := ht 1
  clear ht
  unfold g50 at hr
  refine w_seq ?_
  refine w_ops ?_
  have hq := bindP_inv hr
  clear hr
  obtain ⟨v2, m_1, e2, hr⟩ := hq
  refine wo_step (v := v2) (s_bx g0 e2) ?_
  refine wo_step (v := (.b false)) (s_pure (p_mv rfl)) ?_
  refine wo_nil ?_
  refine nx_norm ?_
  refine w_seq ?_
  refine w_seq ?_
  refine w_ops ?_
  have hq := bindO_inv hr
  clear hr
  obtain ⟨v7, e7, hr⟩ := hq
  refine wo_step (v := v7) (s_ld rfl e7) ?_
  refine wo_step (v := v1) (s_pure (p_mv g1)) ?_
  have hq := bindP_inv hr
  clear hr
  obtain ⟨v9, m_2, e9, hr⟩ := hq
  have hq := asB_inv hr
  clear hr
  obtain ⟨c9, rfl, hr⟩ := hq
  refine wo_step (v := (.b c9)) (s_call (mc rfl (mc rfl mn)) (callM_le hM.call e9)) ?_
  have hq := forceB_inv hr
  clear hr
  obtain ⟨c10, e10, hr⟩ := hq
  refine wo_step (v := (.b c10)) (s_pure ((p_not rfl).trans (cb e10))) ?_
  refine wo_step (v := (.b c10)) (s_pure (p_mv rfl)) ?_
  have hq := bindO_inv hr
  clear hr
  obtain ⟨o, hr, hk⟩ := hq
  refine wo_join 5 (g50_J0 v1 v2 m_2 o) ?_ ?_
  · clear hk
    have hq := cond_inv hr
    clear hr
    rcases hq with ⟨rfl, hr⟩ | ⟨rfl, hr⟩
    · refine wo_skip (v := (.b true)) rfl rfl ?_
      refine wo_skip (v := (.b true)) rfl rfl ?_
      refine wo_skip (v := (.b true)) rfl rfl ?_
      refine wo_skip (v := (.b true)) rfl rfl ?_
      refine wo_step (v := (.b true)) (s_pure (p_pickT rfl rfl)) ?_
      refine wo_nil ?_
      cases hr
      exact ⟨_, _, rfl, rfl, gl rfl, gl g1, gl rfl⟩
    · refine wo_take (v := v1) rfl (s_pure (p_mv g1)) ?_
      have hq := bindO_inv hr
      clear hr
      obtain ⟨v13, e13, hr⟩ := hq
      refine wo_take (v := v13) rfl (s_pure (o_ixS rfl rfl e13)) ?_
      have hq := bindO_inv hr
      clear hr
      obtain ⟨v14, e14, hr⟩ := hq
      have hq := asI_inv hr
      clear hr
      obtain ⟨x14, rfl, hr⟩ := hq
      refine wo_take (v := (.i .i64 x14)) rfl (s_ld rfl e14) ?_
      have hq := forceB_inv hr
      clear hr
      obtain ⟨c15, e15, hr⟩ := hq
      refine wo_take (v := (.b c15)) rfl (s_pure (p_bin rfl rfl (b_neq.trans (cb e15)))) ?_
      refine wo_step (v := (.b c15)) (s_pure (p_pickF rfl rfl)) ?_
      refine wo_nil ?_
      cases hr
      exact ⟨_, _, rfl, rfl, gl rfl, gl g1, gl rfl⟩
  · clear hr
    have hr := hk
    clear hk
    obtain ⟨c16, ho⟩ : ∃ z, z = o := ⟨_, rfl⟩
    subst ho
    rintro mm t_1 ⟨rfl, g16, g1, g2⟩
    refine wo_nil ?_
    refine nx_norm ?_
    have hq := cond_inv hr
    clear hr
    rcases hq with ⟨rfl, hr⟩ | ⟨rfl, hr⟩
    · refine w_condT g16 ?_
      refine w_seq ?_
      refine w_ops ?_
      refine wo_step (v := (.b false)) (s_pure (p_mv rfl)) ?_
      refine wo_nil ?_
      refine nx_norm ?_
      refine w_ret ?_
      refine nx_ret ?_
      exact qf ret_ok (rt rfl rn) hr
    · refine w_condF g16 ?_
      refine w_skip ?_
      refine nx_norm ?_
      refine w_seq ?_
      refine w_seq ?_
      refine w_ops ?_
      have hq := bindO_inv hr
      clear hr
      obtain ⟨v17, e17, hr⟩ := hq
      refine wo_step (v := v17) (s_pure (o_faddr g2 e17)) ?_
      have hq := bindO_inv hr
      clear hr
      obtain ⟨v18, e18, hr⟩ := hq
      refine wo_step (v := v18) (s_ld rfl e18) ?_
      have hq := bindO_inv hr
      clear hr
      obtain ⟨v19, e19, hr⟩ := hq
      have hq := asI_inv hr
      clear hr
      obtain ⟨x19, rfl, hr⟩ := hq
      refine wo_step (v := (.i .i64 x19)) (s_pure (o_len rfl e19)) ?_
      refine wo_step (v := (.i .i64 0)) (s_pure (p_mv rfl)) ?_
      refine wo_nil ?_
      refine nx_norm ?_
      refine w_block ?_
      have hq := bindO_inv hr
      clear hr
      obtain ⟨o_1, hl, hr⟩ := hq
      obtain ⟨n, hl⟩ := hM.loop _ _ _ hl
      refine jp_mono (w_loop _ (g50_I1 v1 v2 v18 x19) (g50_J1 v1 v2 v18 x19) ?_ n _ _ _ _ hl ⟨rfl, gl rfl, gl g1, gl g2, gl rfl, gl rfl⟩) ?_
      · clear hr hl
        intro s mm_3 t_2 o hi hr
        obtain ⟨x20, m_3⟩ := s
        obtain ⟨rfl, g20, g1, g2, g18, g19⟩ := hi
        unfold g50_b1 at hr
        refine w_seq ?_
        refine w_ops ?_
        have hq := forceB_inv hr
        clear hr
        obtain ⟨c21, e21, hr⟩ := hq
        refine wo_step (v := (.b c21)) (s_pure (p_bin g20 g19 (b_lss.trans (cb e21)))) ?_
        refine wo_nil ?_
        refine nx_norm ?_
        refine w_seq ?_
        have hq := cond_inv hr
        clear hr
        rcases hq with ⟨rfl, hr⟩ | ⟨rfl, hr⟩
        · refine w_condT rfl ?_
          refine w_skip ?_
          refine nx_norm ?_
          refine w_seq ?_
          refine w_block ?_
          refine w_seq ?_
          refine w_ops ?_
          have hq := bindO_inv hr
          clear hr
          obtain ⟨v22, e22, hr⟩ := hq
          refine wo_step (v := v22) (s_pure (o_ixS g18 g20 e22)) ?_
          have hq := bindO_inv hr
          clear hr
          obtain ⟨v23, e23, hr⟩ := hq
          refine wo_step (v := v23) (s_ld rfl e23) ?_
          have hq := bindP_inv hr
          clear hr
          obtain ⟨v6, m_4, e6, hr⟩ := hq
          refine wo_step (v := v6) (s_al e6) ?_
          have hq := bindP_inv hr
          clear hr
          obtain ⟨vn, m_5, en, hr⟩ := hq
          refine wo_stepN (s_st rfl rfl en) ?_
          refine wo_nil ?_
          refine nx_norm ?_
          refine w_seq ?_
          refine w_any ?_
          have hq := bindO_inv hr
          clear hr
          obtain ⟨v24, e24, hr⟩ := hq
          refine wa_step (v := v24) (a_ld g2 e24) ?_
          have hq := bindO_inv hr
          clear hr
          obtain ⟨v25, e25, hr⟩ := hq
          refine wa_step (v := v25) (a_ld rfl e25) ?_
          refine wa_step (v := v1) (a_pure (p_mv g1)) ?_
          have hq := bindO_inv hr
          clear hr
          obtain ⟨v27, e27, hr⟩ := hq
          have hq := asI_inv hr
          clear hr
          obtain ⟨x27, rfl, hr⟩ := hq
          refine wa_step (v := (.i .i64 x27)) (a_call (mc rfl (mc rfl (mc rfl mn))) (callN_le hM.call e27)) ?_
          have hq := bindO_inv hr
          clear hr
          obtain ⟨v28, e28, hr⟩ := hq
          refine wa_step (v := v28) (a_pure (o_faddr rfl e28)) ?_
          have hq := bindO_inv hr
          clear hr
          obtain ⟨v29, e29, hr⟩ := hq
          have hq := asI_inv hr
          clear hr
          obtain ⟨x29, rfl, hr⟩ := hq
          refine wa_step (v := (.i .i64 x29)) (a_ld rfl e29) ?_
          have hq := bindO_inv hr
          clear hr
          obtain ⟨v30, e30, hr⟩ := hq
          refine wa_step (v := v30) (a_pure (o_faddr rfl e30)) ?_
          have hq := bindO_inv hr
          clear hr
          obtain ⟨v31, e31, hr⟩ := hq
          have hq := asI_inv hr
          clear hr
          obtain ⟨x31, rfl, hr⟩ := hq
          refine wa_step (v := (.i .i64 x31)) (a_ld rfl e31) ?_
          have hq := forceI_inv hr
          clear hr
          obtain ⟨x32, e32, hr⟩ := hq
          refine wa_step (v := (.i .i64 x32)) (a_pure (p_bin rfl rfl (b_sub.trans (ci e32)))) ?_
          have hq := forceB_inv hr
          clear hr
          obtain ⟨c33, e33, hr⟩ := hq
          refine wa_step (v := (.b c33)) (a_pure (p_bin rfl rfl (b_gtr.trans (cb e33)))) ?_
          refine wa_nil ?_
          refine ⟨m_5, rfl, ?_⟩
          refine nx_norm ?_
          have hq := cond_inv hr
          clear hr
          rcases hq with ⟨rfl, hr⟩ | ⟨rfl, hr⟩
          · refine w_condT rfl ?_
            refine w_seq ?_
            refine w_ops ?_
            refine wo_step (v := (.b false)) (s_pure (p_mv rfl)) ?_
            refine wo_nil ?_
            refine nx_norm ?_
            refine w_ret ?_
            refine bk_ret ?_
            refine nx_ret ?_
            cases hr
            exact ⟨_, _, rfl, ne_norm_ret, rfl, rfl, gl rfl⟩
          · refine w_condF rfl ?_
            refine w_skip ?_
            refine bk_norm ?_
            refine nx_norm ?_
            refine w_ops ?_
            have hq := forceI_inv hr
            clear hr
            obtain ⟨x34, e34, hr⟩ := hq
            refine wo_step (v := (.i .i64 x34)) (s_pure (p_bin g20 rfl (b_add.trans (ci e34)))) ?_
            refine wo_step (v := (.i .i64 x34)) (s_pure (p_mv rfl)) ?_
            refine wo_nil ?_
            cases hr
            exact ⟨_, _, rfl, rfl, rfl, gl rfl, gl g1, gl g2, gl g18, gl g19⟩
        · refine w_condF rfl ?_
          refine w_exit ?_
          refine nx_exit ?_
          cases hr
          exact ⟨_, _, rfl, ne_norm_exit, rfl, rfl⟩
      · rcases o_1 with o_1 | o_1
        · obtain ⟨m_6, ho⟩ : ∃ z, z = o_1 := ⟨_, rfl⟩
          subst ho
          rintro _ mm_1 t_3 ⟨rfl, rfl⟩
          refine bk_hit ?_
          refine nx_norm ?_
          refine w_seq ?_
          refine w_ops ?_
          refine wo_step (v := (.b true)) (s_pure (p_mv rfl)) ?_
          refine wo_nil ?_
          refine nx_norm ?_
          refine w_ret ?_
          exact qf ret_ok (rt rfl rn) hr
        · obtain ⟨c4, m_7⟩ := o_1
          rintro _ mm_2 t_4 ⟨rfl, rfl, g4⟩
          refine bk_ret ?_
          refine nx_ret ?_
          exact qf ret_ok (rt g4 rn) hr

/- (dibber/turn.demands).hasHours -/
abbrev g52_J0 (v1 : AVal) (v2 : AVal) (o : Bool × Mm) (m1 : Mm) (t1 : Tr) : Prop :=
  match o with
  | (c14, m_3) => m_3 = m1 ∧ t1.get 14 = (.b c14) ∧ t1.get 1 = v1 ∧ t1.get 2 = v2
abbrev g52_J1  (o : Bool × Mm) (m1 : Mm) (t1 : Tr) : Prop :=
  match o with
  | (c21, m_5) => m_5 = m1 ∧ t1.get 21 = (.b c21)
def g52 (M : Means) (ro : List ABlk) (v0 : AVal) (v1 : AVal) (m0 : Mm) : Option (AVal × Heap × Nat × Nat) :=
  bindP (stepM ro m0 (.bx 55 3 (.c v0))) fun v2 m_1 =>
  bindO (some (Mm.base m_1)) fun m_2 =>
  bindO (evP .e (.len false (.c v1))) fun v6 =>
  asI .i64 v6 fun x6 =>
  bindO (evP .e (.faddr 1 (.c v2))) fun v7 =>
  bindO (ldM ro m_2 true 1 v7) fun v8 =>
  asI .i64 v8 fun x8 =>
  forceB (eqI x6 x8) fun c9 =>
  bindO (cond c9 (
    bindP (callM M.call m_2 72 [v1]) fun v12 m_4 =>
    asI .i64 v12 fun x12 =>
    chk (!Nat.blt m_4.lw m_1.h.length) <|
    forceB (!ltI x12 0) fun c13 =>
    some (c13, m_4)) (
    some (false, m_2))) fun ⟨c14, m_3⟩ =>
  bindO (cond c14 (
    bindP (callM M.call m_3 73 [v1]) fun v17 m_6 =>
    asI .i64 v17 fun x17 =>
    chk (!Nat.blt m_6.lw m_1.h.length) <|
    bindO (evP .e (.faddr 0 (.c v2))) fun v18 =>
    bindO (ldA ro m_1.h true 1 v18) fun v19 =>
    asI .i64 v19 fun x19 =>
    forceB (ltI x17 x19) fun c20 =>
    some (c20, m_6)) (
    some (false, m_3))) fun ⟨c21, m_5⟩ =>
  bindO (some (Mm.join m_1 m_5)) fun m_7 =>
  finM m0.h.length (tupA [(.b c21)]) m_7

theorem g52_ok {ro : List ABlk} {O : Caller} {M : Means} (hM : M.Ok ⟨F, O⟩ ro) {v0 v1 h r} (ho : O 52 [v0, v1] h = none) (hr : g52 M ro v0 v1 ⟨h, h.length, h.length⟩ = some r) : callX ⟨F, O⟩ ro 52 [v0, v1] h = some r := by
  refine callX_of (F := ⟨F, O⟩) (fn := fn52) (g := g52 M ro v0 v1) ho rfl rfl hr ?_
  clear ho
  clear hr
  intro m0 t0 ht hr
  have g0 : t0.get 0 = v0 := ht 0
  have g1 : t0.get 1 = v1 := ht 1
  clear ht
  unfold g52 at hr
  refine w_seq ?_
  refine w_ops ?_
  have hq := bindP_inv hr
  clear hr
  obtain ⟨v2, m_1, e2, hr⟩ := hq
  refine wo_step (v := v2) (s_bx g0 e2) ?_
  refine wo_step (v := (.b false)) (s_pure (p_mv rfl)) ?_
  refine wo_nil ?_
  refine nx_norm ?_
  refine w_seq ?_
  have hq := bindO_inv hr
  clear hr
  obtain ⟨m_2, ef, hr⟩ := hq
  refine w_flt (af := true) rfl ef ?_
  refine wf_step (v := v1) (f_P rfl (s_pure (p_mv g1))) ?_
  have hq := bindO_inv hr
  clear hr
  obtain ⟨v6, e6, hr⟩ := hq
  have hq := asI_inv hr
  clear hr
  obtain ⟨x6, rfl, hr⟩ := hq
  refine wf_step (v := (.i .i64 x6)) (f_P rfl (s_pure (o_len rfl e6))) ?_
  have hq := bindO_inv hr
  clear hr
  obtain ⟨v7, e7, hr⟩ := hq
  refine wf_step (v := v7) (f_P rfl (s_pure (o_faddr rfl e7))) ?_
  have hq := bindO_inv hr
  clear hr
  obtain ⟨v8, e8, hr⟩ := hq
  have hq := asI_inv hr
  clear hr
  obtain ⟨x8, rfl, hr⟩ := hq
  refine wf_step (v := (.i .i64 x8)) (f_P rfl (s_ld rfl e8)) ?_
  have hq := forceB_inv hr
  clear hr
  obtain ⟨c9, e9, hr⟩ := hq
  refine wf_step (v := (.b c9)) (f_P rfl (s_pure (p_bin rfl rfl (b_eql.trans (cb e9))))) ?_
  refine wf_step (v := (.b c9)) (f_P rfl (s_pure (p_mv rfl))) ?_
  have hq := bindO_inv hr
  clear hr
  obtain ⟨o, hr, hk⟩ := hq
  refine wf_join 4 (g52_J0 v1 v2 o) ?_ ?_
  · clear hk
    have hq := cond_inv hr
    clear hr
    rcases hq with ⟨rfl, hr⟩ | ⟨rfl, hr⟩
    · refine wf_take (v := v1) rfl (f_P rfl (s_pure (p_mv g1))) ?_
      have hq := bindP_inv hr
      clear hr
      obtain ⟨v12, m_4, e12, hr⟩ := hq
      have hq := asI_inv hr
      clear hr
      obtain ⟨x12, rfl, hr⟩ := hq
      have hq := chk_inv hr
      clear hr
      obtain ⟨hc12, hr⟩ := hq
      refine wf_take (v := (.i .i64 x12)) rfl (f_M hc12 (s_call (mc rfl mn) (callM_le hM.call e12))) ?_
      have hq := forceB_inv hr
      clear hr
      obtain ⟨c13, e13, hr⟩ := hq
      refine wf_take (v := (.b c13)) rfl (f_P rfl (s_pure (p_bin rfl rfl (b_geq.trans (cb e13))))) ?_
      refine wf_step (v := (.b c13)) (f_P rfl (s_pure (p_pickT rfl rfl))) ?_
      refine wf_nil ?_
      cases hr
      exact ⟨_, _, rfl, rfl, gl rfl, gl g1, gl rfl⟩
    · refine wf_skip (v := (.b false)) rfl rfl ?_
      refine wf_skip (v := (.b false)) rfl rfl ?_
      refine wf_skip (v := (.b false)) rfl rfl ?_
      refine wf_step (v := (.b false)) (f_P rfl (s_pure (p_pickF rfl rfl))) ?_
      refine wf_nil ?_
      cases hr
      exact ⟨_, _, rfl, rfl, gl rfl, gl g1, gl rfl⟩
  · clear hr
    have hr := hk
    clear hk
    obtain ⟨c14, m_3⟩ := o
    rintro mm t_1 ⟨rfl, g14, g1, g2⟩
    refine wf_step (v := (.b c14)) (f_P rfl (s_pure (p_mv g14))) ?_
    have hq := bindO_inv hr
    clear hr
    obtain ⟨o_1, hr, hk⟩ := hq
    refine wf_join 6 (g52_J1  o_1) ?_ ?_
    · clear hk
      have hq := cond_inv hr
      clear hr
      rcases hq with ⟨rfl, hr⟩ | ⟨rfl, hr⟩
      · refine wf_take (v := v1) rfl (f_P rfl (s_pure (p_mv g1))) ?_
        have hq := bindP_inv hr
        clear hr
        obtain ⟨v17, m_6, e17, hr⟩ := hq
        have hq := asI_inv hr
        clear hr
        obtain ⟨x17, rfl, hr⟩ := hq
        have hq := chk_inv hr
        clear hr
        obtain ⟨hc17, hr⟩ := hq
        refine wf_take (v := (.i .i64 x17)) rfl (f_M hc17 (s_call (mc rfl mn) (callM_le hM.call e17))) ?_
        have hq := bindO_inv hr
        clear hr
        obtain ⟨v18, e18, hr⟩ := hq
        refine wf_take (v := v18) rfl (f_P rfl (s_pure (o_faddr g2 e18))) ?_
        have hq := bindO_inv hr
        clear hr
        obtain ⟨v19, e19, hr⟩ := hq
        have hq := asI_inv hr
        clear hr
        obtain ⟨x19, rfl, hr⟩ := hq
        refine wf_take (v := (.i .i64 x19)) rfl (f_ld rfl e19) ?_
        have hq := forceB_inv hr
        clear hr
        obtain ⟨c20, e20, hr⟩ := hq
        refine wf_take (v := (.b c20)) rfl (f_P rfl (s_pure (p_bin rfl rfl (b_lss.trans (cb e20))))) ?_
        refine wf_step (v := (.b c20)) (f_P rfl (s_pure (p_pickT rfl rfl))) ?_
        refine wf_nil ?_
        cases hr
        exact ⟨_, _, rfl, rfl, gl rfl⟩
      · refine wf_skip (v := (.b false)) rfl rfl ?_
        refine wf_skip (v := (.b false)) rfl rfl ?_
        refine wf_skip (v := (.b false)) rfl rfl ?_
        refine wf_skip (v := (.b false)) rfl rfl ?_
        refine wf_skip (v := (.b false)) rfl rfl ?_
        refine wf_step (v := (.b false)) (f_P rfl (s_pure (p_pickF rfl rfl))) ?_
        refine wf_nil ?_
        cases hr
        exact ⟨_, _, rfl, rfl, gl rfl⟩
    · clear hr
      have hr := hk
      clear hk
      obtain ⟨c21, m_5⟩ := o_1
      rintro mm_1 t_2 ⟨rfl, g21⟩
      refine wf_step (v := (.b c21)) (f_P rfl (s_pure (p_mv g21))) ?_
      have hq := bindO_inv hr
      clear hr
      obtain ⟨m_7, ef_1, hr⟩ := hq
      refine wf_end ef_1 ?_
      refine nx_norm ?_
      refine w_ret ?_
      exact qf ret_ok (rt rfl rn) hr

/- (dibber/turn.demands).allows -/
abbrev g60_J0 (v2 : AVal) (v3 : AVal) (m_2 : Mm) (o : Bool) (m1 : Mm) (t1 : Tr) : Prop :=
  match o with
  | c17 => m_2 = m1 ∧ t1.get 17 = (.b c17) ∧ t1.get 2 = v2 ∧ t1.get 3 = v3
abbrev g60_J1 (v2 : AVal) (v3 : AVal) (m_2 : Mm) (o : Bool) (m1 : Mm) (t1 : Tr) : Prop :=
  match o with
  | c27 => m_2 = m1 ∧ t1.get 27 = (.b c27) ∧ t1.get 2 = v2 ∧ t1.get 3 = v3
abbrev g60_J2 (v2 : AVal) (v3 : AVal) (m_2 : Mm) (o : Bool) (m1 : Mm) (t1 : Tr) : Prop :=
  match o with
  | c35 => m_2 = m1 ∧ t1.get 35 = (.b c35) ∧ t1.get 2 = v2 ∧ t1.get 3 = v3
abbrev g60_J3 (m_2 : Mm) (o : Bool) (m1 : Mm) (t1 : Tr) : Prop :=
  match o with
  | c51 => m_2 = m1 ∧ t1.get 51 = (.b c51)
def g60 (M : Means) (ro : List ABlk) (v0 : AVal) (v1 : AVal) (m0 : Mm) : Option (AVal × Heap × Nat × Nat) :=
  bindP (stepM ro m0 (.bx 55 3 (.c v0))) fun v2 m_1 =>
  bindP (stepM ro m_1 (.bx 31 4 (.c v1))) fun v3 m_2 =>
  bindO (evP .e (.faddr 0 (.c v3))) fun v5 =>
  bindO (ldM ro m_2 true 1 v5) fun v6 =>
  asI .i64 v6 fun x6 =>
  bindO (evP .e (.faddr 1 (.c v3))) fun v7 =>
  bindO (ldM ro m_2 true 1 v7) fun v8 =>
  asI .i64 v8 fun x8 =>
  forceB (eqI x6 x8) fun c9 =>
  bindO (cond c9 (
    some true) (
    bindO (evP .e (.faddr 0 (.c v3))) fun v11 =>
    bindO (ldM ro m_2 true 1 v11) fun v12 =>
    asI .i64 v12 fun x12 =>
    bindO (evP .e (.faddr 1 (.c v3))) fun v13 =>
    bindO (ldM ro m_2 true 1 v13) fun v14 =>
    asI .i64 v14 fun x14 =>
    forceI (mxV false x12 x14) fun x15 =>
    forceB (ltI x15 0) fun c16 =>
    some c16)) fun c17 =>
  bindO (cond c17 (
    some true) (
    bindO (evP .e (.faddr 0 (.c v3))) fun v19 =>
    bindO (ldM ro m_2 true 1 v19) fun v20 =>
    asI .i64 v20 fun x20 =>
    bindO (evP .e (.faddr 1 (.c v3))) fun v21 =>
    bindO (ldM ro m_2 true 1 v21) fun v22 =>
    asI .i64 v22 fun x22 =>
    forceI (mxV true x20 x22) fun x23 =>
    bindO (evP .e (.faddr 1 (.c v2))) fun v24 =>
    bindO (ldM ro m_2 true 1 v24) fun v25 =>
    asI .i64 v25 fun x25 =>
    forceB (!ltI x23 x25) fun c26 =>
    some c26)) fun c27 =>
  cond c27 (
    finM m0.h.length (tupA [(.b false)]) m_2) (
    bindO (evP .e (.faddr 2 (.c v3))) fun v28 =>
    bindO (ldM ro m_2 true 1 v28) fun v29 =>
    asI .i64 v29 fun x29 =>
    forceB (ltI x29 (-600)) fun c30 =>
    bindO (cond c30 (
      some true) (
      bindO (evP .e (.faddr 2 (.c v3))) fun v32 =>
      bindO (ldM ro m_2 true 1 v32) fun v33 =>
      asI .i64 v33 fun x33 =>
      forceB (ltI 600 x33) fun c34 =>
      some c34)) fun c35 =>
    cond c35 (
      finM m0.h.length (tupA [(.b false)]) m_2) (
      bindO (evP .e (.faddr 3 (.c v3))) fun v36 =>
      bindO (ldM ro m_2 true 1 v36) fun v37 =>
      asI .i64 v37 fun x37 =>
      bindO (evP .e (.faddr 2 (.c v3))) fun v38 =>
      bindO (ldM ro m_2 true 1 v38) fun v39 =>
      asI .i64 v39 fun x39 =>
      forceB (!ltI x37 x39) fun c40 =>
      bindO (cond c40 (
        bindO (evP .e (.faddr 3 (.c v3))) fun v42 =>
        bindO (ldM ro m_2 true 1 v42) fun v43 =>
        asI .i64 v43 fun x43 =>
        bindO (evP .e (.faddr 2 (.c v3))) fun v44 =>
        bindO (ldM ro m_2 true 1 v44) fun v45 =>
        asI .i64 v45 fun x45 =>
        bindO (evP .e (.faddr 0 (.c v2))) fun v46 =>
        bindO (ldM ro m_2 true 1 v46) fun v47 =>
        asI .i64 v47 fun x47 =>
        forceI (wr .i64 (x45 + x47)) fun x48 =>
        forceI (wr .i64 (x48 - 1)) fun x49 =>
        forceB (!ltI x49 x43) fun c50 =>
        some c50) (
        some false)) fun c51 =>
      finM m0.h.length (tupA [(.b c51)]) m_2))

theorem g60_ok {ro : List ABlk} {O : Caller} {M : Means} (hM : M.Ok ⟨F, O⟩ ro) {v0 v1 h r} (ho : O 60 [v0, v1] h = none) (hr : g60 M ro v0 v1 ⟨h, h.length, h.length⟩ = some r) : callX ⟨F, O⟩ ro 60 [v0, v1] h = some r := by
  refine callX_of (F := ⟨F, O⟩) (fn := fn60) (g := g60 M ro v0 v1) ho rfl rfl hr ?_
  clear ho
  clear hr
  intro m0 t0 ht hr
  have g0 : t0.get 0 = v0 := ht 0
  have g1 : t0.get 1 = v1 := ht 1
  clear ht
  unfold g60 at hr
  refine w_seq ?_
  refine w_ops ?_
  have hq := bindP_inv hr
  clear hr
  obtain ⟨v2, m_1, e2, hr⟩ := hq
  refine wo_step (v := v2) (s_bx g0 e2) ?_
  have hq := bindP_inv hr
  clear hr
  obtain ⟨v3, m_2, e3, hr⟩ := hq
  refine wo_step (v := v3) (s_bx g1 e3) ?_
  refine wo_step (v := (.b false)) (s_pure (p_mv rfl)) ?_
  refine wo_nil ?_
  refine nx_norm ?_
  refine w_seq ?_
  refine w_seq ?_
  refine w_ops ?_
  have hq := bindO_inv hr
  clear hr
  obtain ⟨v5, e5, hr⟩ := hq
  refine wo_step (v := v5) (s_pure (o_faddr rfl e5)) ?_
  have hq := bindO_inv hr
  clear hr
  obtain ⟨v6, e6, hr⟩ := hq
  have hq := asI_inv hr
  clear hr
  obtain ⟨x6, rfl, hr⟩ := hq
  refine wo_step (v := (.i .i64 x6)) (s_ld rfl e6) ?_
  have hq := bindO_inv hr
  clear hr
  obtain ⟨v7, e7, hr⟩ := hq
  refine wo_step (v := v7) (s_pure (o_faddr rfl e7)) ?_
  have hq := bindO_inv hr
  clear hr
  obtain ⟨v8, e8, hr⟩ := hq
  have hq := asI_inv hr
  clear hr
  obtain ⟨x8, rfl, hr⟩ := hq
  refine wo_step (v := (.i .i64 x8)) (s_ld rfl e8) ?_
  have hq := forceB_inv hr
  clear hr
  obtain ⟨c9, e9, hr⟩ := hq
  refine wo_step (v := (.b c9)) (s_pure (p_bin rfl rfl (b_eql.trans (cb e9)))) ?_
  refine wo_step (v := (.b c9)) (s_pure (p_mv rfl)) ?_
  have hq := bindO_inv hr
  clear hr
  obtain ⟨o, hr, hk⟩ := hq
  refine wo_join 7 (g60_J0 v2 v3 m_2 o) ?_ ?_
  · clear hk
    have hq := cond_inv hr
    clear hr
    rcases hq with ⟨rfl, hr⟩ | ⟨rfl, hr⟩
    · refine wo_skip (v := (.b true)) rfl rfl ?_
      refine wo_skip (v := (.b true)) rfl rfl ?_
      refine wo_skip (v := (.b true)) rfl rfl ?_
      refine wo_skip (v := (.b true)) rfl rfl ?_
      refine wo_skip (v := (.b true)) rfl rfl ?_
      refine wo_skip (v := (.b true)) rfl rfl ?_
      refine wo_step (v := (.b true)) (s_pure (p_pickT rfl rfl)) ?_
      refine wo_nil ?_
      cases hr
      exact ⟨_, _, rfl, rfl, gl rfl, gl rfl, gl rfl⟩
    · have hq := bindO_inv hr
      clear hr
      obtain ⟨v11, e11, hr⟩ := hq
      refine wo_take (v := v11) rfl (s_pure (o_faddr rfl e11)) ?_
      have hq := bindO_inv hr
      clear hr
      obtain ⟨v12, e12, hr⟩ := hq
      have hq := asI_inv hr
      clear hr
      obtain ⟨x12, rfl, hr⟩ := hq
      refine wo_take (v := (.i .i64 x12)) rfl (s_ld rfl e12) ?_
      have hq := bindO_inv hr
      clear hr
      obtain ⟨v13, e13, hr⟩ := hq
      refine wo_take (v := v13) rfl (s_pure (o_faddr rfl e13)) ?_
      have hq := bindO_inv hr
      clear hr
      obtain ⟨v14, e14, hr⟩ := hq
      have hq := asI_inv hr
      clear hr
      obtain ⟨x14, rfl, hr⟩ := hq
      refine wo_take (v := (.i .i64 x14)) rfl (s_ld rfl e14) ?_
      have hq := forceI_inv hr
      clear hr
      obtain ⟨x15, e15, hr⟩ := hq
      refine wo_take (v := (.i .i64 x15)) rfl (s_pure ((p_mx rfl rfl).trans (ci e15))) ?_
      have hq := forceB_inv hr
      clear hr
      obtain ⟨c16, e16, hr⟩ := hq
      refine wo_take (v := (.b c16)) rfl (s_pure (p_bin rfl rfl (b_lss.trans (cb e16)))) ?_
      refine wo_step (v := (.b c16)) (s_pure (p_pickF rfl rfl)) ?_
      refine wo_nil ?_
      cases hr
      exact ⟨_, _, rfl, rfl, gl rfl, gl rfl, gl rfl⟩
  · clear hr
    have hr := hk
    clear hk
    obtain ⟨c17, ho⟩ : ∃ z, z = o := ⟨_, rfl⟩
    subst ho
    rintro mm t_1 ⟨rfl, g17, g2, g3⟩
    refine wo_step (v := (.b c17)) (s_pure (p_mv g17)) ?_
    have hq := bindO_inv hr
    clear hr
    obtain ⟨o_1, hr, hk⟩ := hq
    refine wo_join 9 (g60_J1 v2 v3 m_2 o_1) ?_ ?_
    · clear hk
      have hq := cond_inv hr
      clear hr
      rcases hq with ⟨rfl, hr⟩ | ⟨rfl, hr⟩
      · refine wo_skip (v := (.b true)) rfl rfl ?_
        refine wo_skip (v := (.b true)) rfl rfl ?_
        refine wo_skip (v := (.b true)) rfl rfl ?_
        refine wo_skip (v := (.b true)) rfl rfl ?_
        refine wo_skip (v := (.b true)) rfl rfl ?_
        refine wo_skip (v := (.b true)) rfl rfl ?_
        refine wo_skip (v := (.b true)) rfl rfl ?_
        refine wo_skip (v := (.b true)) rfl rfl ?_
        refine wo_step (v := (.b true)) (s_pure (p_pickT rfl rfl)) ?_
        refine wo_nil ?_
        cases hr
        exact ⟨_, _, rfl, rfl, gl rfl, gl g2, gl g3⟩
      · have hq := bindO_inv hr
        clear hr
        obtain ⟨v19, e19, hr⟩ := hq
        refine wo_take (v := v19) rfl (s_pure (o_faddr g3 e19)) ?_
        have hq := bindO_inv hr
        clear hr
        obtain ⟨v20, e20, hr⟩ := hq
        have hq := asI_inv hr
        clear hr
        obtain ⟨x20, rfl, hr⟩ := hq
        refine wo_take (v := (.i .i64 x20)) rfl (s_ld rfl e20) ?_
        have hq := bindO_inv hr
        clear hr
        obtain ⟨v21, e21, hr⟩ := hq
        refine wo_take (v := v21) rfl (s_pure (o_faddr g3 e21)) ?_
        have hq := bindO_inv hr
        clear hr
        obtain ⟨v22, e22, hr⟩ := hq
        have hq := asI_inv hr
        clear hr
        obtain ⟨x22, rfl, hr⟩ := hq
        refine wo_take (v := (.i .i64 x22)) rfl (s_ld rfl e22) ?_
        have hq := forceI_inv hr
        clear hr
        obtain ⟨x23, e23, hr⟩ := hq
        refine wo_take (v := (.i .i64 x23)) rfl (s_pure ((p_mx rfl rfl).trans (ci e23))) ?_
        have hq := bindO_inv hr
        clear hr
        obtain ⟨v24, e24, hr⟩ := hq
        refine wo_take (v := v24) rfl (s_pure (o_faddr g2 e24)) ?_
        have hq := bindO_inv hr
        clear hr
        obtain ⟨v25, e25, hr⟩ := hq
        have hq := asI_inv hr
        clear hr
        obtain ⟨x25, rfl, hr⟩ := hq
        refine wo_take (v := (.i .i64 x25)) rfl (s_ld rfl e25) ?_
        have hq := forceB_inv hr
        clear hr
        obtain ⟨c26, e26, hr⟩ := hq
        refine wo_take (v := (.b c26)) rfl (s_pure (p_bin rfl rfl (b_geq.trans (cb e26)))) ?_
        refine wo_step (v := (.b c26)) (s_pure (p_pickF rfl rfl)) ?_
        refine wo_nil ?_
        cases hr
        exact ⟨_, _, rfl, rfl, gl rfl, gl g2, gl g3⟩
    · clear hr
      have hr := hk
      clear hk
      obtain ⟨c27, ho⟩ : ∃ z, z = o_1 := ⟨_, rfl⟩
      subst ho
      rintro mm_1 t_2 ⟨rfl, g27, g2, g3⟩
      refine wo_nil ?_
      refine nx_norm ?_
      have hq := cond_inv hr
      clear hr
      rcases hq with ⟨rfl, hr⟩ | ⟨rfl, hr⟩
      · refine w_condT g27 ?_
        refine w_seq ?_
        refine w_ops ?_
        refine wo_step (v := (.b false)) (s_pure (p_mv rfl)) ?_
        refine wo_nil ?_
        refine nx_norm ?_
        refine w_ret ?_
        refine nx_ret ?_
        exact qf ret_ok (rt rfl rn) hr
      · refine w_condF g27 ?_
        refine w_skip ?_
        refine nx_norm ?_
        refine w_seq ?_
        refine w_seq ?_
        refine w_ops ?_
        have hq := bindO_inv hr
        clear hr
        obtain ⟨v28, e28, hr⟩ := hq
        refine wo_step (v := v28) (s_pure (o_faddr g3 e28)) ?_
        have hq := bindO_inv hr
        clear hr
        obtain ⟨v29, e29, hr⟩ := hq
        have hq := asI_inv hr
        clear hr
        obtain ⟨x29, rfl, hr⟩ := hq
        refine wo_step (v := (.i .i64 x29)) (s_ld rfl e29) ?_
        have hq := forceB_inv hr
        clear hr
        obtain ⟨c30, e30, hr⟩ := hq
        refine wo_step (v := (.b c30)) (s_pure (p_bin rfl rfl (b_lss.trans (cb e30)))) ?_
        refine wo_step (v := (.b c30)) (s_pure (p_mv rfl)) ?_
        have hq := bindO_inv hr
        clear hr
        obtain ⟨o_2, hr, hk⟩ := hq
        refine wo_join 4 (g60_J2 v2 v3 m_2 o_2) ?_ ?_
        · clear hk
          have hq := cond_inv hr
          clear hr
          rcases hq with ⟨rfl, hr⟩ | ⟨rfl, hr⟩
          · refine wo_skip (v := (.b true)) rfl rfl ?_
            refine wo_skip (v := (.b true)) rfl rfl ?_
            refine wo_skip (v := (.b true)) rfl rfl ?_
            refine wo_step (v := (.b true)) (s_pure (p_pickT rfl rfl)) ?_
            refine wo_nil ?_
            cases hr
            exact ⟨_, _, rfl, rfl, gl rfl, gl g2, gl g3⟩
          · have hq := bindO_inv hr
            clear hr
            obtain ⟨v32, e32, hr⟩ := hq
            refine wo_take (v := v32) rfl (s_pure (o_faddr g3 e32)) ?_
            have hq := bindO_inv hr
            clear hr
            obtain ⟨v33, e33, hr⟩ := hq
            have hq := asI_inv hr
            clear hr
            obtain ⟨x33, rfl, hr⟩ := hq
            refine wo_take (v := (.i .i64 x33)) rfl (s_ld rfl e33) ?_
            have hq := forceB_inv hr
            clear hr
            obtain ⟨c34, e34, hr⟩ := hq
            refine wo_take (v := (.b c34)) rfl (s_pure (p_bin rfl rfl (b_gtr.trans (cb e34)))) ?_
            refine wo_step (v := (.b c34)) (s_pure (p_pickF rfl rfl)) ?_
            refine wo_nil ?_
            cases hr
            exact ⟨_, _, rfl, rfl, gl rfl, gl g2, gl g3⟩
        · clear hr
          have hr := hk
          clear hk
          obtain ⟨c35, ho⟩ : ∃ z, z = o_2 := ⟨_, rfl⟩
          subst ho
          rintro mm_2 t_3 ⟨rfl, g35, g2, g3⟩
          refine wo_nil ?_
          refine nx_norm ?_
          have hq := cond_inv hr
          clear hr
          rcases hq with ⟨rfl, hr⟩ | ⟨rfl, hr⟩
          · refine w_condT g35 ?_
            refine w_seq ?_
            refine w_ops ?_
            refine wo_step (v := (.b false)) (s_pure (p_mv rfl)) ?_
            refine wo_nil ?_
            refine nx_norm ?_
            refine w_ret ?_
            refine nx_ret ?_
            exact qf ret_ok (rt rfl rn) hr
          · refine w_condF g35 ?_
            refine w_skip ?_
            refine nx_norm ?_
            refine w_seq ?_
            refine w_ops ?_
            have hq := bindO_inv hr
            clear hr
            obtain ⟨v36, e36, hr⟩ := hq
            refine wo_step (v := v36) (s_pure (o_faddr g3 e36)) ?_
            have hq := bindO_inv hr
            clear hr
            obtain ⟨v37, e37, hr⟩ := hq
            have hq := asI_inv hr
            clear hr
            obtain ⟨x37, rfl, hr⟩ := hq
            refine wo_step (v := (.i .i64 x37)) (s_ld rfl e37) ?_
            have hq := bindO_inv hr
            clear hr
            obtain ⟨v38, e38, hr⟩ := hq
            refine wo_step (v := v38) (s_pure (o_faddr g3 e38)) ?_
            have hq := bindO_inv hr
            clear hr
            obtain ⟨v39, e39, hr⟩ := hq
            have hq := asI_inv hr
            clear hr
            obtain ⟨x39, rfl, hr⟩ := hq
            refine wo_step (v := (.i .i64 x39)) (s_ld rfl e39) ?_
            have hq := forceB_inv hr
            clear hr
            obtain ⟨c40, e40, hr⟩ := hq
            refine wo_step (v := (.b c40)) (s_pure (p_bin rfl rfl (b_geq.trans (cb e40)))) ?_
            refine wo_step (v := (.b c40)) (s_pure (p_mv rfl)) ?_
            have hq := bindO_inv hr
            clear hr
            obtain ⟨o_3, hr, hk⟩ := hq
            refine wo_join 10 (g60_J3 m_2 o_3) ?_ ?_
            · clear hk
              have hq := cond_inv hr
              clear hr
              rcases hq with ⟨rfl, hr⟩ | ⟨rfl, hr⟩
              · have hq := bindO_inv hr
                clear hr
                obtain ⟨v42, e42, hr⟩ := hq
                refine wo_take (v := v42) rfl (s_pure (o_faddr g3 e42)) ?_
                have hq := bindO_inv hr
                clear hr
                obtain ⟨v43, e43, hr⟩ := hq
                have hq := asI_inv hr
                clear hr
                obtain ⟨x43, rfl, hr⟩ := hq
                refine wo_take (v := (.i .i64 x43)) rfl (s_ld rfl e43) ?_
                have hq := bindO_inv hr
                clear hr
                obtain ⟨v44, e44, hr⟩ := hq
                refine wo_take (v := v44) rfl (s_pure (o_faddr g3 e44)) ?_
                have hq := bindO_inv hr
                clear hr
                obtain ⟨v45, e45, hr⟩ := hq
                have hq := asI_inv hr
                clear hr
                obtain ⟨x45, rfl, hr⟩ := hq
                refine wo_take (v := (.i .i64 x45)) rfl (s_ld rfl e45) ?_
                have hq := bindO_inv hr
                clear hr
                obtain ⟨v46, e46, hr⟩ := hq
                refine wo_take (v := v46) rfl (s_pure (o_faddr g2 e46)) ?_
                have hq := bindO_inv hr
                clear hr
                obtain ⟨v47, e47, hr⟩ := hq
                have hq := asI_inv hr
                clear hr
                obtain ⟨x47, rfl, hr⟩ := hq
                refine wo_take (v := (.i .i64 x47)) rfl (s_ld rfl e47) ?_
                have hq := forceI_inv hr
                clear hr
                obtain ⟨x48, e48, hr⟩ := hq
                refine wo_take (v := (.i .i64 x48)) rfl (s_pure (p_bin rfl rfl (b_add.trans (ci e48)))) ?_
                have hq := forceI_inv hr
                clear hr
                obtain ⟨x49, e49, hr⟩ := hq
                refine wo_take (v := (.i .i64 x49)) rfl (s_pure (p_bin rfl rfl (b_sub.trans (ci e49)))) ?_
                have hq := forceB_inv hr
                clear hr
                obtain ⟨c50, e50, hr⟩ := hq
                refine wo_take (v := (.b c50)) rfl (s_pure (p_bin rfl rfl (b_leq.trans (cb e50)))) ?_
                refine wo_step (v := (.b c50)) (s_pure (p_pickT rfl rfl)) ?_
                refine wo_nil ?_
                cases hr
                exact ⟨_, _, rfl, rfl, gl rfl⟩
              · refine wo_skip (v := (.b false)) rfl rfl ?_
                refine wo_skip (v := (.b false)) rfl rfl ?_
                refine wo_skip (v := (.b false)) rfl rfl ?_
                refine wo_skip (v := (.b false)) rfl rfl ?_
                refine wo_skip (v := (.b false)) rfl rfl ?_
                refine wo_skip (v := (.b false)) rfl rfl ?_
                refine wo_skip (v := (.b false)) rfl rfl ?_
                refine wo_skip (v := (.b false)) rfl rfl ?_
                refine wo_skip (v := (.b false)) rfl rfl ?_
                refine wo_step (v := (.b false)) (s_pure (p_pickF rfl rfl)) ?_
                refine wo_nil ?_
                cases hr
                exact ⟨_, _, rfl, rfl, gl rfl⟩
            · clear hr
              have hr := hk
              clear hk
              obtain ⟨c51, ho⟩ : ∃ z, z = o_3 := ⟨_, rfl⟩
              subst ho
              rintro mm_3 t_4 ⟨rfl, g51⟩
              refine wo_step (v := (.b c51)) (s_pure (p_mv g51)) ?_
              refine wo_nil ?_
              refine nx_norm ?_
              refine w_ret ?_
              exact qf ret_ok (rt rfl rn) hr

/- (dibber/turn.demands).plans-1 -/
abbrev g61_I0 (v0 : AVal) (v1 : AVal) (v3 : AVal) (v11 : AVal) (v14 : AVal) (s : Int × Mm) (m1 : Mm) (t1 : Tr) : Prop :=
  match s with
  | (x6, m_7) => m_7 = m1 ∧ t1.get 6 = (.i .i64 x6) ∧ t1.get 0 = v0 ∧ t1.get 1 = v1 ∧ t1.get 3 = v3 ∧ t1.get 4 = v11 ∧ t1.get 5 = v14
abbrev g61_J0 (v0 : AVal) (v1 : AVal) (v3 : AVal) (v11 : AVal) (v14 : AVal) (o : (Mm ⊕ Mm)) (e : AExit) (m1 : Mm) (t1 : Tr) : Prop :=
  match o with
  | (.inl mo) => e = (.exit 0) ∧ mo = m1
  | (.inr mo) => e = .ret ∧ mo = m1
abbrev g61_J1 (v0 : AVal) (v1 : AVal) (v3 : AVal) (v11 : AVal) (v14 : AVal) (o : ((Int × Mm) ⊕ Mm)) (e : AExit) (m1 : Mm) (t1 : Tr) : Prop :=
  match o with
  | (.inl (y6, mo)) => e = .norm ∧ mo = m1 ∧ t1.get 6 = (.i .i64 y6) ∧ t1.get 0 = v0 ∧ t1.get 1 = v1 ∧ t1.get 3 = v3 ∧ t1.get 4 = v11 ∧ t1.get 5 = v14
  | (.inr mo) => e = .ret ∧ mo = m1
abbrev g61_I2 (v0 : AVal) (v1 : AVal) (v3 : AVal) (v11 : AVal) (v14 : AVal) (s : Int × Mm) (m1 : Mm) (t1 : Tr) : Prop :=
  match s with
  | (x6_1, m_8) => m_8 = m1 ∧ t1.get 6 = (.i .i64 x6_1) ∧ t1.get 0 = v0 ∧ t1.get 1 = v1 ∧ t1.get 3 = v3 ∧ t1.get 4 = v11 ∧ t1.get 5 = v14
abbrev g61_J2 (v0 : AVal) (v1 : AVal) (v3 : AVal) (v11 : AVal) (v14 : AVal) (o : ((Int × Mm) ⊕ ((Int × Mm) ⊕ Mm))) (e : AExit) (m1 : Mm) (t1 : Tr) : Prop :=
  match o with
  | (.inl (y6, mo)) => e = (.exit 1) ∧ mo = m1 ∧ t1.get 6 = (.i .i64 y6) ∧ t1.get 0 = v0 ∧ t1.get 1 = v1 ∧ t1.get 3 = v3 ∧ t1.get 4 = v11 ∧ t1.get 5 = v14
  | (.inr (.inl (y6, mo))) => e = (.exit 2) ∧ mo = m1 ∧ t1.get 6 = (.i .i64 y6) ∧ t1.get 0 = v0 ∧ t1.get 1 = v1 ∧ t1.get 3 = v3 ∧ t1.get 4 = v11 ∧ t1.get 5 = v14
  | (.inr (.inr mo)) => e = .ret ∧ mo = m1
def g61_b2 (M : Means) (ro : List ABlk) (v0 : AVal) (v1 : AVal) (v3 : AVal) (v11 : AVal) (v14 : AVal) (x6_1 : Int) (m_8 : Mm) : Option ((Int × Mm) ⊕ (((Int × Mm) ⊕ ((Int × Mm) ⊕ Mm)))) :=
  bindO (evP .e (.ixS 1 (.c v14) (.c (.i .i64 x6_1)))) fun v21 =>
  bindO (ldM ro m_8 true 1 v21) fun v22 =>
  asI .u32 v22 fun x22 =>
  forceB (!eqI x22 0) fun c23 =>
  cond c23 (
    bindO (evP .e (.ixS 1 (.c v14) (.c (.i .i64 x6_1)))) fun v28 =>
    bindO (ldM ro m_8 true 1 v28) fun v29 =>
    asI .u32 v29 fun x29 =>
    bindP (callM M.call m_8 63 [(.i .u32 x29)]) fun v30 m_9 =>
    asI .i64 v30 fun x30 =>
    bindO (evP .e (.ixS 1 (.c v11) (.c (.i .i64 x6_1)))) fun v31 =>
    bindP (stepM ro m_9 (.st 1 (.c v31) (.c (.i .i64 x30)))) fun vn_2 m_10 =>
    bindO (evP .e (.ixS 1 (.c v14) (.c (.i .i64 x6_1)))) fun v36 =>
    bindO (ldM ro m_10 true 1 v36) fun v37 =>
    asI .u32 v37 fun x37 =>
    bindP (callM M.call m_10 64 [(.i .u32 x37)]) fun v38 m_11 =>
    asI .u32 v38 fun x38 =>
    bindO (evP .e (.ixS 1 (.c v14) (.c (.i .i64 x6_1)))) fun v39 =>
    bindP (stepM ro m_11 (.st 1 (.c v39) (.c (.i .u32 x38)))) fun vn_3 m_12 =>
    forceI (wr .i64 (x6_1 + 1)) fun x41 =>
    bindO (evP .e (.faddr 1 (.c v1))) fun v42 =>
    bindO (ldM ro m_12 true 1 v42) fun v43 =>
    asI .i64 v43 fun x43 =>
    forceB (ltI x41 x43) fun c44 =>
    cond c44 (
      forceI (wr .i64 (x6_1 + 1)) fun x46 =>
      bindO (ldA ro m_12.h false 3 v1) fun v49 =>
      bindO (ldA ro m_12.h false 36 v3) fun v50 =>
      bindO (evP .e (.slS 1 (.c v11) none (some (.c (.i .i64 x46))) none)) fun v53 =>
      bindO (callN M.call m_12.h 65 [v49, v50, v53]) fun v54 =>
      asI .u32 v54 fun x54 =>
      bindO (evP .e (.ixS 1 (.c v14) (.c (.i .i64 x46)))) fun v55 =>
      asP v55 fun qs =>
      bindO (writesM ro [] [(qs, AVal.cells (.i .u32 x54))] ⟨m_12.h, m_12.lw, m_12.lp⟩) fun m_13 =>
      some (.inr (.inl (x46, m_13)))) (
      bindP (callyM M.call M.round m_12 v0 [v11]) fun v58 m_14 =>
      asB v58 fun c58 =>
      forceB (!c58) fun c59 =>
      cond c59 (
        some (.inr (.inr (.inr m_14)))) (
        some (.inl (x6_1, m_14))))) (
    some (.inr (.inr (.inl (x6_1, m_8)))))
def g61_b0 (M : Means) (ro : List ABlk) (v0 : AVal) (v1 : AVal) (v3 : AVal) (v11 : AVal) (v14 : AVal) (x6 : Int) (m_7 : Mm) : Option ((Int × Mm) ⊕ ((Mm ⊕ Mm))) :=
  forceB (!ltI x6 0) fun c18 =>
  cond c18 (
    bindO (α := ((Int × Mm) ⊕ Mm)) (
      bindO (M.loop (S := Int × Mm) (R := ((Int × Mm) ⊕ ((Int × Mm) ⊕ Mm))) (fun s => g61_b2 M ro v0 v1 v3 v11 v14 s.1 s.2) (x6, m_7)) fun o_1 => match o_1 with
      | (.inl (x6_2, m_15)) =>
        some (.inl (x6_2, m_15))
      | (.inr (.inl (x6_3, m_16))) =>
        forceI (wr .i64 (x6_3 - 1)) fun x61 =>
        some (.inl (x61, m_16))
      | (.inr (.inr m_17)) =>
        some (.inr m_17)) fun o => match o with
    | (.inl (x6_4, m_18)) =>
      some (.inl (x6_4, m_18))
    | (.inr m_19) =>
      some (.inr (.inr m_19))) (
    some (.inr (.inl m_7)))
def g61 (M : Means) (ro : List ABlk) (v0 : AVal) (v1 : AVal) (m0 : Mm) : Option (AVal × Heap × Nat × Nat) :=
  bindO (ldM ro m0 false 3 v1) fun v7 =>
  bindP (callM M.call m0 62 [v7]) fun v8 m_1 =>
  bindP (stepM ro m_1 (.al 84 [(AVal.i IntKind.u32 0), (AVal.i IntKind.u32 0), (AVal.i IntKind.u32 0), (AVal.i IntKind.u32 0), (AVal.i IntKind.u32 0), (AVal.i IntKind.u32 0), (AVal.i IntKind.u32 0), (AVal.i IntKind.u32 0), (AVal.i IntKind.u32 0), (AVal.i IntKind.u32 0), (AVal.i IntKind.u32 0), (AVal.i IntKind.u32 0), (AVal.i IntKind.u32 0), (AVal.i IntKind.u32 0), (AVal.i IntKind.u32 0), (AVal.i IntKind.u32 0), (AVal.i IntKind.u32 0), (AVal.i IntKind.u32 0), (AVal.i IntKind.u32 0), (AVal.i IntKind.u32 0), (AVal.i IntKind.u32 0), (AVal.i IntKind.u32 0), (AVal.i IntKind.u32 0), (AVal.i IntKind.u32 0), (AVal.i IntKind.u32 0), (AVal.i IntKind.u32 0), (AVal.i IntKind.u32 0), (AVal.i IntKind.u32 0), (AVal.i IntKind.u32 0), (AVal.i IntKind.u32 0), (AVal.i IntKind.u32 0), (AVal.i IntKind.u32 0), (AVal.i IntKind.u32 0), (AVal.i IntKind.u32 0), (AVal.i IntKind.u32 0), (AVal.i IntKind.u32 0)])) fun v3 m_2 =>
  bindP (stepM ro m_2 (.st 36 (.c v3) (.c v8))) fun vn m_3 =>
  bindO (evP .e (.faddr 1 (.c v1))) fun v9 =>
  bindO (ldM ro m_3 true 1 v9) fun v10 =>
  asI .i64 v10 fun x10 =>
  bindP (stepM ro m_3 (.mk 3 1 8 [(AVal.i IntKind.i64 0)] (.c (.i .i64 x10)) (.c (.i .i64 x10)))) fun v11 m_4 =>
  bindO (evP .e (.faddr 1 (.c v1))) fun v12 =>
  bindO (ldM ro m_4 true 1 v12) fun v13 =>
  asI .i64 v13 fun x13 =>
  bindP (stepM ro m_4 (.mk 81 1 4 [(AVal.i IntKind.u32 0)] (.c (.i .i64 x13)) (.c (.i .i64 x13)))) fun v14 m_5 =>
  bindO (evP .e (.ixS 1 (.c v14) (.c (.i .i64 0)))) fun v16 =>
  bindP (stepM ro m_5 (.st 1 (.c v16) (.c (.i .u32 1)))) fun vn_1 m_6 =>
  bindO (M.loop (S := Int × Mm) (R := (Mm ⊕ Mm)) (fun s => g61_b0 M ro v0 v1 v3 v11 v14 s.1 s.2) (0, m_6)) fun o_2 => match o_2 with
  | (.inl m_20) =>
    finM m0.h.length (tupA []) m_20
  | (.inr m_21) =>
    finM m0.h.length (tupA []) m_21

theorem g61_ok {ro : List ABlk} {O : Caller} {M : Means} (hM : M.Ok ⟨F, O⟩ ro) {v0 v1 h r} (ho : O 61 [v0, v1] h = none) (hr : g61 M ro v0 v1 ⟨h, h.length, h.length⟩ = some r) : callX ⟨F, O⟩ ro 61 [v0, v1] h = some r := by
  refine callX_of (F := ⟨F, O⟩) (fn := fn61) (g := g61 M ro v0 v1) ho rfl rfl hr ?_
  clear ho
  clear hr
  intro m0 t0 ht hr
  have g0 : t0.get 0 = v0 := ht 0
  have g1 : t0.get 1 = v1 := ht 1
  clear ht
  unfold g61 at hr
  refine w_seq ?_
  refine w_ops ?_
  have hq := bindO_inv hr
  clear hr
  obtain ⟨v7, e7, hr⟩ := hq
  refine wo_step (v := v7) (s_ld g1 e7) ?_
  have hq := bindP_inv hr
  clear hr
  obtain ⟨v8, m_1, e8, hr⟩ := hq
  refine wo_step (v := v8) (s_call (mc rfl mn) (callM_le hM.call e8)) ?_
  have hq := bindP_inv hr
  clear hr
  obtain ⟨v3, m_2, e3, hr⟩ := hq
  refine wo_step (v := v3) (s_al e3) ?_
  have hq := bindP_inv hr
  clear hr
  obtain ⟨vn, m_3, en, hr⟩ := hq
  refine wo_stepN (s_st rfl rfl en) ?_
  refine wo_nil ?_
  refine nx_norm ?_
  refine w_seq ?_
  refine w_ops ?_
  have hq := bindO_inv hr
  clear hr
  obtain ⟨v9, e9, hr⟩ := hq
  refine wo_step (v := v9) (s_pure (o_faddr g1 e9)) ?_
  have hq := bindO_inv hr
  clear hr
  obtain ⟨v10, e10, hr⟩ := hq
  have hq := asI_inv hr
  clear hr
  obtain ⟨x10, rfl, hr⟩ := hq
  refine wo_step (v := (.i .i64 x10)) (s_ld rfl e10) ?_
  have hq := bindP_inv hr
  clear hr
  obtain ⟨v11, m_4, e11, hr⟩ := hq
  refine wo_step (v := v11) (s_mk rfl rfl e11) ?_
  refine wo_step (v := v11) (s_pure (p_mv rfl)) ?_
  refine wo_nil ?_
  refine nx_norm ?_
  refine w_seq ?_
  refine w_ops ?_
  have hq := bindO_inv hr
  clear hr
  obtain ⟨v12, e12, hr⟩ := hq
  refine wo_step (v := v12) (s_pure (o_faddr g1 e12)) ?_
  have hq := bindO_inv hr
  clear hr
  obtain ⟨v13, e13, hr⟩ := hq
  have hq := asI_inv hr
  clear hr
  obtain ⟨x13, rfl, hr⟩ := hq
  refine wo_step (v := (.i .i64 x13)) (s_ld rfl e13) ?_
  have hq := bindP_inv hr
  clear hr
  obtain ⟨v14, m_5, e14, hr⟩ := hq
  refine wo_step (v := v14) (s_mk rfl rfl e14) ?_
  refine wo_step (v := v14) (s_pure (p_mv rfl)) ?_
  refine wo_nil ?_
  refine nx_norm ?_
  refine w_seq ?_
  refine w_ops ?_
  refine wo_step (v := v14) (s_pure (p_mv rfl)) ?_
  have hq := bindO_inv hr
  clear hr
  obtain ⟨v16, e16, hr⟩ := hq
  refine wo_step (v := v16) (s_pure (o_ixS rfl rfl e16)) ?_
  have hq := bindP_inv hr
  clear hr
  obtain ⟨vn_1, m_6, en_1, hr⟩ := hq
  refine wo_stepN (s_st rfl rfl en_1) ?_
  refine wo_nil ?_
  refine nx_norm ?_
  refine w_seq ?_
  refine w_ops ?_
  refine wo_step (v := (.i .i64 0)) (s_pure (p_mv rfl)) ?_
  refine wo_nil ?_
  refine nx_norm ?_
  refine w_seq ?_
  refine w_skip ?_
  refine nx_norm ?_
  refine w_block ?_
  have hq := bindO_inv hr
  clear hr
  obtain ⟨o_2, hl_1, hr⟩ := hq
  obtain ⟨n_1, hl_1⟩ := hM.loop _ _ _ hl_1
  refine jp_mono (w_loop _ (g61_I0 v0 v1 v3 v11 v14) (g61_J0 v0 v1 v3 v11 v14) ?_ n_1 _ _ _ _ hl_1 ⟨rfl, gl rfl, gl g0, gl g1, gl rfl, gl rfl, gl rfl⟩) ?_
  · clear hr hl_1
    intro s mm_8 t_1 o hi hr
    obtain ⟨x6, m_7⟩ := s
    obtain ⟨rfl, g6, g0, g1, g3, g4, g5⟩ := hi
    unfold g61_b0 at hr
    refine w_seq ?_
    refine w_seq ?_
    refine w_ops ?_
    refine wo_step (v := (.i .i64 x6)) (s_pure (p_mv g6)) ?_
    have hq := forceB_inv hr
    clear hr
    obtain ⟨c18, e18, hr⟩ := hq
    refine wo_step (v := (.b c18)) (s_pure (p_bin rfl rfl (b_geq.trans (cb e18)))) ?_
    refine wo_nil ?_
    refine nx_norm ?_
    have hq := cond_inv hr
    clear hr
    rcases hq with ⟨rfl, hr⟩ | ⟨rfl, hr⟩
    · refine w_condT rfl ?_
      refine w_skip ?_
      refine nx_norm ?_
      have hq := bindO_inv hr
      clear hr
      obtain ⟨o, hr, hk⟩ := hq
      refine jp_mono (J := g61_J1 v0 v1 v3 v11 v14 o) ?_ ?_
      · clear hk
        refine w_block ?_
        refine w_seq ?_
        refine w_block ?_
        have hq := bindO_inv hr
        clear hr
        obtain ⟨o_1, hl, hr⟩ := hq
        obtain ⟨n, hl⟩ := hM.loop _ _ _ hl
        refine jp_mono (w_loop _ (g61_I2 v0 v1 v3 v11 v14) (g61_J2 v0 v1 v3 v11 v14) ?_ n _ _ _ _ hl ⟨rfl, gl g6, gl g0, gl g1, gl g3, gl g4, gl g5⟩) ?_
        · clear hr hl
          intro s mm_3 t_2 o hi hr
          obtain ⟨x6_1, m_8⟩ := s
          obtain ⟨rfl, g6, g0, g1, g3, g4, g5⟩ := hi
          unfold g61_b2 at hr
          refine w_seq ?_
          refine w_seq ?_
          refine w_ops ?_
          refine wo_step (v := v14) (s_pure (p_mv g5)) ?_
          refine wo_step (v := (.i .i64 x6_1)) (s_pure (p_mv g6)) ?_
          have hq := bindO_inv hr
          clear hr
          obtain ⟨v21, e21, hr⟩ := hq
          refine wo_step (v := v21) (s_pure (o_ixS rfl rfl e21)) ?_
          have hq := bindO_inv hr
          clear hr
          obtain ⟨v22, e22, hr⟩ := hq
          have hq := asI_inv hr
          clear hr
          obtain ⟨x22, rfl, hr⟩ := hq
          refine wo_step (v := (.i .u32 x22)) (s_ld rfl e22) ?_
          have hq := forceB_inv hr
          clear hr
          obtain ⟨c23, e23, hr⟩ := hq
          refine wo_step (v := (.b c23)) (s_pure (p_bin rfl rfl (b_neq.trans (cb e23)))) ?_
          refine wo_nil ?_
          refine nx_norm ?_
          have hq := cond_inv hr
          clear hr
          rcases hq with ⟨rfl, hr⟩ | ⟨rfl, hr⟩
          · refine w_condT rfl ?_
            refine w_skip ?_
            refine nx_norm ?_
            refine w_block ?_
            refine w_seq ?_
            refine w_ops ?_
            refine wo_step (v := v11) (s_pure (p_mv g4)) ?_
            refine wo_step (v := (.i .i64 x6_1)) (s_pure (p_mv g6)) ?_
            refine wo_step (v := v14) (s_pure (p_mv g5)) ?_
            refine wo_step (v := (.i .i64 x6_1)) (s_pure (p_mv g6)) ?_
            have hq := bindO_inv hr
            clear hr
            obtain ⟨v28, e28, hr⟩ := hq
            refine wo_step (v := v28) (s_pure (o_ixS rfl rfl e28)) ?_
            have hq := bindO_inv hr
            clear hr
            obtain ⟨v29, e29, hr⟩ := hq
            have hq := asI_inv hr
            clear hr
            obtain ⟨x29, rfl, hr⟩ := hq
            refine wo_step (v := (.i .u32 x29)) (s_ld rfl e29) ?_
            have hq := bindP_inv hr
            clear hr
            obtain ⟨v30, m_9, e30, hr⟩ := hq
            have hq := asI_inv hr
            clear hr
            obtain ⟨x30, rfl, hr⟩ := hq
            refine wo_step (v := (.i .i64 x30)) (s_call (mc rfl mn) (callM_le hM.call e30)) ?_
            have hq := bindO_inv hr
            clear hr
            obtain ⟨v31, e31, hr⟩ := hq
            refine wo_step (v := v31) (s_pure (o_ixS rfl rfl e31)) ?_
            have hq := bindP_inv hr
            clear hr
            obtain ⟨vn_2, m_10, en_2, hr⟩ := hq
            refine wo_stepN (s_st rfl rfl en_2) ?_
            refine wo_nil ?_
            refine nx_norm ?_
            refine w_seq ?_
            refine w_ops ?_
            refine wo_step (v := v14) (s_pure (p_mv g5)) ?_
            refine wo_step (v := (.i .i64 x6_1)) (s_pure (p_mv g6)) ?_
            refine wo_step (v := v14) (s_pure (p_mv g5)) ?_
            refine wo_step (v := (.i .i64 x6_1)) (s_pure (p_mv g6)) ?_
            have hq := bindO_inv hr
            clear hr
            obtain ⟨v36, e36, hr⟩ := hq
            refine wo_step (v := v36) (s_pure (o_ixS rfl rfl e36)) ?_
            have hq := bindO_inv hr
            clear hr
            obtain ⟨v37, e37, hr⟩ := hq
            have hq := asI_inv hr
            clear hr
            obtain ⟨x37, rfl, hr⟩ := hq
            refine wo_step (v := (.i .u32 x37)) (s_ld rfl e37) ?_
            have hq := bindP_inv hr
            clear hr
            obtain ⟨v38, m_11, e38, hr⟩ := hq
            have hq := asI_inv hr
            clear hr
            obtain ⟨x38, rfl, hr⟩ := hq
            refine wo_step (v := (.i .u32 x38)) (s_call (mc rfl mn) (callM_le hM.call e38)) ?_
            have hq := bindO_inv hr
            clear hr
            obtain ⟨v39, e39, hr⟩ := hq
            refine wo_step (v := v39) (s_pure (o_ixS rfl rfl e39)) ?_
            have hq := bindP_inv hr
            clear hr
            obtain ⟨vn_3, m_12, en_3, hr⟩ := hq
            refine wo_stepN (s_st rfl rfl en_3) ?_
            refine wo_nil ?_
            refine nx_norm ?_
            refine w_seq ?_
            refine w_seq ?_
            refine w_ops ?_
            refine wo_step (v := (.i .i64 x6_1)) (s_pure (p_mv g6)) ?_
            have hq := forceI_inv hr
            clear hr
            obtain ⟨x41, e41, hr⟩ := hq
            refine wo_step (v := (.i .i64 x41)) (s_pure (p_bin rfl rfl (b_add.trans (ci e41)))) ?_
            have hq := bindO_inv hr
            clear hr
            obtain ⟨v42, e42, hr⟩ := hq
            refine wo_step (v := v42) (s_pure (o_faddr g1 e42)) ?_
            have hq := bindO_inv hr
            clear hr
            obtain ⟨v43, e43, hr⟩ := hq
            have hq := asI_inv hr
            clear hr
            obtain ⟨x43, rfl, hr⟩ := hq
            refine wo_step (v := (.i .i64 x43)) (s_ld rfl e43) ?_
            have hq := forceB_inv hr
            clear hr
            obtain ⟨c44, e44, hr⟩ := hq
            refine wo_step (v := (.b c44)) (s_pure (p_bin rfl rfl (b_lss.trans (cb e44)))) ?_
            refine wo_nil ?_
            refine nx_norm ?_
            have hq := cond_inv hr
            clear hr
            rcases hq with ⟨rfl, hr⟩ | ⟨rfl, hr⟩
            · refine w_condT rfl ?_
              refine w_seq ?_
              refine w_ops ?_
              refine wo_step (v := (.i .i64 x6_1)) (s_pure (p_mv g6)) ?_
              have hq := forceI_inv hr
              clear hr
              obtain ⟨x46, e46, hr⟩ := hq
              refine wo_step (v := (.i .i64 x46)) (s_pure (p_bin rfl rfl (b_add.trans (ci e46)))) ?_
              refine wo_step (v := (.i .i64 x46)) (s_pure (p_mv rfl)) ?_
              refine wo_nil ?_
              refine nx_norm ?_
              refine w_seq ?_
              refine w_any ?_
              refine wa_step (v := v14) (a_pure (p_mv g5)) ?_
              refine wa_step (v := (.i .i64 x46)) (a_pure (p_mv rfl)) ?_
              have hq := bindO_inv hr
              clear hr
              obtain ⟨v49, e49, hr⟩ := hq
              refine wa_step (v := v49) (a_ld g1 e49) ?_
              have hq := bindO_inv hr
              clear hr
              obtain ⟨v50, e50, hr⟩ := hq
              refine wa_step (v := v50) (a_ld g3 e50) ?_
              refine wa_step (v := v11) (a_pure (p_mv g4)) ?_
              refine wa_step (v := (.i .i64 x46)) (a_pure (p_mv rfl)) ?_
              have hq := bindO_inv hr
              clear hr
              obtain ⟨v53, e53, hr⟩ := hq
              refine wa_step (v := v53) (a_pure (o_slS rfl on (os rfl) on e53)) ?_
              have hq := bindO_inv hr
              clear hr
              obtain ⟨v54, e54, hr⟩ := hq
              have hq := asI_inv hr
              clear hr
              obtain ⟨x54, rfl, hr⟩ := hq
              refine wa_step (v := (.i .u32 x54)) (a_call (mc rfl (mc rfl (mc rfl mn))) (callN_le hM.call e54)) ?_
              have hq := bindO_inv hr
              clear hr
              obtain ⟨v55, e55, hr⟩ := hq
              refine wa_step (v := v55) (a_pure (o_ixS rfl rfl e55)) ?_
              have hq := asP_inv hr
              clear hr
              obtain ⟨qs, eqs, hr⟩ := hq
              refine wa_stepN (a_st (Eq.trans (b := v55) rfl eqs) rfl rfl) ?_
              have hq := bindO_inv hr
              clear hr
              obtain ⟨m_13, ew, hr⟩ := hq
              refine wa_nil ?_
              refine ⟨m_13, ew, ?_⟩
              refine nx_norm ?_
              refine w_exit ?_
              refine nx_exit ?_
              refine bk_miss (by decide) ?_
              cases hr
              exact ⟨_, _, rfl, ne_norm_exit, rfl, rfl, gl rfl, gl g0, gl g1, gl g3, gl g4, gl g5⟩
            · refine w_condF rfl ?_
              refine w_skip ?_
              refine nx_norm ?_
              refine w_seq ?_
              refine w_opsY ?_
              refine wy_step (v := v0) (y_C (s_pure (p_mv g0))) ?_
              refine wy_step (v := v11) (y_C (s_pure (p_mv g4))) ?_
              have hq := bindP_inv hr
              clear hr
              obtain ⟨v58, m_14, e58, hr⟩ := hq
              have hq := asB_inv hr
              clear hr
              obtain ⟨c58, rfl, hr⟩ := hq
              refine wy_step (v := (.b c58)) (y_callv rfl (mc rfl mn) (callyM_le hM.call hM.round e58)) ?_
              have hq := forceB_inv hr
              clear hr
              obtain ⟨c59, e59, hr⟩ := hq
              refine wy_step (v := (.b c59)) (y_C (s_pure ((p_not rfl).trans (cb e59)))) ?_
              refine wy_nil ?_
              refine nx_norm ?_
              have hq := cond_inv hr
              clear hr
              rcases hq with ⟨rfl, hr⟩ | ⟨rfl, hr⟩
              · refine w_condT rfl ?_
                refine w_ret ?_
                refine bk_ret ?_
                cases hr
                exact ⟨_, _, rfl, ne_norm_ret, rfl, rfl⟩
              · refine w_condF rfl ?_
                refine w_skip ?_
                refine bk_norm ?_
                cases hr
                exact ⟨_, _, rfl, rfl, rfl, gl g6, gl g0, gl g1, gl g3, gl g4, gl g5⟩
          · refine w_condF rfl ?_
            refine w_exit ?_
            refine nx_exit ?_
            cases hr
            exact ⟨_, _, rfl, ne_norm_exit, rfl, rfl, gl g6, gl g0, gl g1, gl g3, gl g4, gl g5⟩
        · rcases o_1 with o_1 | o_1 | o_1
          · obtain ⟨x6_2, m_15⟩ := o_1
            rintro _ mm t_3 ⟨rfl, rfl, g6, g0, g1, g3, g4, g5⟩
            refine bk_miss (by decide) ?_
            refine nx_exit ?_
            refine bk_hit ?_
            cases hr
            exact ⟨_, _, rfl, rfl, rfl, gl g6, gl g0, gl g1, gl g3, gl g4, gl g5⟩
          · obtain ⟨x6_3, m_16⟩ := o_1
            rintro _ mm_1 t_4 ⟨rfl, rfl, g6, g0, g1, g3, g4, g5⟩
            refine bk_hit ?_
            refine nx_norm ?_
            refine w_ops ?_
            refine wo_step (v := (.i .i64 x6_3)) (s_pure (p_mv g6)) ?_
            have hq := forceI_inv hr
            clear hr
            obtain ⟨x61, e61, hr⟩ := hq
            refine wo_step (v := (.i .i64 x61)) (s_pure (p_bin rfl rfl (b_sub.trans (ci e61)))) ?_
            refine wo_step (v := (.i .i64 x61)) (s_pure (p_mv rfl)) ?_
            refine wo_nil ?_
            refine bk_norm ?_
            cases hr
            exact ⟨_, _, rfl, rfl, rfl, gl rfl, gl g0, gl g1, gl g3, gl g4, gl g5⟩
          · obtain ⟨m_17, ho⟩ : ∃ z, z = o_1 := ⟨_, rfl⟩
            subst ho
            rintro _ mm_2 t_5 ⟨rfl, rfl⟩
            refine bk_ret ?_
            refine nx_ret ?_
            refine bk_ret ?_
            cases hr
            exact ⟨_, _, rfl, rfl, rfl⟩
      · have hr := hk
        clear hk
        rcases o with o | o
        · obtain ⟨x6_4, m_18⟩ := o
          rintro _ mm_4 t_6 ⟨rfl, rfl, g6, g0, g1, g3, g4, g5⟩
          cases hr
          exact ⟨_, _, rfl, rfl, rfl, gl g6, gl g0, gl g1, gl g3, gl g4, gl g5⟩
        · obtain ⟨m_19, ho⟩ : ∃ z, z = o := ⟨_, rfl⟩
          subst ho
          rintro _ mm_5 t_7 ⟨rfl, rfl⟩
          cases hr
          exact ⟨_, _, rfl, ne_norm_ret, rfl, rfl⟩
    · refine w_condF rfl ?_
      refine w_exit ?_
      refine nx_exit ?_
      cases hr
      exact ⟨_, _, rfl, ne_norm_exit, rfl, rfl⟩
  · rcases o_2 with o_2 | o_2
    · obtain ⟨m_20, ho⟩ : ∃ z, z = o_2 := ⟨_, rfl⟩
      subst ho
      rintro _ mm_6 t_8 ⟨rfl, rfl⟩
      refine bk_hit ?_
      exact qf norm_ok rn hr
    · obtain ⟨m_21, ho⟩ : ∃ z, z = o_2 := ⟨_, rfl⟩
      subst ho
      rintro _ mm_7 t_9 ⟨rfl, rfl⟩
      refine bk_ret ?_
      exact qf ret_ok rn hr

/- (dibber/turn.demands).distances -/
abbrev g62_I0 (v1 : AVal) (v2 : AVal) (v3 : AVal) (s : Int × Mm) (m1 : Mm) (t1 : Tr) : Prop :=
  match s with
  | (x9, m_4) => m_4 = m1 ∧ t1.get 9 = (.i .i64 x9) ∧ t1.get 1 = v1 ∧ t1.get 2 = v2 ∧ t1.get 3 = v3
abbrev g62_J0 (v1 : AVal) (v2 : AVal) (v3 : AVal) (o : Mm) (e : AExit) (m1 : Mm) (t1 : Tr) : Prop :=
  match o with
  | mo => e = (.exit 0) ∧ mo = m1 ∧ t1.get 1 = v1 ∧ t1.get 2 = v2 ∧ t1.get 3 = v3
abbrev g62_I1 (v1 : AVal) (v2 : AVal) (v3 : AVal) (x9 : Int) (s : Int × Mm) (m1 : Mm) (t1 : Tr) : Prop :=
  match s with
  | (x12, m_5) => m_5 = m1 ∧ t1.get 12 = (.i .i64 x12) ∧ t1.get 1 = v1 ∧ t1.get 2 = v2 ∧ t1.get 3 = v3 ∧ t1.get 4 = (.i .i64 x9) ∧ t1.get 9 = (.i .i64 x9)
abbrev g62_J1 (v1 : AVal) (v2 : AVal) (v3 : AVal) (x9 : Int) (o : Mm) (e : AExit) (m1 : Mm) (t1 : Tr) : Prop :=
  match o with
  | mo => e = (.exit 2) ∧ mo = m1 ∧ t1.get 1 = v1 ∧ t1.get 2 = v2 ∧ t1.get 3 = v3 ∧ t1.get 9 = (.i .i64 x9)
def g62_b1 (M : Means) (ro : List ABlk) (v1 : AVal) (v2 : AVal) (v3 : AVal) (x9 : Int) (x12 : Int) (m_5 : Mm) : Option ((Int × Mm) ⊕ (Mm)) :=
  forceB (ltI x12 6) fun c13 =>
  cond c13 (
    bindO (evP .e (.ixA 6 6 (.c v3) (.c (.i .i64 x9)))) fun v19 =>
    bindO (ldM ro m_5 false 3 v1) fun v17 =>
    bindP (callM M.call m_5 76 [v17]) fun v18 m_6 =>
    asI .u32 v18 fun x18 =>
    bindO (evP .e (.ixA 6 1 (.c v19) (.c (.i .i64 x12)))) fun v20 =>
    bindP (stepM ro m_6 (.st 1 (.c v20) (.c (.i .u32 x18)))) fun vn m_7 =>
    forceI (wr .i64 (x12 + 1)) fun x21 =>
    some (.inl (x21, m_7))) (
    some (.inr m_5))
def g62_b0 (M : Means) (ro : List ABlk) (v1 : AVal) (v2 : AVal) (v3 : AVal) (x9 : Int) (m_4 : Mm) : Option ((Int × Mm) ⊕ (Mm)) :=
  forceB (ltI x9 6) fun c10 =>
  cond c10 (
    bindO (M.loop (S := Int × Mm) (R := Mm) (fun s => g62_b1 M ro v1 v2 v3 x9 s.1 s.2) (0, m_4)) fun m_8 =>
    forceI (wr .i64 (x9 + 1)) fun x22 =>
    some (.inl (x22, m_8))) (
    some (.inr m_4))
abbrev g62_I2 (v1 : AVal) (v2 : AVal) (v3 : AVal) (v24 : AVal) (x25 : Int) (s : Int × Mm) (m1 : Mm) (t1 : Tr) : Prop :=
  match s with
  | (x26, m_10) => m_10 = m1 ∧ t1.get 26 = (.i .i64 x26) ∧ t1.get 1 = v1 ∧ t1.get 2 = v2 ∧ t1.get 3 = v3 ∧ t1.get 24 = v24 ∧ t1.get 25 = (.i .i64 x25)
abbrev g62_J2 (v1 : AVal) (v2 : AVal) (v3 : AVal) (v24 : AVal) (x25 : Int) (o : Mm) (e : AExit) (m1 : Mm) (t1 : Tr) : Prop :=
  match o with
  | mo => e = (.exit 4) ∧ mo = m1 ∧ t1.get 2 = v2 ∧ t1.get 3 = v3
abbrev g62_J3 (v1 : AVal) (v2 : AVal) (v3 : AVal) (v7 : AVal) (v24 : AVal) (x25 : Int) (x26 : Int) (o : Mm) (e : AExit) (m1 : Mm) (t1 : Tr) : Prop :=
  match o with
  | mo => e = .norm ∧ mo = m1 ∧ t1.get 1 = v1 ∧ t1.get 2 = v2 ∧ t1.get 3 = v3 ∧ t1.get 7 = v7 ∧ t1.get 24 = v24 ∧ t1.get 25 = (.i .i64 x25) ∧ t1.get 26 = (.i .i64 x26)
def g62_b2 (M : Means) (ro : List ABlk) (v1 : AVal) (v2 : AVal) (v3 : AVal) (v24 : AVal) (x25 : Int) (x26 : Int) (m_10 : Mm) : Option ((Int × Mm) ⊕ (Mm)) :=
  forceB (ltI x26 x25) fun c27 =>
  cond c27 (
    bindO (evP .e (.ixS 4 (.c v24) (.c (.i .i64 x26)))) fun v28 =>
    bindO (ldM ro m_10 false 4 v28) fun v29 =>
    bindP (stepM ro m_10 (.al 31 [(AVal.i IntKind.i64 0), (AVal.i IntKind.i64 0), (AVal.i IntKind.i64 0), (AVal.i IntKind.i64 0)])) fun v7 m_11 =>
    bindP (stepM ro m_11 (.st 4 (.c v7) (.c v29))) fun vn_1 m_12 =>
    bindO (evP .e (.faddr 0 (.c v7))) fun v30 =>
    bindO (ldM ro m_12 true 1 v30) fun v31 =>
    asI .i64 v31 fun x31 =>
    bindO (evP .e (.faddr 1 (.c v7))) fun v32 =>
    bindO (ldM ro m_12 true 1 v32) fun v33 =>
    asI .i64 v33 fun x33 =>
    forceB (ltI x33 x31) fun c34 =>
    bindO (α := Mm) (
      cond c34 (
        bindO (ldM ro m_12 false 4 v7) fun v35 =>
        bindP (callM M.call m_12 77 [v35]) fun v36 m_13 =>
        bindP (stepM ro m_13 (.st 4 (.c v7) (.c v36))) fun vn_2 m_14 =>
        some m_14) (
        some m_12)) fun m_15 =>
    bindO (evP .e (.faddr 3 (.c v7))) fun v37 =>
    bindO (ldM ro m_15 true 1 v37) fun v38 =>
    asI .i64 v38 fun x38 =>
    bindO (evP .e (.faddr 2 (.c v7))) fun v39 =>
    bindO (ldM ro m_15 true 1 v39) fun v40 =>
    asI .i64 v40 fun x40 =>
    forceI (wr .i64 (x38 - x40)) fun x41 =>
    forceI (wr .i64 (x41 + 1)) fun x42 =>
    chk (!ltI x42 (.ofNat 0)) <|
    forceI (shlV .u32 1 x42) fun x43 =>
    forceI (wr .u32 (x43 - 1)) fun x44 =>
    bindO (evP .e (.faddr 0 (.c v7))) fun v45 =>
    bindO (ldA ro m_15.h true 1 v45) fun v46 =>
    asI .i64 v46 fun x46 =>
    bindO (evP .e (.faddr 1 (.c v7))) fun v47 =>
    bindO (ldA ro m_15.h true 1 v47) fun v48 =>
    asI .i64 v48 fun x48 =>
    bindO (evP .e (.ixA 6 6 (.c v3) (.c (.i .i64 x46)))) fun v49 =>
    bindO (evP .e (.ixA 6 1 (.c v49) (.c (.i .i64 x48)))) fun v50 =>
    bindO (ldA ro m_15.h true 1 v50) fun v51 =>
    asI .u32 v51 fun x51 =>
    bindO (ldA ro m_15.h false 3 v1) fun v52 =>
    bindO (ldA ro m_15.h false 3 v1) fun v54 =>
    bindO (evP .e (.faddr 2 (.c v7))) fun v55 =>
    bindO (ldA ro m_15.h true 1 v55) fun v56 =>
    asI .i64 v56 fun x56 =>
    bindO (callN M.call m_15.h 70 [v54, (.i .i64 x56)]) fun v57 =>
    asI .i64 v57 fun x57 =>
    bindO (callN M.call m_15.h 78 [v52, (.i .u32 x44), (.i .i64 x57)]) fun v58 =>
    asI .u32 v58 fun x58 =>
    forceI (bitV .and .u32 x51 x58) fun x59 =>
    bindO (evP .e (.ixA 6 6 (.c v3) (.c (.i .i64 x46)))) fun v60 =>
    bindO (evP .e (.ixA 6 1 (.c v60) (.c (.i .i64 x48)))) fun v61 =>
    asP v61 fun qs =>
    bindO (writesM ro [] [(qs, AVal.cells (.i .u32 x59))] ⟨m_15.h, m_15.lw, m_15.lp⟩) fun m_16 =>
    forceI (wr .i64 (x26 + 1)) fun x62 =>
    some (.inl (x62, m_16))) (
    some (.inr m_10))
def g62 (M : Means) (ro : List ABlk) (v0 : AVal) (m0 : Mm) : Option (AVal × Heap × Nat × Nat) :=
  bindP (stepM ro m0 (.bx 55 3 (.c v0))) fun v1 m_1 =>
  bindP (stepM ro m_1 (.al 84 [(AVal.i IntKind.u32 0), (AVal.i IntKind.u32 0), (AVal.i IntKind.u32 0), (AVal.i IntKind.u32 0), (AVal.i IntKind.u32 0), (AVal.i IntKind.u32 0), (AVal.i IntKind.u32 0), (AVal.i IntKind.u32 0), (AVal.i IntKind.u32 0), (AVal.i IntKind.u32 0), (AVal.i IntKind.u32 0), (AVal.i IntKind.u32 0), (AVal.i IntKind.u32 0), (AVal.i IntKind.u32 0), (AVal.i IntKind.u32 0), (AVal.i IntKind.u32 0), (AVal.i IntKind.u32 0), (AVal.i IntKind.u32 0), (AVal.i IntKind.u32 0), (AVal.i IntKind.u32 0), (AVal.i IntKind.u32 0), (AVal.i IntKind.u32 0), (AVal.i IntKind.u32 0), (AVal.i IntKind.u32 0), (AVal.i IntKind.u32 0), (AVal.i IntKind.u32 0), (AVal.i IntKind.u32 0), (AVal.i IntKind.u32 0), (AVal.i IntKind.u32 0), (AVal.i IntKind.u32 0), (AVal.i IntKind.u32 0), (AVal.i IntKind.u32 0), (AVal.i IntKind.u32 0), (AVal.i IntKind.u32 0), (AVal.i IntKind.u32 0), (AVal.i IntKind.u32 0)])) fun v2 m_2 =>
  bindP (stepM ro m_2 (.al 84 [(AVal.i IntKind.u32 0), (AVal.i IntKind.u32 0), (AVal.i IntKind.u32 0), (AVal.i IntKind.u32 0), (AVal.i IntKind.u32 0), (AVal.i IntKind.u32 0), (AVal.i IntKind.u32 0), (AVal.i IntKind.u32 0), (AVal.i IntKind.u32 0), (AVal.i IntKind.u32 0), (AVal.i IntKind.u32 0), (AVal.i IntKind.u32 0), (AVal.i IntKind.u32 0), (AVal.i IntKind.u32 0), (AVal.i IntKind.u32 0), (AVal.i IntKind.u32 0), (AVal.i IntKind.u32 0), (AVal.i IntKind.u32 0), (AVal.i IntKind.u32 0), (AVal.i IntKind.u32 0), (AVal.i IntKind.u32 0), (AVal.i IntKind.u32 0), (AVal.i IntKind.u32 0), (AVal.i IntKind.u32 0), (AVal.i IntKind.u32 0), (AVal.i IntKind.u32 0), (AVal.i IntKind.u32 0), (AVal.i IntKind.u32 0), (AVal.i IntKind.u32 0), (AVal.i IntKind.u32 0), (AVal.i IntKind.u32 0), (AVal.i IntKind.u32 0), (AVal.i IntKind.u32 0), (AVal.i IntKind.u32 0), (AVal.i IntKind.u32 0), (AVal.i IntKind.u32 0)])) fun v3 m_3 =>
  bindO (M.loop (S := Int × Mm) (R := Mm) (fun s => g62_b0 M ro v1 v2 v3 s.1 s.2) (0, m_3)) fun m_9 =>
  bindO (evP .e (.faddr 2 (.c v1))) fun v23 =>
  bindO (ldM ro m_9 true 1 v23) fun v24 =>
  bindO (evP .e (.len false (.c v24))) fun v25 =>
  asI .i64 v25 fun x25 =>
  bindO (M.loop (S := Int × Mm) (R := Mm) (fun s => g62_b2 M ro v1 v2 v3 v24 x25 s.1 s.2) (0, m_9)) fun m_17 =>
  bindO (ldM ro m_17 false 36 v3) fun v63 =>
  bindP (stepM ro m_17 (.st 36 (.c v2) (.c v63))) fun vn_3 m_18 =>
  bindO (ldM ro m_18 false 36 v2) fun vr =>
  finM m0.h.length (tupA [vr]) m_18

theorem g62_ok {ro : List ABlk} {O : Caller} {M : Means} (hM : M.Ok ⟨F, O⟩ ro) {v0 h r} (ho : O 62 [v0] h = none) (hr : g62 M ro v0 ⟨h, h.length, h.length⟩ = some r) : callX ⟨F, O⟩ ro 62 [v0] h = some r := by
  refine callX_of (F := ⟨F, O⟩) (fn := fn62) (g := g62 M ro v0) ho rfl rfl hr ?_
  clear ho
  clear hr
  intro m0 t0 ht hr
  have g0 : t0.get 0 = v0 := ht 0
  clear ht
  unfold g62 at hr
  refine w_seq ?_
  refine w_ops ?_
  have hq := bindP_inv hr
  clear hr
  obtain ⟨v1, m_1, e1, hr⟩ := hq
  refine wo_step (v := v1) (s_bx g0 e1) ?_
  have hq := bindP_inv hr
  clear hr
  obtain ⟨v2, m_2, e2, hr⟩ := hq
  refine wo_step (v := v2) (s_al e2) ?_
  refine wo_nil ?_
  refine nx_norm ?_
  refine w_seq ?_
  refine w_ops ?_
  have hq := bindP_inv hr
  clear hr
  obtain ⟨v3, m_3, e3, hr⟩ := hq
  refine wo_step (v := v3) (s_al e3) ?_
  refine wo_nil ?_
  refine nx_norm ?_
  refine w_seq ?_
  refine w_seq ?_
  refine w_ops ?_
  refine wo_step (v := (.i .i64 0)) (s_pure (p_mv rfl)) ?_
  refine wo_nil ?_
  refine nx_norm ?_
  refine w_block ?_
  have hq := bindO_inv hr
  clear hr
  obtain ⟨o_1, hl_2, hr⟩ := hq
  obtain ⟨n_2, hl_2⟩ := hM.loop _ _ _ hl_2
  refine jp_mono (w_loop _ (g62_I0 v1 v2 v3) (g62_J0 v1 v2 v3) ?_ n_2 _ _ _ _ hl_2 ⟨rfl, gl rfl, gl rfl, gl rfl, gl rfl⟩) ?_
  · clear hr hl_2
    intro s mm_6 t_1 o hi hr
    obtain ⟨x9, m_4⟩ := s
    obtain ⟨rfl, g9, g1, g2, g3⟩ := hi
    unfold g62_b0 at hr
    refine w_seq ?_
    refine w_ops ?_
    have hq := forceB_inv hr
    clear hr
    obtain ⟨c10, e10, hr⟩ := hq
    refine wo_step (v := (.b c10)) (s_pure (p_bin g9 rfl (b_lss.trans (cb e10)))) ?_
    refine wo_nil ?_
    refine nx_norm ?_
    refine w_seq ?_
    have hq := cond_inv hr
    clear hr
    rcases hq with ⟨rfl, hr⟩ | ⟨rfl, hr⟩
    · refine w_condT rfl ?_
      refine w_skip ?_
      refine nx_norm ?_
      refine w_seq ?_
      refine w_block ?_
      refine w_seq ?_
      refine w_ops ?_
      refine wo_step (v := (.i .i64 x9)) (s_pure (p_mv g9)) ?_
      refine wo_step (v := (.i .i64 x9)) (s_pure (p_mv rfl)) ?_
      refine wo_nil ?_
      refine nx_norm ?_
      refine w_seq ?_
      refine w_ops ?_
      refine wo_step (v := (.i .i64 0)) (s_pure (p_mv rfl)) ?_
      refine wo_nil ?_
      refine nx_norm ?_
      refine w_block ?_
      have hq := bindO_inv hr
      clear hr
      obtain ⟨o, hl, hr⟩ := hq
      obtain ⟨n, hl⟩ := hM.loop _ _ _ hl
      refine jp_mono (w_loop _ (g62_I1 v1 v2 v3 x9) (g62_J1 v1 v2 v3 x9) ?_ n _ _ _ _ hl ⟨rfl, gl rfl, gl g1, gl g2, gl g3, gl rfl, gl g9⟩) ?_
      · clear hr hl
        intro s mm_1 t_2 o hi hr
        obtain ⟨x12, m_5⟩ := s
        obtain ⟨rfl, g12, g1, g2, g3, g4, g9⟩ := hi
        unfold g62_b1 at hr
        refine w_seq ?_
        refine w_ops ?_
        have hq := forceB_inv hr
        clear hr
        obtain ⟨c13, e13, hr⟩ := hq
        refine wo_step (v := (.b c13)) (s_pure (p_bin g12 rfl (b_lss.trans (cb e13)))) ?_
        refine wo_nil ?_
        refine nx_norm ?_
        refine w_seq ?_
        have hq := cond_inv hr
        clear hr
        rcases hq with ⟨rfl, hr⟩ | ⟨rfl, hr⟩
        · refine w_condT rfl ?_
          refine w_skip ?_
          refine nx_norm ?_
          refine w_seq ?_
          refine w_block ?_
          refine w_seq ?_
          refine w_ops ?_
          refine wo_step (v := (.i .i64 x12)) (s_pure (p_mv g12)) ?_
          refine wo_step (v := (.i .i64 x12)) (s_pure (p_mv rfl)) ?_
          refine wo_nil ?_
          refine nx_norm ?_
          refine w_ops ?_
          refine wo_step (v := (.i .i64 x9)) (s_pure (p_mv g4)) ?_
          refine wo_step (v := (.i .i64 x12)) (s_pure (p_mv rfl)) ?_
          have hq := bindO_inv hr
          clear hr
          obtain ⟨v19, e19, hr⟩ := hq
          refine wo_step (v := v19) (s_pure (o_ixA g3 rfl e19)) ?_
          have hq := bindO_inv hr
          clear hr
          obtain ⟨v17, e17, hr⟩ := hq
          refine wo_step (v := v17) (s_ld g1 e17) ?_
          have hq := bindP_inv hr
          clear hr
          obtain ⟨v18, m_6, e18, hr⟩ := hq
          have hq := asI_inv hr
          clear hr
          obtain ⟨x18, rfl, hr⟩ := hq
          refine wo_step (v := (.i .u32 x18)) (s_call (mc rfl mn) (callM_le hM.call e18)) ?_
          have hq := bindO_inv hr
          clear hr
          obtain ⟨v20, e20, hr⟩ := hq
          refine wo_step (v := v20) (s_pure (o_ixA rfl rfl e20)) ?_
          have hq := bindP_inv hr
          clear hr
          obtain ⟨vn, m_7, en, hr⟩ := hq
          refine wo_stepN (s_st rfl rfl en) ?_
          refine wo_nil ?_
          refine bk_norm ?_
          refine nx_norm ?_
          refine w_ops ?_
          have hq := forceI_inv hr
          clear hr
          obtain ⟨x21, e21, hr⟩ := hq
          refine wo_step (v := (.i .i64 x21)) (s_pure (p_bin g12 rfl (b_add.trans (ci e21)))) ?_
          refine wo_step (v := (.i .i64 x21)) (s_pure (p_mv rfl)) ?_
          refine wo_nil ?_
          cases hr
          exact ⟨_, _, rfl, rfl, rfl, gl rfl, gl g1, gl g2, gl g3, gl g4, gl g9⟩
        · refine w_condF rfl ?_
          refine w_exit ?_
          refine nx_exit ?_
          cases hr
          exact ⟨_, _, rfl, ne_norm_exit, rfl, rfl, gl g1, gl g2, gl g3, gl g9⟩
      · obtain ⟨m_8, ho⟩ : ∃ z, z = o := ⟨_, rfl⟩
        subst ho
        rintro _ mm t_3 ⟨rfl, rfl, g1, g2, g3, g9⟩
        refine bk_hit ?_
        refine bk_norm ?_
        refine nx_norm ?_
        refine w_ops ?_
        have hq := forceI_inv hr
        clear hr
        obtain ⟨x22, e22, hr⟩ := hq
        refine wo_step (v := (.i .i64 x22)) (s_pure (p_bin g9 rfl (b_add.trans (ci e22)))) ?_
        refine wo_step (v := (.i .i64 x22)) (s_pure (p_mv rfl)) ?_
        refine wo_nil ?_
        cases hr
        exact ⟨_, _, rfl, rfl, rfl, gl rfl, gl g1, gl g2, gl g3⟩
    · refine w_condF rfl ?_
      refine w_exit ?_
      refine nx_exit ?_
      cases hr
      exact ⟨_, _, rfl, ne_norm_exit, rfl, rfl, gl g1, gl g2, gl g3⟩
  · obtain ⟨m_9, ho⟩ : ∃ z, z = o_1 := ⟨_, rfl⟩
    subst ho
    rintro _ mm_5 t_4 ⟨rfl, rfl, g1, g2, g3⟩
    refine bk_hit ?_
    refine nx_norm ?_
    refine w_seq ?_
    refine w_seq ?_
    refine w_ops ?_
    have hq := bindO_inv hr
    clear hr
    obtain ⟨v23, e23, hr⟩ := hq
    refine wo_step (v := v23) (s_pure (o_faddr g1 e23)) ?_
    have hq := bindO_inv hr
    clear hr
    obtain ⟨v24, e24, hr⟩ := hq
    refine wo_step (v := v24) (s_ld rfl e24) ?_
    have hq := bindO_inv hr
    clear hr
    obtain ⟨v25, e25, hr⟩ := hq
    have hq := asI_inv hr
    clear hr
    obtain ⟨x25, rfl, hr⟩ := hq
    refine wo_step (v := (.i .i64 x25)) (s_pure (o_len rfl e25)) ?_
    refine wo_step (v := (.i .i64 0)) (s_pure (p_mv rfl)) ?_
    refine wo_nil ?_
    refine nx_norm ?_
    refine w_block ?_
    have hq := bindO_inv hr
    clear hr
    obtain ⟨o_3, hl_1, hr⟩ := hq
    obtain ⟨n_1, hl_1⟩ := hM.loop _ _ _ hl_1
    refine jp_mono (w_loop _ (g62_I2 v1 v2 v3 v24 x25) (g62_J2 v1 v2 v3 v24 x25) ?_ n_1 _ _ _ _ hl_1 ⟨rfl, gl rfl, gl g1, gl g2, gl g3, gl rfl, gl rfl⟩) ?_
    · clear hr hl_1
      intro s mm_4 t_5 o hi hr
      obtain ⟨x26, m_10⟩ := s
      obtain ⟨rfl, g26, g1, g2, g3, g24, g25⟩ := hi
      unfold g62_b2 at hr
      refine w_seq ?_
      refine w_ops ?_
      have hq := forceB_inv hr
      clear hr
      obtain ⟨c27, e27, hr⟩ := hq
      refine wo_step (v := (.b c27)) (s_pure (p_bin g26 g25 (b_lss.trans (cb e27)))) ?_
      refine wo_nil ?_
      refine nx_norm ?_
      refine w_seq ?_
      have hq := cond_inv hr
      clear hr
      rcases hq with ⟨rfl, hr⟩ | ⟨rfl, hr⟩
      · refine w_condT rfl ?_
        refine w_skip ?_
        refine nx_norm ?_
        refine w_seq ?_
        refine w_block ?_
        refine w_seq ?_
        refine w_ops ?_
        have hq := bindO_inv hr
        clear hr
        obtain ⟨v28, e28, hr⟩ := hq
        refine wo_step (v := v28) (s_pure (o_ixS g24 g26 e28)) ?_
        have hq := bindO_inv hr
        clear hr
        obtain ⟨v29, e29, hr⟩ := hq
        refine wo_step (v := v29) (s_ld rfl e29) ?_
        have hq := bindP_inv hr
        clear hr
        obtain ⟨v7, m_11, e7, hr⟩ := hq
        refine wo_step (v := v7) (s_al e7) ?_
        have hq := bindP_inv hr
        clear hr
        obtain ⟨vn_1, m_12, en_1, hr⟩ := hq
        refine wo_stepN (s_st rfl rfl en_1) ?_
        refine wo_nil ?_
        refine nx_norm ?_
        refine w_seq ?_
        refine w_seq ?_
        refine w_ops ?_
        have hq := bindO_inv hr
        clear hr
        obtain ⟨v30, e30, hr⟩ := hq
        refine wo_step (v := v30) (s_pure (o_faddr rfl e30)) ?_
        have hq := bindO_inv hr
        clear hr
        obtain ⟨v31, e31, hr⟩ := hq
        have hq := asI_inv hr
        clear hr
        obtain ⟨x31, rfl, hr⟩ := hq
        refine wo_step (v := (.i .i64 x31)) (s_ld rfl e31) ?_
        have hq := bindO_inv hr
        clear hr
        obtain ⟨v32, e32, hr⟩ := hq
        refine wo_step (v := v32) (s_pure (o_faddr rfl e32)) ?_
        have hq := bindO_inv hr
        clear hr
        obtain ⟨v33, e33, hr⟩ := hq
        have hq := asI_inv hr
        clear hr
        obtain ⟨x33, rfl, hr⟩ := hq
        refine wo_step (v := (.i .i64 x33)) (s_ld rfl e33) ?_
        have hq := forceB_inv hr
        clear hr
        obtain ⟨c34, e34, hr⟩ := hq
        refine wo_step (v := (.b c34)) (s_pure (p_bin rfl rfl (b_gtr.trans (cb e34)))) ?_
        refine wo_nil ?_
        refine nx_norm ?_
        have hq := bindO_inv hr
        clear hr
        obtain ⟨o_2, hr, hk⟩ := hq
        refine jp_mono (J := g62_J3 v1 v2 v3 v7 v24 x25 x26 o_2) ?_ ?_
        · clear hk
          have hq := cond_inv hr
          clear hr
          rcases hq with ⟨rfl, hr⟩ | ⟨rfl, hr⟩
          · refine w_condT rfl ?_
            refine w_ops ?_
            have hq := bindO_inv hr
            clear hr
            obtain ⟨v35, e35, hr⟩ := hq
            refine wo_step (v := v35) (s_ld rfl e35) ?_
            have hq := bindP_inv hr
            clear hr
            obtain ⟨v36, m_13, e36, hr⟩ := hq
            refine wo_step (v := v36) (s_call (mc rfl mn) (callM_le hM.call e36)) ?_
            have hq := bindP_inv hr
            clear hr
            obtain ⟨vn_2, m_14, en_2, hr⟩ := hq
            refine wo_stepN (s_st rfl rfl en_2) ?_
            refine wo_nil ?_
            cases hr
            exact ⟨_, _, rfl, rfl, rfl, gl g1, gl g2, gl g3, gl rfl, gl g24, gl g25, gl g26⟩
          · refine w_condF rfl ?_
            refine w_skip ?_
            cases hr
            exact ⟨_, _, rfl, rfl, rfl, gl g1, gl g2, gl g3, gl rfl, gl g24, gl g25, gl g26⟩
        · have hr := hk
          clear hk
          obtain ⟨m_15, ho⟩ : ∃ z, z = o_2 := ⟨_, rfl⟩
          subst ho
          rintro _ mm_2 t_6 ⟨rfl, rfl, g1, g2, g3, g7, g24, g25, g26⟩
          refine nx_norm ?_
          refine w_seq ?_
          refine w_ops ?_
          have hq := bindO_inv hr
          clear hr
          obtain ⟨v37, e37, hr⟩ := hq
          refine wo_step (v := v37) (s_pure (o_faddr g7 e37)) ?_
          have hq := bindO_inv hr
          clear hr
          obtain ⟨v38, e38, hr⟩ := hq
          have hq := asI_inv hr
          clear hr
          obtain ⟨x38, rfl, hr⟩ := hq
          refine wo_step (v := (.i .i64 x38)) (s_ld rfl e38) ?_
          have hq := bindO_inv hr
          clear hr
          obtain ⟨v39, e39, hr⟩ := hq
          refine wo_step (v := v39) (s_pure (o_faddr g7 e39)) ?_
          have hq := bindO_inv hr
          clear hr
          obtain ⟨v40, e40, hr⟩ := hq
          have hq := asI_inv hr
          clear hr
          obtain ⟨x40, rfl, hr⟩ := hq
          refine wo_step (v := (.i .i64 x40)) (s_ld rfl e40) ?_
          have hq := forceI_inv hr
          clear hr
          obtain ⟨x41, e41, hr⟩ := hq
          refine wo_step (v := (.i .i64 x41)) (s_pure (p_bin rfl rfl (b_sub.trans (ci e41)))) ?_
          have hq := forceI_inv hr
          clear hr
          obtain ⟨x42, e42, hr⟩ := hq
          refine wo_step (v := (.i .i64 x42)) (s_pure (p_bin rfl rfl (b_add.trans (ci e42)))) ?_
          have hq := chk_inv hr
          clear hr
          obtain ⟨hc43, hr⟩ := hq
          have hq := forceI_inv hr
          clear hr
          obtain ⟨x43, e43, hr⟩ := hq
          refine wo_step (v := (.i .u32 x43)) (s_pure (p_bin rfl rfl ((b_shl hc43).trans (ci e43)))) ?_
          have hq := forceI_inv hr
          clear hr
          obtain ⟨x44, e44, hr⟩ := hq
          refine wo_step (v := (.i .u32 x44)) (s_pure (p_bin rfl rfl (b_sub.trans (ci e44)))) ?_
          refine wo_step (v := (.i .u32 x44)) (s_pure (p_mv rfl)) ?_
          refine wo_nil ?_
          refine nx_norm ?_
          refine w_any ?_
          have hq := bindO_inv hr
          clear hr
          obtain ⟨v45, e45, hr⟩ := hq
          refine wa_step (v := v45) (a_pure (o_faddr g7 e45)) ?_
          have hq := bindO_inv hr
          clear hr
          obtain ⟨v46, e46, hr⟩ := hq
          have hq := asI_inv hr
          clear hr
          obtain ⟨x46, rfl, hr⟩ := hq
          refine wa_step (v := (.i .i64 x46)) (a_ld rfl e46) ?_
          have hq := bindO_inv hr
          clear hr
          obtain ⟨v47, e47, hr⟩ := hq
          refine wa_step (v := v47) (a_pure (o_faddr g7 e47)) ?_
          have hq := bindO_inv hr
          clear hr
          obtain ⟨v48, e48, hr⟩ := hq
          have hq := asI_inv hr
          clear hr
          obtain ⟨x48, rfl, hr⟩ := hq
          refine wa_step (v := (.i .i64 x48)) (a_ld rfl e48) ?_
          have hq := bindO_inv hr
          clear hr
          obtain ⟨v49, e49, hr⟩ := hq
          refine wa_step (v := v49) (a_pure (o_ixA g3 rfl e49)) ?_
          have hq := bindO_inv hr
          clear hr
          obtain ⟨v50, e50, hr⟩ := hq
          refine wa_step (v := v50) (a_pure (o_ixA rfl rfl e50)) ?_
          have hq := bindO_inv hr
          clear hr
          obtain ⟨v51, e51, hr⟩ := hq
          have hq := asI_inv hr
          clear hr
          obtain ⟨x51, rfl, hr⟩ := hq
          refine wa_step (v := (.i .u32 x51)) (a_ld rfl e51) ?_
          have hq := bindO_inv hr
          clear hr
          obtain ⟨v52, e52, hr⟩ := hq
          refine wa_step (v := v52) (a_ld g1 e52) ?_
          refine wa_step (v := (.i .u32 x44)) (a_pure (p_mv rfl)) ?_
          have hq := bindO_inv hr
          clear hr
          obtain ⟨v54, e54, hr⟩ := hq
          refine wa_step (v := v54) (a_ld g1 e54) ?_
          have hq := bindO_inv hr
          clear hr
          obtain ⟨v55, e55, hr⟩ := hq
          refine wa_step (v := v55) (a_pure (o_faddr g7 e55)) ?_
          have hq := bindO_inv hr
          clear hr
          obtain ⟨v56, e56, hr⟩ := hq
          have hq := asI_inv hr
          clear hr
          obtain ⟨x56, rfl, hr⟩ := hq
          refine wa_step (v := (.i .i64 x56)) (a_ld rfl e56) ?_
          have hq := bindO_inv hr
          clear hr
          obtain ⟨v57, e57, hr⟩ := hq
          have hq := asI_inv hr
          clear hr
          obtain ⟨x57, rfl, hr⟩ := hq
          refine wa_step (v := (.i .i64 x57)) (a_call (mc rfl (mc rfl mn)) (callN_le hM.call e57)) ?_
          have hq := bindO_inv hr
          clear hr
          obtain ⟨v58, e58, hr⟩ := hq
          have hq := asI_inv hr
          clear hr
          obtain ⟨x58, rfl, hr⟩ := hq
          refine wa_step (v := (.i .u32 x58)) (a_call (mc rfl (mc rfl (mc rfl mn))) (callN_le hM.call e58)) ?_
          have hq := forceI_inv hr
          clear hr
          obtain ⟨x59, e59, hr⟩ := hq
          refine wa_step (v := (.i .u32 x59)) (a_pure (p_bin rfl rfl (b_and.trans (ci e59)))) ?_
          have hq := bindO_inv hr
          clear hr
          obtain ⟨v60, e60, hr⟩ := hq
          refine wa_step (v := v60) (a_pure (o_ixA g3 rfl e60)) ?_
          have hq := bindO_inv hr
          clear hr
          obtain ⟨v61, e61, hr⟩ := hq
          refine wa_step (v := v61) (a_pure (o_ixA rfl rfl e61)) ?_
          have hq := asP_inv hr
          clear hr
          obtain ⟨qs, eqs, hr⟩ := hq
          refine wa_stepN (a_st (Eq.trans (b := v61) rfl eqs) rfl rfl) ?_
          have hq := bindO_inv hr
          clear hr
          obtain ⟨m_16, ew, hr⟩ := hq
          refine wa_nil ?_
          refine ⟨m_16, ew, ?_⟩
          refine bk_norm ?_
          refine nx_norm ?_
          refine w_ops ?_
          have hq := forceI_inv hr
          clear hr
          obtain ⟨x62, e62, hr⟩ := hq
          refine wo_step (v := (.i .i64 x62)) (s_pure (p_bin g26 rfl (b_add.trans (ci e62)))) ?_
          refine wo_step (v := (.i .i64 x62)) (s_pure (p_mv rfl)) ?_
          refine wo_nil ?_
          cases hr
          exact ⟨_, _, rfl, rfl, rfl, gl rfl, gl g1, gl g2, gl g3, gl g24, gl g25⟩
      · refine w_condF rfl ?_
        refine w_exit ?_
        refine nx_exit ?_
        cases hr
        exact ⟨_, _, rfl, ne_norm_exit, rfl, rfl, gl g2, gl g3⟩
    · obtain ⟨m_17, ho⟩ : ∃ z, z = o_3 := ⟨_, rfl⟩
      subst ho
      rintro _ mm_3 t_7 ⟨rfl, rfl, g2, g3⟩
      refine bk_hit ?_
      refine nx_norm ?_
      refine w_seq ?_
      refine w_ops ?_
      have hq := bindO_inv hr
      clear hr
      obtain ⟨v63, e63, hr⟩ := hq
      refine wo_step (v := v63) (s_ld g3 e63) ?_
      have hq := bindP_inv hr
      clear hr
      obtain ⟨vn_3, m_18, en_3, hr⟩ := hq
      refine wo_stepN (s_st g2 rfl en_3) ?_
      refine wo_nil ?_
      refine nx_norm ?_
      refine w_ret ?_
      have hq := bindO_inv hr
      clear hr
      obtain ⟨vr, er, hr⟩ := hq
      exact qf ret_ok (rc g2 er rn) hr

/- (dibber/turn.hours).least -/

def g63 (M : Means) (ro : List ABlk) (x0 : Int) (m0 : Mm) : Option (AVal × Heap × Nat × Nat) :=
  bindP (callM M.call m0 79 [(.i .u32 x0)]) fun v4 m_1 =>
  asI .i64 v4 fun x4 =>
  finM m0.h.length (tupA [(.i .i64 x4)]) m_1

theorem g63_ok {ro : List ABlk} {O : Caller} {M : Means} (hM : M.Ok ⟨F, O⟩ ro) {x0 h r} (ho : O 63 [(.i .u32 x0)] h = none) (hr : g63 M ro x0 ⟨h, h.length, h.length⟩ = some r) : callX ⟨F, O⟩ ro 63 [(.i .u32 x0)] h = some r := by
  refine callX_of (F := ⟨F, O⟩) (fn := fn63) (g := g63 M ro x0) ho rfl rfl hr ?_
  clear ho
  clear hr
  intro m0 t0 ht hr
  have g0 : t0.get 0 = (.i .u32 x0) := ht 0
  clear ht
  unfold g63 at hr
  refine w_seq ?_
  refine w_ops ?_
  refine wo_step (v := (.i .i64 0)) (s_pure (p_mv rfl)) ?_
  refine wo_nil ?_
  refine nx_norm ?_
  refine w_seq ?_
  refine w_ops ?_
  refine wo_step (v := (.i .u32 x0)) (s_pure (p_mv g0)) ?_
  have hq := bindP_inv hr
  clear hr
  obtain ⟨v4, m_1, e4, hr⟩ := hq
  have hq := asI_inv hr
  clear hr
  obtain ⟨x4, rfl, hr⟩ := hq
  refine wo_step (v := (.i .i64 x4)) (s_call (mc rfl mn) (callM_le hM.call e4)) ?_
  refine wo_step (v := (.i .i64 x4)) (s_pure (p_mv rfl)) ?_
  refine wo_nil ?_
  refine nx_norm ?_
  refine w_ret ?_
  exact qf ret_ok (rt rfl rn) hr

/- (dibber/turn.hours).withoutLeast -/

def g64 (M : Means) (ro : List ABlk) (x0 : Int) (m0 : Mm) : Option (AVal × Heap × Nat × Nat) :=
  forceI (wr .u32 (x0 - 1)) fun x5 =>
  forceI (bitV .and .u32 x0 x5) fun x6 =>
  finM m0.h.length (tupA [(.i .u32 x6)]) m0

theorem g64_ok {ro : List ABlk} {O : Caller} {M : Means} (hM : M.Ok ⟨F, O⟩ ro) {x0 h r} (ho : O 64 [(.i .u32 x0)] h = none) (hr : g64 M ro x0 ⟨h, h.length, h.length⟩ = some r) : callX ⟨F, O⟩ ro 64 [(.i .u32 x0)] h = some r := by
  refine callX_of (F := ⟨F, O⟩) (fn := fn64) (g := g64 M ro x0) ho rfl rfl hr ?_
  clear ho
  clear hr
  intro m0 t0 ht hr
  have g0 : t0.get 0 = (.i .u32 x0) := ht 0
  clear ht
  unfold g64 at hr
  refine w_seq ?_
  refine w_ops ?_
  refine wo_step (v := (.i .u32 0)) (s_pure (p_mv rfl)) ?_
  refine wo_nil ?_
  refine nx_norm ?_
  refine w_seq ?_
  refine w_ops ?_
  refine wo_step (v := (.i .u32 x0)) (s_pure (p_mv g0)) ?_
  refine wo_step (v := (.i .u32 x0)) (s_pure (p_mv g0)) ?_
  have hq := forceI_inv hr
  clear hr
  obtain ⟨x5, e5, hr⟩ := hq
  refine wo_step (v := (.i .u32 x5)) (s_pure (p_bin rfl rfl (b_sub.trans (ci e5)))) ?_
  have hq := forceI_inv hr
  clear hr
  obtain ⟨x6, e6, hr⟩ := hq
  refine wo_step (v := (.i .u32 x6)) (s_pure (p_bin rfl rfl (b_and.trans (ci e6)))) ?_
  refine wo_step (v := (.i .u32 x6)) (s_pure (p_mv rfl)) ?_
  refine wo_nil ?_
  refine nx_norm ?_
  refine w_ret ?_
  exact qf ret_ok (rt rfl rn) hr

/- (dibber/turn.demands).open -/
abbrev g65_I0 (v2 : AVal) (v3 : AVal) (v4 : AVal) (x13 : Int) (m_3 : Mm) (s : Int × Int) (m1 : Mm) (t1 : Tr) : Prop :=
  match s with
  | (x7, x14) => m_3 = m1 ∧ t1.get 7 = (.i .u32 x7) ∧ t1.get 14 = (.i .i64 x14) ∧ t1.get 2 = v2 ∧ t1.get 3 = v3 ∧ t1.get 4 = v4 ∧ t1.get 12 = v2 ∧ t1.get 13 = (.i .i64 x13)
abbrev g65_J0 (v2 : AVal) (v3 : AVal) (v4 : AVal) (x13 : Int) (m_3 : Mm) (o : Int) (e : AExit) (m1 : Mm) (t1 : Tr) : Prop :=
  match o with
  | y7 => e = (.exit 0) ∧ m_3 = m1 ∧ t1.get 7 = (.i .u32 y7)
def g65_b0 (M : Means) (ro : List ABlk) (v2 : AVal) (v3 : AVal) (v4 : AVal) (x13 : Int) (m_3 : Mm) (x7 : Int) (x14 : Int) : Option ((Int × Int) ⊕ (Int)) :=
  forceB (ltI x14 x13) fun c15 =>
  cond c15 (
    bindO (evP .e (.ixS 1 (.c v2) (.c (.i .i64 x14)))) fun v17 =>
    bindO (ldM ro m_3 true 1 v17) fun v18 =>
    asI .i64 v18 fun x18 =>
    bindO (ldA ro m_3.h false 3 v3) fun v20 =>
    bindO (evP .e (.len false (.c v2))) fun v23 =>
    asI .i64 v23 fun x23 =>
    bindO (evP .e (.ixA 6 6 (.c v4) (.c (.i .i64 x14)))) fun v24 =>
    bindO (evP .e (.ixA 6 1 (.c v24) (.c (.i .i64 x23)))) fun v25 =>
    bindO (ldA ro m_3.h true 1 v25) fun v26 =>
    asI .u32 v26 fun x26 =>
    bindO (callN M.call m_3.h 78 [v20, (.i .u32 x26), (.i .i64 x18)]) fun v28 =>
    asI .u32 v28 fun x28 =>
    forceI (bitV .and .u32 x7 x28) fun x29 =>
    forceI (wr .i64 (x14 + 1)) fun x30 =>
    some (.inl (x29, x30))) (
    some (.inr x7))
def g65 (M : Means) (ro : List ABlk) (v0 : AVal) (v1 : AVal) (v2 : AVal) (m0 : Mm) : Option (AVal × Heap × Nat × Nat) :=
  bindP (stepM ro m0 (.bx 55 3 (.c v0))) fun v3 m_1 =>
  bindP (stepM ro m_1 (.bx 84 36 (.c v1))) fun v4 m_2 =>
  bindO (ldM ro m_2 false 3 v3) fun v10 =>
  bindP (callM M.call m_2 76 [v10]) fun v11 m_3 =>
  asI .u32 v11 fun x11 =>
  bindO (evP .e (.len false (.c v2))) fun v13 =>
  asI .i64 v13 fun x13 =>
  bindO (M.loop (S := Int × Int) (R := Int) (fun s => g65_b0 M ro v2 v3 v4 x13 m_3 s.1 s.2) (x11, 0)) fun x7_1 =>
  finM m0.h.length (tupA [(.i .u32 x7_1)]) m_3

theorem g65_ok {ro : List ABlk} {O : Caller} {M : Means} (hM : M.Ok ⟨F, O⟩ ro) {v0 v1 v2 h r} (ho : O 65 [v0, v1, v2] h = none) (hr : g65 M ro v0 v1 v2 ⟨h, h.length, h.length⟩ = some r) : callX ⟨F, O⟩ ro 65 [v0, v1, v2] h = some r := by
  refine callX_of (F := ⟨F, O⟩) (fn := fn65) (g := g65 M ro v0 v1 v2) ho rfl rfl hr ?_
  clear ho
  clear hr
  intro m0 t0 ht hr
  have g0 : t0.get 0 = v0 := ht 0
  have g1 : t0.get 1 = v1 := ht 1
  have g2 : t0.get 2 = v2 := ht 2
  clear ht
  unfold g65 at hr
  refine w_seq ?_
  refine w_ops ?_
  have hq := bindP_inv hr
  clear hr
  obtain ⟨v3, m_1, e3, hr⟩ := hq
  refine wo_step (v := v3) (s_bx g0 e3) ?_
  have hq := bindP_inv hr
  clear hr
  obtain ⟨v4, m_2, e4, hr⟩ := hq
  refine wo_step (v := v4) (s_bx g1 e4) ?_
  refine wo_step (v := (.i .u32 0)) (s_pure (p_mv rfl)) ?_
  refine wo_nil ?_
  refine nx_norm ?_
  refine w_seq ?_
  refine w_ops ?_
  have hq := bindO_inv hr
  clear hr
  obtain ⟨v10, e10, hr⟩ := hq
  refine wo_step (v := v10) (s_ld rfl e10) ?_
  have hq := bindP_inv hr
  clear hr
  obtain ⟨v11, m_3, e11, hr⟩ := hq
  have hq := asI_inv hr
  clear hr
  obtain ⟨x11, rfl, hr⟩ := hq
  refine wo_step (v := (.i .u32 x11)) (s_call (mc rfl mn) (callM_le hM.call e11)) ?_
  refine wo_step (v := (.i .u32 x11)) (s_pure (p_mv rfl)) ?_
  refine wo_nil ?_
  refine nx_norm ?_
  refine w_seq ?_
  refine w_seq ?_
  refine w_ops ?_
  refine wo_step (v := v2) (s_pure (p_mv g2)) ?_
  have hq := bindO_inv hr
  clear hr
  obtain ⟨v13, e13, hr⟩ := hq
  have hq := asI_inv hr
  clear hr
  obtain ⟨x13, rfl, hr⟩ := hq
  refine wo_step (v := (.i .i64 x13)) (s_pure (o_len rfl e13)) ?_
  refine wo_step (v := (.i .i64 0)) (s_pure (p_mv rfl)) ?_
  refine wo_nil ?_
  refine nx_norm ?_
  refine w_block ?_
  have hq := bindO_inv hr
  clear hr
  obtain ⟨o, hl, hr⟩ := hq
  obtain ⟨n, hl⟩ := hM.loop _ _ _ hl
  refine jp_mono (w_loop _ (g65_I0 v2 v3 v4 x13 m_3) (g65_J0 v2 v3 v4 x13 m_3) ?_ n _ _ _ _ hl ⟨rfl, gl rfl, gl rfl, gl g2, gl rfl, gl rfl, gl rfl, gl rfl⟩) ?_
  · clear hr hl
    intro s mm_1 t_1 o hi hr
    obtain ⟨x7, x14⟩ := s
    obtain ⟨rfl, g7, g14, g2, g3, g4, g12, g13⟩ := hi
    unfold g65_b0 at hr
    refine w_seq ?_
    refine w_ops ?_
    have hq := forceB_inv hr
    clear hr
    obtain ⟨c15, e15, hr⟩ := hq
    refine wo_step (v := (.b c15)) (s_pure (p_bin g14 g13 (b_lss.trans (cb e15)))) ?_
    refine wo_nil ?_
    refine nx_norm ?_
    refine w_seq ?_
    have hq := cond_inv hr
    clear hr
    rcases hq with ⟨rfl, hr⟩ | ⟨rfl, hr⟩
    · refine w_condT rfl ?_
      refine w_skip ?_
      refine nx_norm ?_
      refine w_seq ?_
      refine w_block ?_
      refine w_seq ?_
      refine w_ops ?_
      refine wo_step (v := (.i .i64 x14)) (s_pure (p_mv g14)) ?_
      have hq := bindO_inv hr
      clear hr
      obtain ⟨v17, e17, hr⟩ := hq
      refine wo_step (v := v17) (s_pure (o_ixS g12 g14 e17)) ?_
      have hq := bindO_inv hr
      clear hr
      obtain ⟨v18, e18, hr⟩ := hq
      have hq := asI_inv hr
      clear hr
      obtain ⟨x18, rfl, hr⟩ := hq
      refine wo_step (v := (.i .i64 x18)) (s_ld rfl e18) ?_
      refine wo_step (v := (.i .i64 x14)) (s_pure (p_mv rfl)) ?_
      refine wo_step (v := (.i .i64 x18)) (s_pure (p_mv rfl)) ?_
      refine wo_nil ?_
      refine nx_norm ?_
      refine w_any ?_
      refine wa_step (v := (.i .u32 x7)) (a_pure (p_mv g7)) ?_
      have hq := bindO_inv hr
      clear hr
      obtain ⟨v20, e20, hr⟩ := hq
      refine wa_step (v := v20) (a_ld g3 e20) ?_
      refine wa_step (v := (.i .i64 x14)) (a_pure (p_mv rfl)) ?_
      refine wa_step (v := v2) (a_pure (p_mv g2)) ?_
      have hq := bindO_inv hr
      clear hr
      obtain ⟨v23, e23, hr⟩ := hq
      have hq := asI_inv hr
      clear hr
      obtain ⟨x23, rfl, hr⟩ := hq
      refine wa_step (v := (.i .i64 x23)) (a_pure (o_len rfl e23)) ?_
      have hq := bindO_inv hr
      clear hr
      obtain ⟨v24, e24, hr⟩ := hq
      refine wa_step (v := v24) (a_pure (o_ixA g4 rfl e24)) ?_
      have hq := bindO_inv hr
      clear hr
      obtain ⟨v25, e25, hr⟩ := hq
      refine wa_step (v := v25) (a_pure (o_ixA rfl rfl e25)) ?_
      have hq := bindO_inv hr
      clear hr
      obtain ⟨v26, e26, hr⟩ := hq
      have hq := asI_inv hr
      clear hr
      obtain ⟨x26, rfl, hr⟩ := hq
      refine wa_step (v := (.i .u32 x26)) (a_ld rfl e26) ?_
      refine wa_step (v := (.i .i64 x18)) (a_pure (p_mv rfl)) ?_
      have hq := bindO_inv hr
      clear hr
      obtain ⟨v28, e28, hr⟩ := hq
      have hq := asI_inv hr
      clear hr
      obtain ⟨x28, rfl, hr⟩ := hq
      refine wa_step (v := (.i .u32 x28)) (a_call (mc rfl (mc rfl (mc rfl mn))) (callN_le hM.call e28)) ?_
      have hq := forceI_inv hr
      clear hr
      obtain ⟨x29, e29, hr⟩ := hq
      refine wa_step (v := (.i .u32 x29)) (a_pure (p_bin rfl rfl (b_and.trans (ci e29)))) ?_
      refine wa_step (v := (.i .u32 x29)) (a_pure (p_mv rfl)) ?_
      refine wa_nil ?_
      refine ⟨m_3, rfl, ?_⟩
      refine bk_norm ?_
      refine nx_norm ?_
      refine w_ops ?_
      have hq := forceI_inv hr
      clear hr
      obtain ⟨x30, e30, hr⟩ := hq
      refine wo_step (v := (.i .i64 x30)) (s_pure (p_bin g14 rfl (b_add.trans (ci e30)))) ?_
      refine wo_step (v := (.i .i64 x30)) (s_pure (p_mv rfl)) ?_
      refine wo_nil ?_
      cases hr
      exact ⟨_, _, rfl, rfl, rfl, gl rfl, gl rfl, gl g2, gl g3, gl g4, gl g12, gl g13⟩
    · refine w_condF rfl ?_
      refine w_exit ?_
      refine nx_exit ?_
      cases hr
      exact ⟨_, _, rfl, ne_norm_exit, rfl, rfl, gl g7⟩
  · obtain ⟨x7_1, ho⟩ : ∃ z, z = o := ⟨_, rfl⟩
    subst ho
    rintro _ mm t_2 ⟨rfl, rfl, g7⟩
    refine bk_hit ?_
    refine nx_norm ?_
    refine w_seq ?_
    refine w_ops ?_
    refine wo_step (v := (.i .u32 x7_1)) (s_pure (p_mv g7)) ?_
    refine wo_step (v := (.i .u32 x7_1)) (s_pure (p_mv rfl)) ?_
    refine wo_nil ?_
    refine nx_norm ?_
    refine w_ret ?_
    exact qf ret_ok (rt rfl rn) hr

/- (dibber/turn.demands).modulo -/

def g70 (M : Means) (ro : List ABlk) (v0 : AVal) (x1 : Int) (m0 : Mm) : Option (AVal × Heap × Nat × Nat) :=
  bindP (stepM ro m0 (.bx 55 3 (.c v0))) fun v2 m_1 =>
  bindO (evP .e (.faddr 0 (.c v2))) fun v6 =>
  bindO (ldA ro m_1.h true 1 v6) fun v7 =>
  asI .i64 v7 fun x7 =>
  chk (!eqI x7 (.ofNat 0)) <|
  forceI (Int.tmod x1 x7) fun x8 =>
  bindO (evP .e (.faddr 0 (.c v2))) fun v9 =>
  bindO (ldA ro m_1.h true 1 v9) fun v10 =>
  asI .i64 v10 fun x10 =>
  forceI (wr .i64 (x8 + x10)) fun x11 =>
  bindO (evP .e (.faddr 0 (.c v2))) fun v12 =>
  bindO (ldA ro m_1.h true 1 v12) fun v13 =>
  asI .i64 v13 fun x13 =>
  chk (!eqI x13 (.ofNat 0)) <|
  forceI (Int.tmod x11 x13) fun x14 =>
  finM m0.h.length (tupA [(.i .i64 x14)]) m_1

theorem g70_ok {ro : List ABlk} {O : Caller} {M : Means} (hM : M.Ok ⟨F, O⟩ ro) {v0 x1 h r} (ho : O 70 [v0, (.i .i64 x1)] h = none) (hr : g70 M ro v0 x1 ⟨h, h.length, h.length⟩ = some r) : callX ⟨F, O⟩ ro 70 [v0, (.i .i64 x1)] h = some r := by
  refine callX_of (F := ⟨F, O⟩) (fn := fn70) (g := g70 M ro v0 x1) ho rfl rfl hr ?_
  clear ho
  clear hr
  intro m0 t0 ht hr
  have g0 : t0.get 0 = v0 := ht 0
  have g1 : t0.get 1 = (.i .i64 x1) := ht 1
  clear ht
  unfold g70 at hr
  refine w_seq ?_
  refine w_ops ?_
  have hq := bindP_inv hr
  clear hr
  obtain ⟨v2, m_1, e2, hr⟩ := hq
  refine wo_step (v := v2) (s_bx g0 e2) ?_
  refine wo_step (v := (.i .i64 0)) (s_pure (p_mv rfl)) ?_
  refine wo_nil ?_
  refine nx_norm ?_
  refine w_seq ?_
  refine w_any ?_
  refine wa_step (v := (.i .i64 x1)) (a_pure (p_mv g1)) ?_
  have hq := bindO_inv hr
  clear hr
  obtain ⟨v6, e6, hr⟩ := hq
  refine wa_step (v := v6) (a_pure (o_faddr rfl e6)) ?_
  have hq := bindO_inv hr
  clear hr
  obtain ⟨v7, e7, hr⟩ := hq
  have hq := asI_inv hr
  clear hr
  obtain ⟨x7, rfl, hr⟩ := hq
  refine wa_step (v := (.i .i64 x7)) (a_ld rfl e7) ?_
  have hq := chk_inv hr
  clear hr
  obtain ⟨hc8, hr⟩ := hq
  have hq := forceI_inv hr
  clear hr
  obtain ⟨x8, e8, hr⟩ := hq
  refine wa_step (v := (.i .i64 x8)) (a_pure (p_bin rfl rfl ((b_rem hc8).trans (ci e8)))) ?_
  have hq := bindO_inv hr
  clear hr
  obtain ⟨v9, e9, hr⟩ := hq
  refine wa_step (v := v9) (a_pure (o_faddr rfl e9)) ?_
  have hq := bindO_inv hr
  clear hr
  obtain ⟨v10, e10, hr⟩ := hq
  have hq := asI_inv hr
  clear hr
  obtain ⟨x10, rfl, hr⟩ := hq
  refine wa_step (v := (.i .i64 x10)) (a_ld rfl e10) ?_
  have hq := forceI_inv hr
  clear hr
  obtain ⟨x11, e11, hr⟩ := hq
  refine wa_step (v := (.i .i64 x11)) (a_pure (p_bin rfl rfl (b_add.trans (ci e11)))) ?_
  have hq := bindO_inv hr
  clear hr
  obtain ⟨v12, e12, hr⟩ := hq
  refine wa_step (v := v12) (a_pure (o_faddr rfl e12)) ?_
  have hq := bindO_inv hr
  clear hr
  obtain ⟨v13, e13, hr⟩ := hq
  have hq := asI_inv hr
  clear hr
  obtain ⟨x13, rfl, hr⟩ := hq
  refine wa_step (v := (.i .i64 x13)) (a_ld rfl e13) ?_
  have hq := chk_inv hr
  clear hr
  obtain ⟨hc14, hr⟩ := hq
  have hq := forceI_inv hr
  clear hr
  obtain ⟨x14, e14, hr⟩ := hq
  refine wa_step (v := (.i .i64 x14)) (a_pure (p_bin rfl rfl ((b_rem hc14).trans (ci e14)))) ?_
  refine wa_step (v := (.i .i64 x14)) (a_pure (p_mv rfl)) ?_
  refine wa_nil ?_
  refine ⟨m_1, rfl, ?_⟩
  refine nx_norm ?_
  refine w_ret ?_
  exact qf ret_ok (rt rfl rn) hr

/- slices.Min[[]int,int] -/
abbrev g72_I0 (v0 : AVal) (m0 : Mm) (s : Int × Int) (m1 : Mm) (t1 : Tr) : Prop :=
  match s with
  | (x3, x4) => m0 = m1 ∧ t1.get 3 = (.i .i64 x3) ∧ t1.get 4 = (.i .i64 x4) ∧ t1.get 0 = v0
abbrev g72_J0 (v0 : AVal) (m0 : Mm) (o : Int) (e : AExit) (m1 : Mm) (t1 : Tr) : Prop :=
  match o with
  | y3 => e = (.exit 0) ∧ m0 = m1 ∧ t1.get 3 = (.i .i64 y3)
def g72_b0 (M : Means) (ro : List ABlk) (v0 : AVal) (m0 : Mm) (x3 : Int) (x4 : Int) : Option ((Int × Int) ⊕ (Int)) :=
  bindO (evP .e (.len false (.c v0))) fun v14 =>
  asI .i64 v14 fun x14 =>
  forceB (ltI x4 x14) fun c15 =>
  cond c15 (
    bindO (evP .e (.ixS 1 (.c v0) (.c (.i .i64 x4)))) fun v21 =>
    bindO (ldM ro m0 true 1 v21) fun v22 =>
    asI .i64 v22 fun x22 =>
    forceI (mxV false x3 x22) fun x23 =>
    forceI (wr .i64 (x4 + 1)) fun x17 =>
    some (.inl (x23, x17))) (
    some (.inr x3))
def g72 (M : Means) (ro : List ABlk) (v0 : AVal) (m0 : Mm) : Option (AVal × Heap × Nat × Nat) :=
  bindO (evP .e (.len false (.c v0))) fun v6 =>
  asI .i64 v6 fun x6 =>
  forceB (ltI x6 1) fun c7 =>
  cond c7 (
    none) (
    bindO (evP .e (.ixS 1 (.c v0) (.c (.i .i64 0)))) fun v10 =>
    bindO (ldM ro m0 true 1 v10) fun v11 =>
    asI .i64 v11 fun x11 =>
    bindO (M.loop (S := Int × Int) (R := Int) (fun s => g72_b0 M ro v0 m0 s.1 s.2) (x11, 1)) fun x3_1 =>
    finM m0.h.length (tupA [(.i .i64 x3_1)]) m0)

theorem g72_ok {ro : List ABlk} {O : Caller} {M : Means} (hM : M.Ok ⟨F, O⟩ ro) {v0 h r} (ho : O 72 [v0] h = none) (hr : g72 M ro v0 ⟨h, h.length, h.length⟩ = some r) : callX ⟨F, O⟩ ro 72 [v0] h = some r := by
  refine callX_of (F := ⟨F, O⟩) (fn := fn72) (g := g72 M ro v0) ho rfl rfl hr ?_
  clear ho
  clear hr
  intro m0 t0 ht hr
  have g0 : t0.get 0 = v0 := ht 0
  clear ht
  unfold g72 at hr
  refine w_seq ?_
  refine w_ops ?_
  refine wo_step (v := (.i .i64 0)) (s_pure (p_mv rfl)) ?_
  refine wo_nil ?_
  refine nx_norm ?_
  refine w_seq ?_
  refine w_seq ?_
  refine w_ops ?_
  refine wo_step (v := v0) (s_pure (p_mv g0)) ?_
  have hq := bindO_inv hr
  clear hr
  obtain ⟨v6, e6, hr⟩ := hq
  have hq := asI_inv hr
  clear hr
  obtain ⟨x6, rfl, hr⟩ := hq
  refine wo_step (v := (.i .i64 x6)) (s_pure (o_len rfl e6)) ?_
  have hq := forceB_inv hr
  clear hr
  obtain ⟨c7, e7, hr⟩ := hq
  refine wo_step (v := (.b c7)) (s_pure (p_bin rfl rfl (b_lss.trans (cb e7)))) ?_
  refine wo_nil ?_
  refine nx_norm ?_
  have hq := cond_inv hr
  clear hr
  rcases hq with ⟨rfl, hr⟩ | ⟨rfl, hr⟩
  · refine w_condT rfl ?_
    cases hr
  · refine w_condF rfl ?_
    refine w_skip ?_
    refine nx_norm ?_
    refine w_seq ?_
    refine w_ops ?_
    refine wo_step (v := v0) (s_pure (p_mv g0)) ?_
    have hq := bindO_inv hr
    clear hr
    obtain ⟨v10, e10, hr⟩ := hq
    refine wo_step (v := v10) (s_pure (o_ixS rfl rfl e10)) ?_
    have hq := bindO_inv hr
    clear hr
    obtain ⟨v11, e11, hr⟩ := hq
    have hq := asI_inv hr
    clear hr
    obtain ⟨x11, rfl, hr⟩ := hq
    refine wo_step (v := (.i .i64 x11)) (s_ld rfl e11) ?_
    refine wo_step (v := (.i .i64 x11)) (s_pure (p_mv rfl)) ?_
    refine wo_nil ?_
    refine nx_norm ?_
    refine w_seq ?_
    refine w_seq ?_
    refine w_ops ?_
    refine wo_step (v := (.i .i64 1)) (s_pure (p_mv rfl)) ?_
    refine wo_nil ?_
    refine nx_norm ?_
    refine w_block ?_
    have hq := bindO_inv hr
    clear hr
    obtain ⟨o, hl, hr⟩ := hq
    obtain ⟨n, hl⟩ := hM.loop _ _ _ hl
    refine jp_mono (w_loop _ (g72_I0 v0 m0) (g72_J0 v0 m0) ?_ n _ _ _ _ hl ⟨rfl, gl rfl, gl rfl, gl g0⟩) ?_
    · clear hr hl
      intro s mm_1 t_1 o hi hr
      obtain ⟨x3, x4⟩ := s
      obtain ⟨rfl, g3, g4, g0⟩ := hi
      unfold g72_b0 at hr
      refine w_seq ?_
      refine w_seq ?_
      refine w_ops ?_
      refine wo_step (v := (.i .i64 x4)) (s_pure (p_mv g4)) ?_
      refine wo_step (v := v0) (s_pure (p_mv g0)) ?_
      have hq := bindO_inv hr
      clear hr
      obtain ⟨v14, e14, hr⟩ := hq
      have hq := asI_inv hr
      clear hr
      obtain ⟨x14, rfl, hr⟩ := hq
      refine wo_step (v := (.i .i64 x14)) (s_pure (o_len rfl e14)) ?_
      have hq := forceB_inv hr
      clear hr
      obtain ⟨c15, e15, hr⟩ := hq
      refine wo_step (v := (.b c15)) (s_pure (p_bin rfl rfl (b_lss.trans (cb e15)))) ?_
      refine wo_nil ?_
      refine nx_norm ?_
      have hq := cond_inv hr
      clear hr
      rcases hq with ⟨rfl, hr⟩ | ⟨rfl, hr⟩
      · refine w_condT rfl ?_
        refine w_skip ?_
        refine nx_norm ?_
        refine w_seq ?_
        refine w_block ?_
        refine w_ops ?_
        refine wo_step (v := (.i .i64 x3)) (s_pure (p_mv g3)) ?_
        refine wo_step (v := v0) (s_pure (p_mv g0)) ?_
        refine wo_step (v := (.i .i64 x4)) (s_pure (p_mv g4)) ?_
        have hq := bindO_inv hr
        clear hr
        obtain ⟨v21, e21, hr⟩ := hq
        refine wo_step (v := v21) (s_pure (o_ixS rfl rfl e21)) ?_
        have hq := bindO_inv hr
        clear hr
        obtain ⟨v22, e22, hr⟩ := hq
        have hq := asI_inv hr
        clear hr
        obtain ⟨x22, rfl, hr⟩ := hq
        refine wo_step (v := (.i .i64 x22)) (s_ld rfl e22) ?_
        have hq := forceI_inv hr
        clear hr
        obtain ⟨x23, e23, hr⟩ := hq
        refine wo_step (v := (.i .i64 x23)) (s_pure ((p_mx rfl rfl).trans (ci e23))) ?_
        refine wo_step (v := (.i .i64 x23)) (s_pure (p_mv rfl)) ?_
        refine wo_nil ?_
        refine bk_norm ?_
        refine nx_norm ?_
        refine w_ops ?_
        refine wo_step (v := (.i .i64 x4)) (s_pure (p_mv g4)) ?_
        have hq := forceI_inv hr
        clear hr
        obtain ⟨x17, e17, hr⟩ := hq
        refine wo_step (v := (.i .i64 x17)) (s_pure (p_bin rfl rfl (b_add.trans (ci e17)))) ?_
        refine wo_step (v := (.i .i64 x17)) (s_pure (p_mv rfl)) ?_
        refine wo_nil ?_
        cases hr
        exact ⟨_, _, rfl, rfl, rfl, gl rfl, gl rfl, gl g0⟩
      · refine w_condF rfl ?_
        refine w_exit ?_
        refine nx_exit ?_
        cases hr
        exact ⟨_, _, rfl, ne_norm_exit, rfl, rfl, gl g3⟩
    · obtain ⟨x3_1, ho⟩ : ∃ z, z = o := ⟨_, rfl⟩
      subst ho
      rintro _ mm t_2 ⟨rfl, rfl, g3⟩
      refine bk_hit ?_
      refine nx_norm ?_
      refine w_seq ?_
      refine w_ops ?_
      refine wo_step (v := (.i .i64 x3_1)) (s_pure (p_mv g3)) ?_
      refine wo_step (v := (.i .i64 x3_1)) (s_pure (p_mv rfl)) ?_
      refine wo_nil ?_
      refine nx_norm ?_
      refine w_ret ?_
      exact qf ret_ok (rt rfl rn) hr

end Go.Proofs.YtddnpchfjdgigaaDoor.T

/- Plain functions, and that the small machine answers as they do. -/
import Derived.Test.YtfohppnelbbepaaVmP
import Derived.Test.YtfohppnelbbepaaVmAE
open Go.Vm
set_option linter.unusedVariables false
namespace Go.Proofs.Ytfohppnelbbepaa.T
open Go
/- dibber/dibberlaw03.VineAdds -/
abbrev g10_J0 (v0 : AVal) (s1 : List UInt8) (x4 : Int) (x33 : Int) (x36 : Int) (s42 : List UInt8) (s51 : List UInt8) (m_4 : Mm) (o : Bool) (m1 : Mm) (t1 : Tr) : Prop :=
  match o with
  | c58 => m_4 = m1 ∧ t1.get 58 = (.b c58) ∧ t1.get 0 = v0 ∧ t1.get 1 = (.s s1) ∧ t1.get 4 = (.i .u16 x4) ∧ t1.get 11 = (.i .i64 x33) ∧ t1.get 12 = (.i .i64 x36) ∧ t1.get 13 = (.s s42) ∧ t1.get 15 = (.s s51)
abbrev g10_J1 (v0 : AVal) (s1 : List UInt8) (x4 : Int) (x33 : Int) (x36 : Int) (s51 : List UInt8) (o : (Mm ⊕ (Bool × Mm))) (e : AExit) (m1 : Mm) (t1 : Tr) : Prop :=
  match o with
  | (.inl mo) => e = .norm ∧ mo = m1 ∧ t1.get 0 = v0 ∧ t1.get 1 = (.s s1) ∧ t1.get 4 = (.i .u16 x4) ∧ t1.get 11 = (.i .i64 x33) ∧ t1.get 12 = (.i .i64 x36) ∧ t1.get 15 = (.s s51)
  | (.inr (y10, mo)) => e = .ret ∧ mo = m1 ∧ t1.get 10 = (.b y10)
abbrev g10_J2 (v0 : AVal) (s1 : List UInt8) (x4 : Int) (x33 : Int) (x36 : Int) (s51 : List UInt8) (m_6 : Mm) (o : Bool) (m1 : Mm) (t1 : Tr) : Prop :=
  match o with
  | c76 => m_6 = m1 ∧ t1.get 76 = (.b c76) ∧ t1.get 0 = v0 ∧ t1.get 1 = (.s s1) ∧ t1.get 4 = (.i .u16 x4) ∧ t1.get 11 = (.i .i64 x33) ∧ t1.get 12 = (.i .i64 x36) ∧ t1.get 15 = (.s s51)
abbrev g10_J3 (v0 : AVal) (s1 : List UInt8) (x4 : Int) (x33 : Int) (x36 : Int) (s51 : List UInt8) (x84 : Int) (v93 : AVal) (m_9 : Mm) (o : Bool) (m1 : Mm) (t1 : Tr) : Prop :=
  match o with
  | c100 => m_9 = m1 ∧ t1.get 100 = (.b c100) ∧ t1.get 0 = v0 ∧ t1.get 1 = (.s s1) ∧ t1.get 4 = (.i .u16 x4) ∧ t1.get 11 = (.i .i64 x33) ∧ t1.get 12 = (.i .i64 x36) ∧ t1.get 15 = (.s s51) ∧ t1.get 19 = (.i .i64 x84) ∧ t1.get 20 = v93
abbrev g10_J4 (v0 : AVal) (s1 : List UInt8) (x4 : Int) (x33 : Int) (x36 : Int) (s51 : List UInt8) (v93 : AVal) (m_9 : Mm) (o : Bool) (m1 : Mm) (t1 : Tr) : Prop :=
  match o with
  | c106 => m_9 = m1 ∧ t1.get 106 = (.b c106) ∧ t1.get 0 = v0 ∧ t1.get 1 = (.s s1) ∧ t1.get 4 = (.i .u16 x4) ∧ t1.get 11 = (.i .i64 x33) ∧ t1.get 12 = (.i .i64 x36) ∧ t1.get 15 = (.s s51) ∧ t1.get 20 = v93
abbrev g10_J5 (v0 : AVal) (s1 : List UInt8) (x4 : Int) (x33 : Int) (x36 : Int) (s51 : List UInt8) (v93 : AVal) (m_9 : Mm) (o : Bool) (m1 : Mm) (t1 : Tr) : Prop :=
  match o with
  | c113 => m_9 = m1 ∧ t1.get 113 = (.b c113) ∧ t1.get 0 = v0 ∧ t1.get 1 = (.s s1) ∧ t1.get 4 = (.i .u16 x4) ∧ t1.get 11 = (.i .i64 x33) ∧ t1.get 12 = (.i .i64 x36) ∧ t1.get 15 = (.s s51) ∧ t1.get 20 = v93
abbrev g10_I6 (v0 : AVal) (s1 : List UInt8) (x4 : Int) (x33 : Int) (x36 : Int) (s51 : List UInt8) (v93 : AVal) (v116 : AVal) (s : Int × Mm) (m1 : Mm) (t1 : Tr) : Prop :=
  match s with
  | (x22, m_11) => m_11 = m1 ∧ t1.get 22 = (.i .i64 x22) ∧ t1.get 0 = v0 ∧ t1.get 1 = (.s s1) ∧ t1.get 4 = (.i .u16 x4) ∧ t1.get 11 = (.i .i64 x33) ∧ t1.get 12 = (.i .i64 x36) ∧ t1.get 15 = (.s s51) ∧ t1.get 20 = v93 ∧ t1.get 21 = v116
abbrev g10_J6 (v0 : AVal) (s1 : List UInt8) (x4 : Int) (x33 : Int) (x36 : Int) (s51 : List UInt8) (v93 : AVal) (v116 : AVal) (o : (Mm ⊕ (Bool × Mm))) (e : AExit) (m1 : Mm) (t1 : Tr) : Prop :=
  match o with
  | (.inl mo) => e = (.exit 0) ∧ mo = m1 ∧ t1.get 0 = v0 ∧ t1.get 1 = (.s s1) ∧ t1.get 4 = (.i .u16 x4) ∧ t1.get 11 = (.i .i64 x33) ∧ t1.get 12 = (.i .i64 x36) ∧ t1.get 15 = (.s s51) ∧ t1.get 20 = v93 ∧ t1.get 21 = v116
  | (.inr (y10, mo)) => e = .ret ∧ mo = m1 ∧ t1.get 10 = (.b y10)
abbrev g10_J7 (v0 : AVal) (s1 : List UInt8) (x4 : Int) (x33 : Int) (x36 : Int) (s51 : List UInt8) (v93 : AVal) (v116 : AVal) (x22 : Int) (x127 : Int) (m_11 : Mm) (o : Bool) (m1 : Mm) (t1 : Tr) : Prop :=
  match o with
  | c135 => m_11 = m1 ∧ t1.get 135 = (.b c135) ∧ t1.get 0 = v0 ∧ t1.get 1 = (.s s1) ∧ t1.get 4 = (.i .u16 x4) ∧ t1.get 11 = (.i .i64 x33) ∧ t1.get 12 = (.i .i64 x36) ∧ t1.get 15 = (.s s51) ∧ t1.get 20 = v93 ∧ t1.get 21 = v116 ∧ t1.get 22 = (.i .i64 x22) ∧ t1.get 23 = (.i .i64 x127)
def g10_b6 (M : Means) (ro : List ABlk) (v0 : AVal) (s1 : List UInt8) (x4 : Int) (x33 : Int) (x36 : Int) (s51 : List UInt8) (v93 : AVal) (v116 : AVal) (x22 : Int) (m_11 : Mm) : Option ((Int × Mm) ⊕ ((Mm ⊕ (Bool × Mm)))) :=
  bindO (evP .e (.len true (.c (.s s51)))) fun v119 =>
  asI .i64 v119 fun x119 =>
  forceB (ltI x22 x119) fun c120 =>
  cond c120 (
    bindO (evP .e (.ixStr (.c (.s s51)) (.c (.i .i64 x22)))) fun v125 =>
    asI .u8 v125 fun x125 =>
    forceI (wr .u8 (x125 - 97)) fun x126 =>
    forceI (wr .i64 x126) fun x127 =>
    forceB (ltI x127 0) fun c129 =>
    bindO (cond c129 (
      some true) (
      bindO (evP .e (.len false (.c v0))) fun v133 =>
      asI .i64 v133 fun x133 =>
      forceB (!ltI x127 x133) fun c134 =>
      some c134)) fun c135 =>
    cond c135 (
      some (.inr (.inr (false, m_11)))) (
      bindO (evP .e (.ixS 1 (.c v116) (.c (.i .i64 x127)))) fun v138 =>
      bindO (ldM ro m_11 true 1 v138) fun v139 =>
      asI .i64 v139 fun x139 =>
      forceI (wr .i64 (x139 + 1)) fun x140 =>
      bindO (evP .e (.ixS 1 (.c v116) (.c (.i .i64 x127)))) fun v141 =>
      bindP (stepM ro m_11 (.st 1 (.c v141) (.c (.i .i64 x140)))) fun vn m_12 =>
      forceI (wr .i64 (x22 + 1)) fun x122 =>
      some (.inl (x122, m_12)))) (
    some (.inr (.inl m_11)))
abbrev g10_J8 (x175 : Int) (m_17 : Mm) (o : Bool) (m1 : Mm) (t1 : Tr) : Prop :=
  match o with
  | c186 => m_17 = m1 ∧ t1.get 186 = (.b c186) ∧ t1.get 16 = (.i .i64 x175)
abbrev g10_J9 (m_17 : Mm) (o : Bool) (m1 : Mm) (t1 : Tr) : Prop :=
  match o with
  | c190 => m_17 = m1 ∧ t1.get 190 = (.b c190)
abbrev g10_J10  (o : Bool × Mm) (m1 : Mm) (t1 : Tr) : Prop :=
  match o with
  | (c193, m_18) => m_18 = m1 ∧ t1.get 193 = (.b c193)
def g10 (M : Means) (ro : List ABlk) (v0 : AVal) (s1 : List UInt8) (x2 : Int) (x3 : Int) (x4 : Int) (m0 : Mm) : Option (AVal × Heap × Nat × Nat) :=
  bindP (callM M.call m0 15 [v0, (.s s1)]) fun v28 m_1 =>
  asB v28 fun c28 =>
  forceB (!c28) fun c29 =>
  cond c29 (
    bindP (callM M.call m_1 16 []) fun v30 m_2 =>
    asB v30 fun c30 =>
    finM m0.h.length (tupA [(.b c30)]) m_2) (
    forceI (Int.tmod x2 12) fun x32 =>
    forceI (wr .i64 x32) fun x33 =>
    forceI (Int.tmod x3 12) fun x35 =>
    forceI (wr .i64 x35) fun x36 =>
    bindP (callM M.call m_1 17 [v0, (.s s1), (.i .i64 x33)]) fun v41 m_3 =>
    bindO (evP .e (.ext 0 (.c v41))) fun v42 =>
    asS v42 fun s42 =>
    bindO (evP .e (.ext 1 (.c v41))) fun v43 =>
    asI .i64 v43 fun x43 =>
    forceI (wr .i64 (x33 + x36)) fun x49 =>
    bindP (callM M.call m_3 17 [v0, (.s s1), (.i .i64 x49)]) fun v50 m_4 =>
    bindO (evP .e (.ext 0 (.c v50))) fun v51 =>
    asS v51 fun s51 =>
    bindO (evP .e (.ext 1 (.c v50))) fun v52 =>
    asI .i64 v52 fun x52 =>
    forceB (!eqI x43 0) fun c54 =>
    bindO (cond c54 (
      some true) (
      forceB (!eqI x52 0) fun c57 =>
      some c57)) fun c58 =>
    cond c58 (
      bindP (callM M.call m_4 16 []) fun v59 m_5 =>
      asB v59 fun c59 =>
      finM m0.h.length (tupA [(.b c59)]) m_5) (
      bindO (evP .e (.len true (.c (.s s42)))) fun v61 =>
      asI .i64 v61 fun x61 =>
      forceB (!ltI 30 x61) fun c62 =>
      bindO (α := (Mm ⊕ (Bool × Mm))) (
        cond c62 (
          bindP (callM M.call m_4 17 [v0, (.s s42), (.i .i64 x36)]) fun v67 m_6 =>
          bindO (evP .e (.ext 0 (.c v67))) fun v68 =>
          asS v68 fun s68 =>
          bindO (evP .e (.ext 1 (.c v67))) fun v69 =>
          asI .i64 v69 fun x69 =>
          forceB (!eqI x69 0) fun c71 =>
          bindO (cond c71 (
            some true) (
            bindO (evP .e (.sbin BinOp.neq (.c (.s s68)) (.c (.s s51)))) fun v75 =>
            asB v75 fun c75 =>
            some c75)) fun c76 =>
          cond c76 (
            some (.inr (false, m_6))) (
            some (.inl m_6))) (
          some (.inl m_4))) fun o_1 => match o_1 with
      | (.inl m_7) =>
        forceI (wr .i64 (x33 + x36)) fun x82 =>
        bindP (callM M.call m_7 19 [v0, (.s s1), (.i .i64 x82)]) fun v83 m_8 =>
        bindO (evP .e (.ext 0 (.c v83))) fun v84 =>
        asI .i64 v84 fun x84 =>
        bindO (evP .e (.ext 1 (.c v83))) fun v85 =>
        asI .i64 v85 fun x85 =>
        forceI (wr .i64 (x33 + x36)) fun x91 =>
        bindP (callM M.call m_8 21 [v0, (.s s1), (.i .i64 x91)]) fun v92 m_9 =>
        bindO (evP .e (.ext 0 (.c v92))) fun v93 =>
        bindO (evP .e (.ext 1 (.c v92))) fun v94 =>
        asI .i64 v94 fun x94 =>
        forceB (!eqI x85 0) fun c96 =>
        bindO (cond c96 (
          some true) (
          forceB (!eqI x94 0) fun c99 =>
          some c99)) fun c100 =>
        bindO (cond c100 (
          some true) (
          bindO (evP .e (.len true (.c (.s s51)))) fun v104 =>
          asI .i64 v104 fun x104 =>
          forceB (!eqI x84 x104) fun c105 =>
          some c105)) fun c106 =>
        bindO (cond c106 (
          some true) (
          bindO (evP .e (.len false (.c v93))) fun v109 =>
          asI .i64 v109 fun x109 =>
          bindO (evP .e (.len false (.c v0))) fun v111 =>
          asI .i64 v111 fun x111 =>
          forceB (!eqI x109 x111) fun c112 =>
          some c112)) fun c113 =>
        cond c113 (
          finM m0.h.length (tupA [(.b false)]) m_9) (
          bindO (evP .e (.len false (.c v0))) fun v115 =>
          asI .i64 v115 fun x115 =>
          bindP (stepM ro m_9 (.mk 3 1 8 [(AVal.i IntKind.i64 0)] (.c (.i .i64 x115)) (.c (.i .i64 x115)))) fun v116 m_10 =>
          bindO (M.loop (S := Int × Mm) (R := (Mm ⊕ (Bool × Mm))) (fun s => g10_b6 M ro v0 s1 x4 x33 x36 s51 v93 v116 s.1 s.2) (0, m_10)) fun o_7 => match o_7 with
          | (.inl m_13) =>
            bindP (callM M.call m_13 23 [v116, v93]) fun v144 m_14 =>
            asB v144 fun c144 =>
            forceB (!c144) fun c145 =>
            cond c145 (
              finM m0.h.length (tupA [(.b false)]) m_14) (
              bindO (evP .e (.len true (.c (.s s51)))) fun v147 =>
              asI .i64 v147 fun x147 =>
              forceB (eqI x147 0) fun c148 =>
              cond c148 (
                bindP (callM M.call m_14 16 []) fun v149 m_15 =>
                asB v149 fun c149 =>
                finM m0.h.length (tupA [(.b c149)]) m_15) (
                forceI (wr .i64 x4) fun x151 =>
                bindO (evP .e (.len true (.c (.s s51)))) fun v153 =>
                asI .i64 v153 fun x153 =>
                chk (!eqI x153 (.ofNat 0)) <|
                forceI (Int.tmod x151 x153) fun x154 =>
                forceI (wr .i64 (x33 + x36)) fun x160 =>
                bindP (callM M.call m_14 24 [v0, (.s s1), (.i .i64 x160), (.i .i64 x154)]) fun v162 m_16 =>
                bindO (evP .e (.ext 0 (.c v162))) fun v163 =>
                asS v163 fun s163 =>
                bindO (evP .e (.ext 1 (.c v162))) fun v164 =>
                asI .i64 v164 fun x164 =>
                forceI (wr .i64 (x33 + x36)) fun x170 =>
                bindO (evP .e (.len true (.c (.s s51)))) fun v172 =>
                asI .i64 v172 fun x172 =>
                bindP (callM M.call m_16 24 [v0, (.s s1), (.i .i64 x170), (.i .i64 x172)]) fun v173 m_17 =>
                bindO (evP .e (.ext 0 (.c v173))) fun v174 =>
                asS v174 fun s174 =>
                bindO (evP .e (.ext 1 (.c v173))) fun v175 =>
                asI .i64 v175 fun x175 =>
                forceB (eqI x164 0) fun c177 =>
                bindO (cond c177 (
                  forceI (wr .i64 (x154 + 1)) fun x183 =>
                  bindO (evP .e (.slStr (.c (.s s51)) (some (.c (.i .i64 x154))) (some (.c (.i .i64 x183))))) fun v184 =>
                  asS v184 fun s184 =>
                  bindO (evP .e (.sbin BinOp.eql (.c (.s s163)) (.c (.s s184)))) fun v185 =>
                  asB v185 fun c185 =>
                  some c185) (
                  some false)) fun c186 =>
                bindO (cond c186 (
                  forceB (eqI x175 6) fun c189 =>
                  some c189) (
                  some false)) fun c190 =>
                bindO (cond c190 (
                  bindP (callM M.call m_17 16 []) fun v192 m_19 =>
                  asB v192 fun c192 =>
                  some (c192, m_19)) (
                  some (false, m_17))) fun ⟨c193, m_18⟩ =>
                finM m0.h.length (tupA [(.b c193)]) m_18))
          | (.inr (c10, m_20)) =>
            finM m0.h.length (tupA [(.b c10)]) m_20)
      | (.inr (c10_1, m_21)) =>
        finM m0.h.length (tupA [(.b c10_1)]) m_21))
theorem g10_ok {ro : List ABlk} {O : Caller} {M : Means} (hM : M.Ok ⟨F, O⟩ ro) {v0 s1 x2 x3 x4 h r} (ho : O 10 [v0, (.s s1), (.i .u8 x2), (.i .u8 x3), (.i .u16 x4)] h = none) (hr : g10 M ro v0 s1 x2 x3 x4 ⟨h, h.length, h.length⟩ = some r) : callX ⟨F, O⟩ ro 10 [v0, (.s s1), (.i .u8 x2), (.i .u8 x3), (.i .u16 x4)] h = some r := by
  refine callX_of (F := ⟨F, O⟩) (fn := fn10) (g := g10 M ro v0 s1 x2 x3 x4) ho rfl rfl hr ?_
  clear ho
  clear hr
  intro m0 t0 ht hr
  have g0 : t0.get 0 = v0 := ht 0
  have g1 : t0.get 1 = (.s s1) := ht 1
  have g2 : t0.get 2 = (.i .u8 x2) := ht 2
  have g3 : t0.get 3 = (.i .u8 x3) := ht 3
  have g4 : t0.get 4 = (.i .u16 x4) := ht 4
  clear ht
  unfold g10 at hr
  refine w_seq (w_ops (wo_step (v := (.b false)) (s_pure (p_mv rfl)) (wo_nil (nx_norm (w_seq (w_seq (w_ops (wo_step (s_pure (p_mv g0)) (wo_step (s_pure (p_mv g1)) ?_)))))))))
  obtain ⟨v28, m_1, e28, z1⟩ := bindP_inv hr
  obtain ⟨c28, rfl, z2⟩ := asB_inv z1
  refine wo_step (s_call (mc rfl (mc rfl mn)) (callM_le hM.call e28)) ?_
  obtain ⟨c29, e29, z3⟩ := forceB_inv z2
  refine wo_step (s_pure ((p_not rfl).trans (cb e29))) (wo_nil (nx_norm ?_))
  rcases cond_inv z3 with ⟨rfl, z4⟩ | ⟨rfl, z4⟩
  · refine w_condT rfl ?_
    refine w_seq (w_ops ?_)
    obtain ⟨v30, m_2, e30, z5⟩ := bindP_inv z4
    obtain ⟨c30, rfl, z6⟩ := asB_inv z5
    refine wo_step (s_call mn (callM_le hM.call e30)) (wo_step (v := (.b c30)) (s_pure (p_mv rfl)) (wo_nil (nx_norm ?_)))
    refine w_ret ?_
    refine nx_ret ?_
    exact qf ret_ok (rt rfl rn) z6
  · refine w_condF rfl ?_
    refine w_skip (nx_norm (w_seq (w_ops (wo_step (s_pure (p_mv g2)) ?_))))
    obtain ⟨x32, e32, z7⟩ := forceI_inv z4
    refine wo_step (s_pure (p_bin rfl rfl ((b_rem rfl).trans (ci e32)))) ?_
    obtain ⟨x33, e33, z8⟩ := forceI_inv z7
    refine wo_step (s_pure ((p_conv rfl).trans (ci e33))) (wo_step (s_pure (p_mv g3)) ?_)
    obtain ⟨x35, e35, z9⟩ := forceI_inv z8
    refine wo_step (s_pure (p_bin rfl rfl ((b_rem rfl).trans (ci e35)))) ?_
    obtain ⟨x36, e36, z10⟩ := forceI_inv z9
    refine wo_step (s_pure ((p_conv rfl).trans (ci e36))) (wo_step (v := (.i .i64 x33)) (s_pure (p_mv rfl)) (wo_step (v := (.i .i64 x36)) (s_pure (p_mv rfl)) (wo_nil (nx_norm (w_seq (w_ops (wo_step (s_pure (p_mv g0)) (wo_step (s_pure (p_mv g1)) (wo_step (v := (.i .i64 x33)) (s_pure (p_mv rfl)) ?_)))))))))
    obtain ⟨v41, m_3, e41, z11⟩ := bindP_inv z10
    refine wo_step (s_call (mc rfl (mc rfl (mc rfl mn))) (callM_le hM.call e41)) (wo_step (v := v41) (s_pure (p_mv rfl)) ?_)
    obtain ⟨v42, e42, z12⟩ := bindO_inv z11
    obtain ⟨s42, rfl, z13⟩ := asS_inv z12
    refine wo_step (s_pure (o_ext rfl e42)) ?_
    obtain ⟨v43, e43, z14⟩ := bindO_inv z13
    obtain ⟨x43, rfl, z15⟩ := asI_inv z14
    refine wo_step (s_pure (o_ext rfl e43)) (wo_step (v := (.s s42)) (s_pure (p_mv rfl)) (wo_step (v := (.i .i64 x43)) (s_pure (p_mv rfl)) (wo_nil (nx_norm (w_seq (w_ops (wo_step (s_pure (p_mv g0)) (wo_step (s_pure (p_mv g1)) (wo_step (v := (.i .i64 x33)) (s_pure (p_mv rfl)) (wo_step (v := (.i .i64 x36)) (s_pure (p_mv rfl)) ?_))))))))))
    obtain ⟨x49, e49, z16⟩ := forceI_inv z15
    refine wo_step (s_pure (p_bin rfl rfl (b_add.trans (ci e49)))) ?_
    obtain ⟨v50, m_4, e50, z17⟩ := bindP_inv z16
    refine wo_step (s_call (mc rfl (mc rfl (mc rfl mn))) (callM_le hM.call e50)) (wo_step (v := v50) (s_pure (p_mv rfl)) ?_)
    obtain ⟨v51, e51, z18⟩ := bindO_inv z17
    obtain ⟨s51, rfl, z19⟩ := asS_inv z18
    refine wo_step (s_pure (o_ext rfl e51)) ?_
    obtain ⟨v52, e52, z20⟩ := bindO_inv z19
    obtain ⟨x52, rfl, z21⟩ := asI_inv z20
    refine wo_step (s_pure (o_ext rfl e52)) (wo_step (v := (.s s51)) (s_pure (p_mv rfl)) (wo_step (v := (.i .i64 x52)) (s_pure (p_mv rfl)) (wo_nil (nx_norm (w_seq (w_seq (w_ops (wo_step (v := (.i .i64 x43)) (s_pure (p_mv rfl)) ?_))))))))
    obtain ⟨c54, e54, z22⟩ := forceB_inv z21
    refine wo_step (s_pure (p_bin rfl rfl (b_neq.trans (cb e54)))) (wo_step (v := (.b c54)) (s_pure (p_mv rfl)) ?_)
    obtain ⟨o, z23, hk⟩ := bindO_inv z22
    refine wo_join 3 (g10_J0 v0 s1 x4 x33 x36 s42 s51 m_4 o) ?_ ?_
    · clear hk
      rcases cond_inv z23 with ⟨rfl, z24⟩ | ⟨rfl, z24⟩
      · refine wo_skip (v := (.b true)) rfl rfl (wo_skip (v := (.b true)) rfl rfl (wo_step (v := (.b true)) (s_pure (p_pickT rfl rfl)) (wo_nil ?_)))
        cases z24
        exact ⟨_, _, rfl, rfl, gl rfl, gl g0, gl g1, gl g4, gl rfl, gl rfl, gl rfl, gl rfl⟩
      · refine wo_take (v := (.i .i64 x52)) rfl (s_pure (p_mv rfl)) ?_
        obtain ⟨c57, e57, z25⟩ := forceB_inv z24
        refine wo_take (v := (.b c57)) rfl (s_pure (p_bin rfl rfl (b_neq.trans (cb e57)))) (wo_step (v := (.b c57)) (s_pure (p_pickF rfl rfl)) (wo_nil ?_))
        cases z25
        exact ⟨_, _, rfl, rfl, gl rfl, gl g0, gl g1, gl g4, gl rfl, gl rfl, gl rfl, gl rfl⟩
    · clear z23
      have hr := hk
      clear hk
      obtain ⟨c58, ho⟩ : ∃ z, z = o := ⟨_, rfl⟩
      subst ho
      rintro mm t_1 ⟨rfl, g58, g0, g1, g4, g11, g12, g13, g15⟩
      refine wo_nil (nx_norm ?_)
      rcases cond_inv hr with ⟨rfl, z26⟩ | ⟨rfl, z26⟩
      · refine w_condT g58 ?_
        refine w_seq (w_ops ?_)
        obtain ⟨v59, m_5, e59, z27⟩ := bindP_inv z26
        obtain ⟨c59, rfl, z28⟩ := asB_inv z27
        refine wo_step (s_call mn (callM_le hM.call e59)) (wo_step (v := (.b c59)) (s_pure (p_mv rfl)) (wo_nil (nx_norm ?_)))
        refine w_ret ?_
        refine nx_ret ?_
        exact qf ret_ok (rt rfl rn) z28
      · refine w_condF g58 ?_
        refine w_skip (nx_norm (w_seq (w_seq (w_ops (wo_step (s_pure (p_mv g13)) ?_)))))
        obtain ⟨v61, e61, z29⟩ := bindO_inv z26
        obtain ⟨x61, rfl, z30⟩ := asI_inv z29
        refine wo_step (s_pure (o_len rfl e61)) ?_
        obtain ⟨c62, e62, z31⟩ := forceB_inv z30
        refine wo_step (s_pure (p_bin rfl rfl (b_leq.trans (cb e62)))) (wo_nil (nx_norm ?_))
        obtain ⟨o_1, z32, hk⟩ := bindO_inv z31
        refine jp_mono (J := g10_J1 v0 s1 x4 x33 x36 s51 o_1) ?_ ?_
        · clear hk
          rcases cond_inv z32 with ⟨rfl, z33⟩ | ⟨rfl, z33⟩
          · refine w_condT rfl ?_
            refine w_seq (w_ops (wo_step (s_pure (p_mv g0)) (wo_step (s_pure (p_mv g13)) (wo_step (s_pure (p_mv g12)) ?_))))
            obtain ⟨v67, m_6, e67, z34⟩ := bindP_inv z33
            refine wo_step (s_call (mc rfl (mc rfl (mc rfl mn))) (callM_le hM.call e67)) (wo_step (v := v67) (s_pure (p_mv rfl)) ?_)
            obtain ⟨v68, e68, z35⟩ := bindO_inv z34
            obtain ⟨s68, rfl, z36⟩ := asS_inv z35
            refine wo_step (s_pure (o_ext rfl e68)) ?_
            obtain ⟨v69, e69, z37⟩ := bindO_inv z36
            obtain ⟨x69, rfl, z38⟩ := asI_inv z37
            refine wo_step (s_pure (o_ext rfl e69)) (wo_step (v := (.s s68)) (s_pure (p_mv rfl)) (wo_step (v := (.i .i64 x69)) (s_pure (p_mv rfl)) (wo_nil (nx_norm (w_seq (w_ops (wo_step (v := (.i .i64 x69)) (s_pure (p_mv rfl)) ?_)))))))
            obtain ⟨c71, e71, z39⟩ := forceB_inv z38
            refine wo_step (s_pure (p_bin rfl rfl (b_neq.trans (cb e71)))) (wo_step (v := (.b c71)) (s_pure (p_mv rfl)) ?_)
            obtain ⟨o_2, z40, hk⟩ := bindO_inv z39
            refine wo_join 4 (g10_J2 v0 s1 x4 x33 x36 s51 m_6 o_2) ?_ ?_
            · clear hk
              rcases cond_inv z40 with ⟨rfl, z41⟩ | ⟨rfl, z41⟩
              · refine wo_skip (v := (.b true)) rfl rfl (wo_skip (v := (.b true)) rfl rfl (wo_skip (v := (.b true)) rfl rfl (wo_step (v := (.b true)) (s_pure (p_pickT rfl rfl)) (wo_nil ?_))))
                cases z41
                exact ⟨_, _, rfl, rfl, gl rfl, gl g0, gl g1, gl g4, gl g11, gl g12, gl g15⟩
              · refine wo_take (v := (.s s68)) rfl (s_pure (p_mv rfl)) (wo_take (v := (.s s51)) rfl (s_pure (p_mv g15)) ?_)
                obtain ⟨v75, e75, z42⟩ := bindO_inv z41
                obtain ⟨c75, rfl, z43⟩ := asB_inv z42
                refine wo_take (v := (.b c75)) rfl (s_pure (o_sbin rfl rfl e75)) (wo_step (v := (.b c75)) (s_pure (p_pickF rfl rfl)) (wo_nil ?_))
                cases z43
                exact ⟨_, _, rfl, rfl, gl rfl, gl g0, gl g1, gl g4, gl g11, gl g12, gl g15⟩
            · clear z40
              have hr := hk
              clear hk
              obtain ⟨c76, ho⟩ : ∃ z, z = o_2 := ⟨_, rfl⟩
              subst ho
              rintro mm_1 t_2 ⟨rfl, g76, g0, g1, g4, g11, g12, g15⟩
              refine wo_nil (nx_norm ?_)
              rcases cond_inv hr with ⟨rfl, z44⟩ | ⟨rfl, z44⟩
              · refine w_condT g76 ?_
                refine w_seq (w_ops (wo_step (v := (.b false)) (s_pure (p_mv rfl)) (wo_nil (nx_norm ?_))))
                refine w_ret ?_
                cases z44
                exact ⟨_, _, rfl, rfl, rfl, gl rfl⟩
              · refine w_condF g76 ?_
                refine w_skip ?_
                cases z44
                exact ⟨_, _, rfl, rfl, rfl, gl g0, gl g1, gl g4, gl g11, gl g12, gl g15⟩
          · refine w_condF rfl ?_
            refine w_skip ?_
            cases z33
            exact ⟨_, _, rfl, rfl, rfl, gl g0, gl g1, gl g4, gl g11, gl g12, gl g15⟩
        · clear z32
          have hr := hk
          clear hk
          rcases o_1 with o_1 | o_1
          · obtain ⟨m_7, ho⟩ : ∃ z, z = o_1 := ⟨_, rfl⟩
            subst ho
            rintro _ mm_12 t_3 ⟨rfl, rfl, g0, g1, g4, g11, g12, g15⟩
            refine nx_norm (w_seq (w_ops (wo_step (s_pure (p_mv g0)) (wo_step (s_pure (p_mv g1)) (wo_step (s_pure (p_mv g11)) (wo_step (s_pure (p_mv g12)) ?_))))))
            obtain ⟨x82, e82, z45⟩ := forceI_inv hr
            refine wo_step (s_pure (p_bin rfl rfl (b_add.trans (ci e82)))) ?_
            obtain ⟨v83, m_8, e83, z46⟩ := bindP_inv z45
            refine wo_step (s_call (mc rfl (mc rfl (mc rfl mn))) (callM_le hM.call e83)) (wo_step (v := v83) (s_pure (p_mv rfl)) ?_)
            obtain ⟨v84, e84, z47⟩ := bindO_inv z46
            obtain ⟨x84, rfl, z48⟩ := asI_inv z47
            refine wo_step (s_pure (o_ext rfl e84)) ?_
            obtain ⟨v85, e85, z49⟩ := bindO_inv z48
            obtain ⟨x85, rfl, z50⟩ := asI_inv z49
            refine wo_step (s_pure (o_ext rfl e85)) (wo_step (v := (.i .i64 x84)) (s_pure (p_mv rfl)) (wo_step (v := (.i .i64 x85)) (s_pure (p_mv rfl)) (wo_nil (nx_norm (w_seq (w_ops (wo_step (s_pure (p_mv g0)) (wo_step (s_pure (p_mv g1)) (wo_step (s_pure (p_mv g11)) (wo_step (s_pure (p_mv g12)) ?_))))))))))
            obtain ⟨x91, e91, z51⟩ := forceI_inv z50
            refine wo_step (s_pure (p_bin rfl rfl (b_add.trans (ci e91)))) ?_
            obtain ⟨v92, m_9, e92, z52⟩ := bindP_inv z51
            refine wo_step (s_call (mc rfl (mc rfl (mc rfl mn))) (callM_le hM.call e92)) (wo_step (v := v92) (s_pure (p_mv rfl)) ?_)
            obtain ⟨v93, e93, z53⟩ := bindO_inv z52
            refine wo_step (s_pure (o_ext rfl e93)) ?_
            obtain ⟨v94, e94, z54⟩ := bindO_inv z53
            obtain ⟨x94, rfl, z55⟩ := asI_inv z54
            refine wo_step (s_pure (o_ext rfl e94)) (wo_step (v := v93) (s_pure (p_mv rfl)) (wo_step (v := (.i .i64 x94)) (s_pure (p_mv rfl)) (wo_nil (nx_norm (w_seq (w_seq (w_ops (wo_step (v := (.i .i64 x85)) (s_pure (p_mv rfl)) ?_))))))))
            obtain ⟨c96, e96, z56⟩ := forceB_inv z55
            refine wo_step (s_pure (p_bin rfl rfl (b_neq.trans (cb e96)))) (wo_step (v := (.b c96)) (s_pure (p_mv rfl)) ?_)
            obtain ⟨o_3, z57, hk⟩ := bindO_inv z56
            refine wo_join 3 (g10_J3 v0 s1 x4 x33 x36 s51 x84 v93 m_9 o_3) ?_ ?_
            · clear hk
              rcases cond_inv z57 with ⟨rfl, z58⟩ | ⟨rfl, z58⟩
              · refine wo_skip (v := (.b true)) rfl rfl (wo_skip (v := (.b true)) rfl rfl (wo_step (v := (.b true)) (s_pure (p_pickT rfl rfl)) (wo_nil ?_)))
                cases z58
                exact ⟨_, _, rfl, rfl, gl rfl, gl g0, gl g1, gl g4, gl g11, gl g12, gl g15, gl rfl, gl rfl⟩
              · refine wo_take (v := (.i .i64 x94)) rfl (s_pure (p_mv rfl)) ?_
                obtain ⟨c99, e99, z59⟩ := forceB_inv z58
                refine wo_take (v := (.b c99)) rfl (s_pure (p_bin rfl rfl (b_neq.trans (cb e99)))) (wo_step (v := (.b c99)) (s_pure (p_pickF rfl rfl)) (wo_nil ?_))
                cases z59
                exact ⟨_, _, rfl, rfl, gl rfl, gl g0, gl g1, gl g4, gl g11, gl g12, gl g15, gl rfl, gl rfl⟩
            · clear z57
              have hr := hk
              clear hk
              obtain ⟨c100, ho⟩ : ∃ z, z = o_3 := ⟨_, rfl⟩
              subst ho
              rintro mm_2 t_4 ⟨rfl, g100, g0, g1, g4, g11, g12, g15, g19, g20⟩
              refine wo_step (s_pure (p_mv g100)) ?_
              obtain ⟨o_4, z60, hk⟩ := bindO_inv hr
              refine wo_join 5 (g10_J4 v0 s1 x4 x33 x36 s51 v93 m_9 o_4) ?_ ?_
              · clear hk
                rcases cond_inv z60 with ⟨rfl, z61⟩ | ⟨rfl, z61⟩
                · refine wo_skip (v := (.b true)) rfl rfl (wo_skip (v := (.b true)) rfl rfl (wo_skip (v := (.b true)) rfl rfl (wo_skip (v := (.b true)) rfl rfl (wo_step (v := (.b true)) (s_pure (p_pickT rfl rfl)) (wo_nil ?_)))))
                  cases z61
                  exact ⟨_, _, rfl, rfl, gl rfl, gl g0, gl g1, gl g4, gl g11, gl g12, gl g15, gl g20⟩
                · refine wo_take (v := (.i .i64 x84)) rfl (s_pure (p_mv g19)) (wo_take (v := (.s s51)) rfl (s_pure (p_mv g15)) ?_)
                  obtain ⟨v104, e104, z62⟩ := bindO_inv z61
                  obtain ⟨x104, rfl, z63⟩ := asI_inv z62
                  refine wo_take (v := (.i .i64 x104)) rfl (s_pure (o_len rfl e104)) ?_
                  obtain ⟨c105, e105, z64⟩ := forceB_inv z63
                  refine wo_take (v := (.b c105)) rfl (s_pure (p_bin rfl rfl (b_neq.trans (cb e105)))) (wo_step (v := (.b c105)) (s_pure (p_pickF rfl rfl)) (wo_nil ?_))
                  cases z64
                  exact ⟨_, _, rfl, rfl, gl rfl, gl g0, gl g1, gl g4, gl g11, gl g12, gl g15, gl g20⟩
              · clear z60
                have hr := hk
                clear hk
                obtain ⟨c106, ho⟩ : ∃ z, z = o_4 := ⟨_, rfl⟩
                subst ho
                rintro mm_3 t_5 ⟨rfl, g106, g0, g1, g4, g11, g12, g15, g20⟩
                refine wo_step (s_pure (p_mv g106)) ?_
                obtain ⟨o_5, z65, hk⟩ := bindO_inv hr
                refine wo_join 6 (g10_J5 v0 s1 x4 x33 x36 s51 v93 m_9 o_5) ?_ ?_
                · clear hk
                  rcases cond_inv z65 with ⟨rfl, z66⟩ | ⟨rfl, z66⟩
                  · refine wo_skip (v := (.b true)) rfl rfl (wo_skip (v := (.b true)) rfl rfl (wo_skip (v := (.b true)) rfl rfl (wo_skip (v := (.b true)) rfl rfl (wo_skip (v := (.b true)) rfl rfl (wo_step (v := (.b true)) (s_pure (p_pickT rfl rfl)) (wo_nil ?_))))))
                    cases z66
                    exact ⟨_, _, rfl, rfl, gl rfl, gl g0, gl g1, gl g4, gl g11, gl g12, gl g15, gl g20⟩
                  · refine wo_take (v := v93) rfl (s_pure (p_mv g20)) ?_
                    obtain ⟨v109, e109, z67⟩ := bindO_inv z66
                    obtain ⟨x109, rfl, z68⟩ := asI_inv z67
                    refine wo_take (v := (.i .i64 x109)) rfl (s_pure (o_len rfl e109)) (wo_take (v := v0) rfl (s_pure (p_mv g0)) ?_)
                    obtain ⟨v111, e111, z69⟩ := bindO_inv z68
                    obtain ⟨x111, rfl, z70⟩ := asI_inv z69
                    refine wo_take (v := (.i .i64 x111)) rfl (s_pure (o_len rfl e111)) ?_
                    obtain ⟨c112, e112, z71⟩ := forceB_inv z70
                    refine wo_take (v := (.b c112)) rfl (s_pure (p_bin rfl rfl (b_neq.trans (cb e112)))) (wo_step (v := (.b c112)) (s_pure (p_pickF rfl rfl)) (wo_nil ?_))
                    cases z71
                    exact ⟨_, _, rfl, rfl, gl rfl, gl g0, gl g1, gl g4, gl g11, gl g12, gl g15, gl g20⟩
                · clear z65
                  have hr := hk
                  clear hk
                  obtain ⟨c113, ho⟩ : ∃ z, z = o_5 := ⟨_, rfl⟩
                  subst ho
                  rintro mm_4 t_6 ⟨rfl, g113, g0, g1, g4, g11, g12, g15, g20⟩
                  refine wo_nil (nx_norm ?_)
                  rcases cond_inv hr with ⟨rfl, z72⟩ | ⟨rfl, z72⟩
                  · refine w_condT g113 ?_
                    refine w_seq (w_ops (wo_step (v := (.b false)) (s_pure (p_mv rfl)) (wo_nil (nx_norm ?_))))
                    refine w_ret ?_
                    refine nx_ret ?_
                    exact qf ret_ok (rt rfl rn) z72
                  · refine w_condF g113 ?_
                    refine w_skip (nx_norm (w_seq (w_ops (wo_step (s_pure (p_mv g0)) ?_))))
                    obtain ⟨v115, e115, z73⟩ := bindO_inv z72
                    obtain ⟨x115, rfl, z74⟩ := asI_inv z73
                    refine wo_step (s_pure (o_len rfl e115)) ?_
                    obtain ⟨v116, m_10, e116, z75⟩ := bindP_inv z74
                    refine wo_step (s_mk rfl rfl e116) (wo_step (v := v116) (s_pure (p_mv rfl)) (wo_nil (nx_norm (w_seq (w_seq (w_ops (wo_step (v := (.i .i64 0)) (s_pure (p_mv rfl)) (wo_nil (nx_norm ?_)))))))))
                    refine w_block ?_
                    obtain ⟨o_7, hl, z76⟩ := bindO_inv z75
                    obtain ⟨n, hl⟩ := hM.loop _ _ _ hl
                    refine jp_mono (w_loop _ (g10_I6 v0 s1 x4 x33 x36 s51 v93 v116) (g10_J6 v0 s1 x4 x33 x36 s51 v93 v116) ?_ n _ _ _ _ hl ⟨rfl, gl rfl, gl g0, gl g1, gl g4, gl g11, gl g12, gl g15, gl g20, gl rfl⟩) ?_
                    · clear z76 hl
                      intro s mm_11 t_7 o hi hr
                      obtain ⟨x22, m_11⟩ := s
                      obtain ⟨rfl, g22, g0, g1, g4, g11, g12, g15, g20, g21⟩ := hi
                      unfold g10_b6 at hr
                      refine w_seq (w_seq (w_ops (wo_step (s_pure (p_mv g22)) (wo_step (s_pure (p_mv g15)) ?_))))
                      obtain ⟨v119, e119, z77⟩ := bindO_inv hr
                      obtain ⟨x119, rfl, z78⟩ := asI_inv z77
                      refine wo_step (s_pure (o_len rfl e119)) ?_
                      obtain ⟨c120, e120, z79⟩ := forceB_inv z78
                      refine wo_step (s_pure (p_bin rfl rfl (b_lss.trans (cb e120)))) (wo_nil (nx_norm ?_))
                      rcases cond_inv z79 with ⟨rfl, z80⟩ | ⟨rfl, z80⟩
                      · refine w_condT rfl ?_
                        refine w_skip (nx_norm (w_seq ?_))
                        refine w_block ?_
                        refine w_seq (w_ops (wo_step (s_pure (p_mv g15)) (wo_step (s_pure (p_mv g22)) ?_)))
                        obtain ⟨v125, e125, z81⟩ := bindO_inv z80
                        obtain ⟨x125, rfl, z82⟩ := asI_inv z81
                        refine wo_step (s_pure (o_ixStr rfl rfl e125)) ?_
                        obtain ⟨x126, e126, z83⟩ := forceI_inv z82
                        refine wo_step (s_pure (p_bin rfl rfl (b_sub.trans (ci e126)))) ?_
                        obtain ⟨x127, e127, z84⟩ := forceI_inv z83
                        refine wo_step (s_pure ((p_conv rfl).trans (ci e127))) (wo_step (v := (.i .i64 x127)) (s_pure (p_mv rfl)) (wo_nil (nx_norm (w_seq (w_seq (w_ops (wo_step (v := (.i .i64 x127)) (s_pure (p_mv rfl)) ?_)))))))
                        obtain ⟨c129, e129, z85⟩ := forceB_inv z84
                        refine wo_step (s_pure (p_bin rfl rfl (b_lss.trans (cb e129)))) (wo_step (v := (.b c129)) (s_pure (p_mv rfl)) ?_)
                        obtain ⟨o_6, z86, hk⟩ := bindO_inv z85
                        refine wo_join 5 (g10_J7 v0 s1 x4 x33 x36 s51 v93 v116 x22 x127 m_11 o_6) ?_ ?_
                        · clear hk
                          rcases cond_inv z86 with ⟨rfl, z87⟩ | ⟨rfl, z87⟩
                          · refine wo_skip (v := (.b true)) rfl rfl (wo_skip (v := (.b true)) rfl rfl (wo_skip (v := (.b true)) rfl rfl (wo_skip (v := (.b true)) rfl rfl (wo_step (v := (.b true)) (s_pure (p_pickT rfl rfl)) (wo_nil ?_)))))
                            cases z87
                            exact ⟨_, _, rfl, rfl, gl rfl, gl g0, gl g1, gl g4, gl g11, gl g12, gl g15, gl g20, gl g21, gl g22, gl rfl⟩
                          · refine wo_take (v := (.i .i64 x127)) rfl (s_pure (p_mv rfl)) (wo_take (v := v0) rfl (s_pure (p_mv g0)) ?_)
                            obtain ⟨v133, e133, z88⟩ := bindO_inv z87
                            obtain ⟨x133, rfl, z89⟩ := asI_inv z88
                            refine wo_take (v := (.i .i64 x133)) rfl (s_pure (o_len rfl e133)) ?_
                            obtain ⟨c134, e134, z90⟩ := forceB_inv z89
                            refine wo_take (v := (.b c134)) rfl (s_pure (p_bin rfl rfl (b_geq.trans (cb e134)))) (wo_step (v := (.b c134)) (s_pure (p_pickF rfl rfl)) (wo_nil ?_))
                            cases z90
                            exact ⟨_, _, rfl, rfl, gl rfl, gl g0, gl g1, gl g4, gl g11, gl g12, gl g15, gl g20, gl g21, gl g22, gl rfl⟩
                        · clear z86
                          have hr := hk
                          clear hk
                          obtain ⟨c135, ho⟩ : ∃ z, z = o_6 := ⟨_, rfl⟩
                          subst ho
                          rintro mm_5 t_8 ⟨rfl, g135, g0, g1, g4, g11, g12, g15, g20, g21, g22, g23⟩
                          refine wo_nil (nx_norm ?_)
                          rcases cond_inv hr with ⟨rfl, z91⟩ | ⟨rfl, z91⟩
                          · refine w_condT g135 ?_
                            refine w_seq (w_ops (wo_step (v := (.b false)) (s_pure (p_mv rfl)) (wo_nil (nx_norm ?_))))
                            refine w_ret ?_
                            refine nx_ret ?_
                            refine bk_ret ?_
                            refine nx_ret ?_
                            cases z91
                            exact ⟨_, _, rfl, ne_norm_ret, rfl, rfl, gl rfl⟩
                          · refine w_condF g135 ?_
                            refine w_skip (nx_norm (w_ops (wo_step (s_pure (p_mv g21)) (wo_step (s_pure (p_mv g23)) ?_))))
                            obtain ⟨v138, e138, z92⟩ := bindO_inv z91
                            refine wo_step (s_pure (o_ixS rfl rfl e138)) ?_
                            obtain ⟨v139, e139, z93⟩ := bindO_inv z92
                            obtain ⟨x139, rfl, z94⟩ := asI_inv z93
                            refine wo_step (s_ld rfl e139) ?_
                            obtain ⟨x140, e140, z95⟩ := forceI_inv z94
                            refine wo_step (s_pure (p_bin rfl rfl (b_add.trans (ci e140)))) ?_
                            obtain ⟨v141, e141, z96⟩ := bindO_inv z95
                            refine wo_step (s_pure (o_ixS rfl rfl e141)) ?_
                            obtain ⟨vn, m_12, en, z97⟩ := bindP_inv z96
                            refine wo_stepN (s_st rfl rfl en) ?_
                            refine wo_nil ?_
                            refine bk_norm ?_
                            refine nx_norm (w_ops (wo_step (s_pure (p_mv g22)) ?_))
                            obtain ⟨x122, e122, z98⟩ := forceI_inv z97
                            refine wo_step (s_pure (p_bin rfl rfl (b_add.trans (ci e122)))) (wo_step (v := (.i .i64 x122)) (s_pure (p_mv rfl)) (wo_nil ?_))
                            cases z98
                            exact ⟨_, _, rfl, rfl, rfl, gl rfl, gl g0, gl g1, gl g4, gl g11, gl g12, gl g15, gl g20, gl g21⟩
                      · refine w_condF rfl ?_
                        refine w_exit ?_
                        refine nx_exit ?_
                        cases z80
                        exact ⟨_, _, rfl, ne_norm_exit, rfl, rfl, gl g0, gl g1, gl g4, gl g11, gl g12, gl g15, gl g20, gl g21⟩
                    · rcases o_7 with o_7 | o_7
                      · obtain ⟨m_13, ho⟩ : ∃ z, z = o_7 := ⟨_, rfl⟩
                        subst ho
                        rintro _ mm_9 t_9 ⟨rfl, rfl, g0, g1, g4, g11, g12, g15, g20, g21⟩
                        refine bk_hit ?_
                        refine nx_norm (w_seq (w_seq (w_ops (wo_step (s_pure (p_mv g21)) (wo_step (s_pure (p_mv g20)) ?_)))))
                        obtain ⟨v144, m_14, e144, z99⟩ := bindP_inv z76
                        obtain ⟨c144, rfl, z100⟩ := asB_inv z99
                        refine wo_step (s_call (mc rfl (mc rfl mn)) (callM_le hM.call e144)) ?_
                        obtain ⟨c145, e145, z101⟩ := forceB_inv z100
                        refine wo_step (s_pure ((p_not rfl).trans (cb e145))) (wo_nil (nx_norm ?_))
                        rcases cond_inv z101 with ⟨rfl, z102⟩ | ⟨rfl, z102⟩
                        · refine w_condT rfl ?_
                          refine w_seq (w_ops (wo_step (v := (.b false)) (s_pure (p_mv rfl)) (wo_nil (nx_norm ?_))))
                          refine w_ret ?_
                          refine nx_ret ?_
                          exact qf ret_ok (rt rfl rn) z102
                        · refine w_condF rfl ?_
                          refine w_skip (nx_norm (w_seq (w_seq (w_ops (wo_step (s_pure (p_mv g15)) ?_)))))
                          obtain ⟨v147, e147, z103⟩ := bindO_inv z102
                          obtain ⟨x147, rfl, z104⟩ := asI_inv z103
                          refine wo_step (s_pure (o_len rfl e147)) ?_
                          obtain ⟨c148, e148, z105⟩ := forceB_inv z104
                          refine wo_step (s_pure (p_bin rfl rfl (b_eql.trans (cb e148)))) (wo_nil (nx_norm ?_))
                          rcases cond_inv z105 with ⟨rfl, z106⟩ | ⟨rfl, z106⟩
                          · refine w_condT rfl ?_
                            refine w_seq (w_ops ?_)
                            obtain ⟨v149, m_15, e149, z107⟩ := bindP_inv z106
                            obtain ⟨c149, rfl, z108⟩ := asB_inv z107
                            refine wo_step (s_call mn (callM_le hM.call e149)) (wo_step (v := (.b c149)) (s_pure (p_mv rfl)) (wo_nil (nx_norm ?_)))
                            refine w_ret ?_
                            refine nx_ret ?_
                            exact qf ret_ok (rt rfl rn) z108
                          · refine w_condF rfl ?_
                            refine w_skip (nx_norm (w_seq (w_ops (wo_step (s_pure (p_mv g4)) ?_))))
                            obtain ⟨x151, e151, z109⟩ := forceI_inv z106
                            refine wo_step (s_pure ((p_conv rfl).trans (ci e151))) (wo_step (s_pure (p_mv g15)) ?_)
                            obtain ⟨v153, e153, z110⟩ := bindO_inv z109
                            obtain ⟨x153, rfl, z111⟩ := asI_inv z110
                            refine wo_step (s_pure (o_len rfl e153)) ?_
                            obtain ⟨hc154, z112⟩ := chk_inv z111
                            obtain ⟨x154, e154, z113⟩ := forceI_inv z112
                            refine wo_step (s_pure (p_bin rfl rfl ((b_rem hc154).trans (ci e154)))) (wo_step (v := (.i .i64 x154)) (s_pure (p_mv rfl)) (wo_nil (nx_norm (w_seq (w_ops (wo_step (s_pure (p_mv g0)) (wo_step (s_pure (p_mv g1)) (wo_step (s_pure (p_mv g11)) (wo_step (s_pure (p_mv g12)) ?_)))))))))
                            obtain ⟨x160, e160, z114⟩ := forceI_inv z113
                            refine wo_step (s_pure (p_bin rfl rfl (b_add.trans (ci e160)))) (wo_step (v := (.i .i64 x154)) (s_pure (p_mv rfl)) ?_)
                            obtain ⟨v162, m_16, e162, z115⟩ := bindP_inv z114
                            refine wo_step (s_call (mc rfl (mc rfl (mc rfl (mc rfl mn)))) (callM_le hM.call e162)) (wo_step (v := v162) (s_pure (p_mv rfl)) ?_)
                            obtain ⟨v163, e163, z116⟩ := bindO_inv z115
                            obtain ⟨s163, rfl, z117⟩ := asS_inv z116
                            refine wo_step (s_pure (o_ext rfl e163)) ?_
                            obtain ⟨v164, e164, z118⟩ := bindO_inv z117
                            obtain ⟨x164, rfl, z119⟩ := asI_inv z118
                            refine wo_step (s_pure (o_ext rfl e164)) (wo_step (v := (.s s163)) (s_pure (p_mv rfl)) (wo_step (v := (.i .i64 x164)) (s_pure (p_mv rfl)) (wo_nil (nx_norm (w_seq (w_ops (wo_step (s_pure (p_mv g0)) (wo_step (s_pure (p_mv g1)) (wo_step (s_pure (p_mv g11)) (wo_step (s_pure (p_mv g12)) ?_))))))))))
                            obtain ⟨x170, e170, z120⟩ := forceI_inv z119
                            refine wo_step (s_pure (p_bin rfl rfl (b_add.trans (ci e170)))) (wo_step (s_pure (p_mv g15)) ?_)
                            obtain ⟨v172, e172, z121⟩ := bindO_inv z120
                            obtain ⟨x172, rfl, z122⟩ := asI_inv z121
                            refine wo_step (s_pure (o_len rfl e172)) ?_
                            obtain ⟨v173, m_17, e173, z123⟩ := bindP_inv z122
                            refine wo_step (s_call (mc rfl (mc rfl (mc rfl (mc rfl mn)))) (callM_le hM.call e173)) (wo_step (v := v173) (s_pure (p_mv rfl)) ?_)
                            obtain ⟨v174, e174, z124⟩ := bindO_inv z123
                            obtain ⟨s174, rfl, z125⟩ := asS_inv z124
                            refine wo_step (s_pure (o_ext rfl e174)) ?_
                            obtain ⟨v175, e175, z126⟩ := bindO_inv z125
                            obtain ⟨x175, rfl, z127⟩ := asI_inv z126
                            refine wo_step (s_pure (o_ext rfl e175)) (wo_step (v := (.i .i64 x175)) (s_pure (p_mv rfl)) (wo_nil (nx_norm (w_seq (w_ops (wo_step (v := (.i .i64 x164)) (s_pure (p_mv rfl)) ?_))))))
                            obtain ⟨c177, e177, z128⟩ := forceB_inv z127
                            refine wo_step (s_pure (p_bin rfl rfl (b_eql.trans (cb e177)))) (wo_step (v := (.b c177)) (s_pure (p_mv rfl)) ?_)
                            obtain ⟨o_8, z129, hk⟩ := bindO_inv z128
                            refine wo_join 8 (g10_J8 x175 m_17 o_8) ?_ ?_
                            · clear hk
                              rcases cond_inv z129 with ⟨rfl, z130⟩ | ⟨rfl, z130⟩
                              · refine wo_take (v := (.s s163)) rfl (s_pure (p_mv rfl)) (wo_take (v := (.s s51)) rfl (s_pure (p_mv g15)) (wo_take (v := (.i .i64 x154)) rfl (s_pure (p_mv rfl)) (wo_take (v := (.i .i64 x154)) rfl (s_pure (p_mv rfl)) ?_)))
                                obtain ⟨x183, e183, z131⟩ := forceI_inv z130
                                refine wo_take (v := (.i .i64 x183)) rfl (s_pure (p_bin rfl rfl (b_add.trans (ci e183)))) ?_
                                obtain ⟨v184, e184, z132⟩ := bindO_inv z131
                                obtain ⟨s184, rfl, z133⟩ := asS_inv z132
                                refine wo_take (v := (.s s184)) rfl (s_pure (o_slStr rfl (os rfl) (os rfl) e184)) ?_
                                obtain ⟨v185, e185, z134⟩ := bindO_inv z133
                                obtain ⟨c185, rfl, z135⟩ := asB_inv z134
                                refine wo_take (v := (.b c185)) rfl (s_pure (o_sbin rfl rfl e185)) (wo_step (v := (.b c185)) (s_pure (p_pickT rfl rfl)) (wo_nil ?_))
                                cases z135
                                exact ⟨_, _, rfl, rfl, gl rfl, gl rfl⟩
                              · refine wo_skip (v := (.b false)) rfl rfl (wo_skip (v := (.b false)) rfl rfl (wo_skip (v := (.b false)) rfl rfl (wo_skip (v := (.b false)) rfl rfl (wo_skip (v := (.b false)) rfl rfl (wo_skip (v := (.b false)) rfl rfl (wo_skip (v := (.b false)) rfl rfl (wo_step (v := (.b false)) (s_pure (p_pickF rfl rfl)) (wo_nil ?_))))))))
                                cases z130
                                exact ⟨_, _, rfl, rfl, gl rfl, gl rfl⟩
                            · clear z129
                              have hr := hk
                              clear hk
                              obtain ⟨c186, ho⟩ : ∃ z, z = o_8 := ⟨_, rfl⟩
                              subst ho
                              rintro mm_6 t_10 ⟨rfl, g186, g16⟩
                              refine wo_step (s_pure (p_mv g186)) ?_
                              obtain ⟨o_9, z136, hk⟩ := bindO_inv hr
                              refine wo_join 3 (g10_J9 m_17 o_9) ?_ ?_
                              · clear hk
                                rcases cond_inv z136 with ⟨rfl, z137⟩ | ⟨rfl, z137⟩
                                · refine wo_take (v := (.i .i64 x175)) rfl (s_pure (p_mv g16)) ?_
                                  obtain ⟨c189, e189, z138⟩ := forceB_inv z137
                                  refine wo_take (v := (.b c189)) rfl (s_pure (p_bin rfl rfl (b_eql.trans (cb e189)))) (wo_step (v := (.b c189)) (s_pure (p_pickT rfl rfl)) (wo_nil ?_))
                                  cases z138
                                  exact ⟨_, _, rfl, rfl, gl rfl⟩
                                · refine wo_skip (v := (.b false)) rfl rfl (wo_skip (v := (.b false)) rfl rfl (wo_step (v := (.b false)) (s_pure (p_pickF rfl rfl)) (wo_nil ?_)))
                                  cases z137
                                  exact ⟨_, _, rfl, rfl, gl rfl⟩
                              · clear z136
                                have hr := hk
                                clear hk
                                obtain ⟨c190, ho⟩ : ∃ z, z = o_9 := ⟨_, rfl⟩
                                subst ho
                                rintro mm_7 t_11 ⟨rfl, g190⟩
                                refine wo_step (s_pure (p_mv g190)) ?_
                                obtain ⟨o_10, z139, hk⟩ := bindO_inv hr
                                refine wo_join 2 (g10_J10  o_10) ?_ ?_
                                · clear hk
                                  rcases cond_inv z139 with ⟨rfl, z140⟩ | ⟨rfl, z140⟩
                                  · obtain ⟨v192, m_19, e192, z141⟩ := bindP_inv z140
                                    obtain ⟨c192, rfl, z142⟩ := asB_inv z141
                                    refine wo_take (v := (.b c192)) rfl (s_call mn (callM_le hM.call e192)) (wo_step (v := (.b c192)) (s_pure (p_pickT rfl rfl)) (wo_nil ?_))
                                    cases z142
                                    exact ⟨_, _, rfl, rfl, gl rfl⟩
                                  · refine wo_skip (v := (.b false)) rfl rfl (wo_step (v := (.b false)) (s_pure (p_pickF rfl rfl)) (wo_nil ?_))
                                    cases z140
                                    exact ⟨_, _, rfl, rfl, gl rfl⟩
                                · clear z139
                                  have hr := hk
                                  clear hk
                                  obtain ⟨c193, m_18⟩ := o_10
                                  rintro mm_8 t_12 ⟨rfl, g193⟩
                                  refine wo_step (s_pure (p_mv g193)) (wo_nil (nx_norm ?_))
                                  refine w_ret ?_
                                  exact qf ret_ok (rt rfl rn) hr
                      · obtain ⟨c10, m_20⟩ := o_7
                        rintro _ mm_10 t_13 ⟨rfl, rfl, g10⟩
                        refine bk_ret ?_
                        refine nx_ret ?_
                        exact qf ret_ok (rt g10 rn) z76
          · obtain ⟨c10_1, m_21⟩ := o_1
            rintro _ mm_13 t_14 ⟨rfl, rfl, g10⟩
            refine nx_ret ?_
            exact qf ret_ok (rt g10 rn) hr
/- dibber/dibberlaw03.few -/
abbrev g15_I0 (v0 : AVal) (s1 : List UInt8) (m0 : Mm) (s : Int) (m1 : Mm) (t1 : Tr) : Prop :=
  match s with
  | x5 => m0 = m1 ∧ t1.get 5 = (.i .i64 x5) ∧ t1.get 0 = v0 ∧ t1.get 1 = (.s s1)
abbrev g15_J0 (v0 : AVal) (s1 : List UInt8) (m0 : Mm) (o : (Unit ⊕ Bool)) (e : AExit) (m1 : Mm) (t1 : Tr) : Prop :=
  match o with
  | (.inl _) => e = (.exit 0) ∧ m0 = m1 ∧ t1.get 1 = (.s s1)
  | (.inr y4) => e = .ret ∧ m0 = m1 ∧ t1.get 4 = (.b y4)
abbrev g15_J1 (v0 : AVal) (s1 : List UInt8) (x5 : Int) (m0 : Mm) (o : Bool) (m1 : Mm) (t1 : Tr) : Prop :=
  match o with
  | c21 => m0 = m1 ∧ t1.get 21 = (.b c21) ∧ t1.get 0 = v0 ∧ t1.get 1 = (.s s1) ∧ t1.get 5 = (.i .i64 x5)
def g15_b0 (M : Means) (ro : List ABlk) (v0 : AVal) (s1 : List UInt8) (m0 : Mm) (x5 : Int) : Option ((Int) ⊕ ((Unit ⊕ Bool))) :=
  bindO (evP .e (.len false (.c v0))) fun v8 =>
  asI .i64 v8 fun x8 =>
  forceB (ltI x5 x8) fun c9 =>
  cond c9 (
    forceB (!ltI x5 20) fun c13 =>
    bindO (cond c13 (
      some true) (
      bindO (evP .e (.ixS 1 (.c v0) (.c (.i .i64 x5)))) fun v17 =>
      bindO (ldM ro m0 true 1 v17) fun v18 =>
      asS v18 fun s18 =>
      bindO (evP .e (.len true (.c (.s s18)))) fun v19 =>
      asI .i64 v19 fun x19 =>
      forceB (ltI 50 x19) fun c20 =>
      some c20)) fun c21 =>
    cond c21 (
      some (.inr (.inr false))) (
      forceI (wr .i64 (x5 + 1)) fun x11 =>
      some (.inl x11))) (
    some (.inr (.inl ())))
def g15 (M : Means) (ro : List ABlk) (v0 : AVal) (s1 : List UInt8) (m0 : Mm) : Option (AVal × Heap × Nat × Nat) :=
  bindO (M.loop (S := Int) (R := (Unit ⊕ Bool)) (fun s => g15_b0 M ro v0 s1 m0 s) 0) fun o_1 => match o_1 with
  | (.inl _) =>
    bindO (evP .e (.len true (.c (.s s1)))) fun v23 =>
    asI .i64 v23 fun x23 =>
    forceB (!ltI 100 x23) fun c24 =>
    finM m0.h.length (tupA [(.b c24)]) m0
  | (.inr c4) =>
    finM m0.h.length (tupA [(.b c4)]) m0
theorem g15_ok {ro : List ABlk} {O : Caller} {M : Means} (hM : M.Ok ⟨F, O⟩ ro) {v0 s1 h r} (ho : O 15 [v0, (.s s1)] h = none) (hr : g15 M ro v0 s1 ⟨h, h.length, h.length⟩ = some r) : callX ⟨F, O⟩ ro 15 [v0, (.s s1)] h = some r := by
  refine callX_of (F := ⟨F, O⟩) (fn := fn15) (g := g15 M ro v0 s1) ho rfl rfl hr ?_
  clear ho
  clear hr
  intro m0 t0 ht hr
  have g0 : t0.get 0 = v0 := ht 0
  have g1 : t0.get 1 = (.s s1) := ht 1
  clear ht
  unfold g15 at hr
  refine w_seq (w_ops (wo_step (v := (.b false)) (s_pure (p_mv rfl)) (wo_nil (nx_norm (w_seq (w_seq (w_ops (wo_step (v := (.i .i64 0)) (s_pure (p_mv rfl)) (wo_nil (nx_norm ?_))))))))))
  refine w_block ?_
  obtain ⟨o_1, hl, z1⟩ := bindO_inv hr
  obtain ⟨n, hl⟩ := hM.loop _ _ _ hl
  refine jp_mono (w_loop _ (g15_I0 v0 s1 m0) (g15_J0 v0 s1 m0) ?_ n _ _ _ _ hl ⟨rfl, gl rfl, gl g0, gl g1⟩) ?_
  · clear z1 hl
    intro s mm_3 t_1 o hi hr
    obtain ⟨x5, hs⟩ : ∃ z, z = s := ⟨_, rfl⟩
    subst hs
    obtain ⟨rfl, g5, g0, g1⟩ := hi
    unfold g15_b0 at hr
    refine w_seq (w_seq (w_ops (wo_step (s_pure (p_mv g5)) (wo_step (s_pure (p_mv g0)) ?_))))
    obtain ⟨v8, e8, z2⟩ := bindO_inv hr
    obtain ⟨x8, rfl, z3⟩ := asI_inv z2
    refine wo_step (s_pure (o_len rfl e8)) ?_
    obtain ⟨c9, e9, z4⟩ := forceB_inv z3
    refine wo_step (s_pure (p_bin rfl rfl (b_lss.trans (cb e9)))) (wo_nil (nx_norm ?_))
    rcases cond_inv z4 with ⟨rfl, z5⟩ | ⟨rfl, z5⟩
    · refine w_condT rfl ?_
      refine w_skip (nx_norm (w_seq ?_))
      refine w_block ?_
      refine w_seq (w_ops (wo_step (s_pure (p_mv g5)) ?_))
      obtain ⟨c13, e13, z6⟩ := forceB_inv z5
      refine wo_step (s_pure (p_bin rfl rfl (b_geq.trans (cb e13)))) (wo_step (v := (.b c13)) (s_pure (p_mv rfl)) ?_)
      obtain ⟨o, z7, hk⟩ := bindO_inv z6
      refine wo_join 7 (g15_J1 v0 s1 x5 m0 o) ?_ ?_
      · clear hk
        rcases cond_inv z7 with ⟨rfl, z8⟩ | ⟨rfl, z8⟩
        · refine wo_skip (v := (.b true)) rfl rfl (wo_skip (v := (.b true)) rfl rfl (wo_skip (v := (.b true)) rfl rfl (wo_skip (v := (.b true)) rfl rfl (wo_skip (v := (.b true)) rfl rfl (wo_skip (v := (.b true)) rfl rfl (wo_step (v := (.b true)) (s_pure (p_pickT rfl rfl)) (wo_nil ?_)))))))
          cases z8
          exact ⟨_, _, rfl, rfl, gl rfl, gl g0, gl g1, gl g5⟩
        · refine wo_take (v := v0) rfl (s_pure (p_mv g0)) (wo_take (v := (.i .i64 x5)) rfl (s_pure (p_mv g5)) ?_)
          obtain ⟨v17, e17, z9⟩ := bindO_inv z8
          refine wo_take (v := v17) rfl (s_pure (o_ixS rfl rfl e17)) ?_
          obtain ⟨v18, e18, z10⟩ := bindO_inv z9
          obtain ⟨s18, rfl, z11⟩ := asS_inv z10
          refine wo_take (v := (.s s18)) rfl (s_ld rfl e18) ?_
          obtain ⟨v19, e19, z12⟩ := bindO_inv z11
          obtain ⟨x19, rfl, z13⟩ := asI_inv z12
          refine wo_take (v := (.i .i64 x19)) rfl (s_pure (o_len rfl e19)) ?_
          obtain ⟨c20, e20, z14⟩ := forceB_inv z13
          refine wo_take (v := (.b c20)) rfl (s_pure (p_bin rfl rfl (b_gtr.trans (cb e20)))) (wo_step (v := (.b c20)) (s_pure (p_pickF rfl rfl)) (wo_nil ?_))
          cases z14
          exact ⟨_, _, rfl, rfl, gl rfl, gl g0, gl g1, gl g5⟩
      · clear z7
        have hr := hk
        clear hk
        obtain ⟨c21, ho⟩ : ∃ z, z = o := ⟨_, rfl⟩
        subst ho
        rintro mm t_2 ⟨rfl, g21, g0, g1, g5⟩
        refine wo_nil (nx_norm ?_)
        rcases cond_inv hr with ⟨rfl, z15⟩ | ⟨rfl, z15⟩
        · refine w_condT g21 ?_
          refine w_seq (w_ops (wo_step (v := (.b false)) (s_pure (p_mv rfl)) (wo_nil (nx_norm ?_))))
          refine w_ret ?_
          refine bk_ret ?_
          refine nx_ret ?_
          cases z15
          exact ⟨_, _, rfl, ne_norm_ret, rfl, rfl, gl rfl⟩
        · refine w_condF g21 ?_
          refine w_skip ?_
          refine bk_norm ?_
          refine nx_norm (w_ops (wo_step (s_pure (p_mv g5)) ?_))
          obtain ⟨x11, e11, z16⟩ := forceI_inv z15
          refine wo_step (s_pure (p_bin rfl rfl (b_add.trans (ci e11)))) (wo_step (v := (.i .i64 x11)) (s_pure (p_mv rfl)) (wo_nil ?_))
          cases z16
          exact ⟨_, _, rfl, rfl, rfl, gl rfl, gl g0, gl g1⟩
    · refine w_condF rfl ?_
      refine w_exit ?_
      refine nx_exit ?_
      cases z5
      exact ⟨_, _, rfl, ne_norm_exit, rfl, rfl, gl g1⟩
  · rcases o_1 with o_1 | o_1
    · rintro _ mm_1 t_3 ⟨rfl, rfl, g1⟩
      refine bk_hit ?_
      refine nx_norm (w_seq (w_ops (wo_step (s_pure (p_mv g1)) ?_)))
      obtain ⟨v23, e23, z17⟩ := bindO_inv z1
      obtain ⟨x23, rfl, z18⟩ := asI_inv z17
      refine wo_step (s_pure (o_len rfl e23)) ?_
      obtain ⟨c24, e24, z19⟩ := forceB_inv z18
      refine wo_step (s_pure (p_bin rfl rfl (b_leq.trans (cb e24)))) (wo_step (v := (.b c24)) (s_pure (p_mv rfl)) (wo_nil (nx_norm ?_)))
      refine w_ret ?_
      exact qf ret_ok (rt rfl rn) z19
    · obtain ⟨c4, ho⟩ : ∃ z, z = o_1 := ⟨_, rfl⟩
      subst ho
      rintro _ mm_2 t_4 ⟨rfl, rfl, g4⟩
      refine bk_ret ?_
      refine nx_ret ?_
      exact qf ret_ok (rt g4 rn) z1
/- dibber/vine.Grow -/

def g17 (M : Means) (ro : List ABlk) (v0 : AVal) (s1 : List UInt8) (x2 : Int) (m0 : Mm) : Option (AVal × Heap × Nat × Nat) :=
  bindP (callM M.call m0 47 [v0, (.s s1), (.i .i64 x2)]) fun v15 m_1 =>
  bindO (evP .e (.ext 0 (.c v15))) fun v16 =>
  bindO (evP .e (.ext 1 (.c v15))) fun v17 =>
  asI .i64 v17 fun x17 =>
  forceB (!eqI x17 0) fun c19 =>
  cond c19 (
    finM m0.h.length (tupA [(.s []), (.i .i64 x17)]) m_1) (
    bindP (callM M.call m_1 48 [v16, (.i .i64 x2)]) fun v23 m_2 =>
    bindO (evP .e (.ixS 1 (.c v23) (.c (.i .i64 x2)))) fun v26 =>
    bindO (ldM ro m_2 true 1 v26) fun v27 =>
    bindP (callM M.call m_2 49 [v27, (.s s1)]) fun v29 m_3 =>
    asI .u64 v29 fun x29 =>
    forceB (ltI 100000 x29) fun c30 =>
    cond c30 (
      finM m0.h.length (tupA [(.s []), (.i .i64 8)]) m_3) (
      bindP (callM M.call m_3 50 [v16, (.s s1), v23]) fun v34 m_4 =>
      asS v34 fun s34 =>
      finM m0.h.length (tupA [(.s s34), (.i .i64 0)]) m_4))
theorem g17_ok {ro : List ABlk} {O : Caller} {M : Means} (hM : M.Ok ⟨F, O⟩ ro) {v0 s1 x2 h r} (ho : O 17 [v0, (.s s1), (.i .i64 x2)] h = none) (hr : g17 M ro v0 s1 x2 ⟨h, h.length, h.length⟩ = some r) : callX ⟨F, O⟩ ro 17 [v0, (.s s1), (.i .i64 x2)] h = some r := by
  refine callX_of (F := ⟨F, O⟩) (fn := fn17) (g := g17 M ro v0 s1 x2) ho rfl rfl hr ?_
  clear ho
  clear hr
  intro m0 t0 ht hr
  have g0 : t0.get 0 = v0 := ht 0
  have g1 : t0.get 1 = (.s s1) := ht 1
  have g2 : t0.get 2 = (.i .i64 x2) := ht 2
  clear ht
  unfold g17 at hr
  refine w_seq (w_ops (wo_step (v := (AVal.s [])) (s_pure (p_mv rfl)) (wo_step (v := (.i .i64 0)) (s_pure (p_mv rfl)) (wo_nil (nx_norm (w_seq (w_ops (wo_step (s_pure (p_mv g0)) (wo_step (s_pure (p_mv g1)) (wo_step (s_pure (p_mv g2)) ?_))))))))))
  obtain ⟨v15, m_1, e15, z1⟩ := bindP_inv hr
  refine wo_step (s_call (mc rfl (mc rfl (mc rfl mn))) (callM_le hM.call e15)) (wo_step (v := v15) (s_pure (p_mv rfl)) ?_)
  obtain ⟨v16, e16, z2⟩ := bindO_inv z1
  refine wo_step (s_pure (o_ext rfl e16)) ?_
  obtain ⟨v17, e17, z3⟩ := bindO_inv z2
  obtain ⟨x17, rfl, z4⟩ := asI_inv z3
  refine wo_step (s_pure (o_ext rfl e17)) (wo_step (v := v16) (s_pure (p_mv rfl)) (wo_step (v := (.i .i64 x17)) (s_pure (p_mv rfl)) (wo_nil (nx_norm (w_seq (w_seq (w_ops (wo_step (v := (.i .i64 x17)) (s_pure (p_mv rfl)) ?_))))))))
  obtain ⟨c19, e19, z5⟩ := forceB_inv z4
  refine wo_step (s_pure (p_bin rfl rfl (b_neq.trans (cb e19)))) (wo_nil (nx_norm ?_))
  rcases cond_inv z5 with ⟨rfl, z6⟩ | ⟨rfl, z6⟩
  · refine w_condT rfl ?_
    refine w_seq (w_ops (wo_step (v := (.i .i64 x17)) (s_pure (p_mv rfl)) (wo_step (v := (AVal.s [])) (s_pure (p_mv rfl)) (wo_step (v := (.i .i64 x17)) (s_pure (p_mv rfl)) (wo_nil (nx_norm ?_))))))
    refine w_ret ?_
    refine nx_ret ?_
    exact qf ret_ok (rt rfl (rt rfl rn)) z6
  · refine w_condF rfl ?_
    refine w_skip (nx_norm (w_seq (w_ops (wo_step (v := v16) (s_pure (p_mv rfl)) (wo_step (s_pure (p_mv g2)) ?_)))))
    obtain ⟨v23, m_2, e23, z7⟩ := bindP_inv z6
    refine wo_step (s_call (mc rfl (mc rfl mn)) (callM_le hM.call e23)) (wo_step (v := v23) (s_pure (p_mv rfl)) (wo_nil (nx_norm (w_seq (w_seq (w_ops (wo_step (v := v23) (s_pure (p_mv rfl)) (wo_step (s_pure (p_mv g2)) ?_))))))))
    obtain ⟨v26, e26, z8⟩ := bindO_inv z7
    refine wo_step (s_pure (o_ixS rfl rfl e26)) ?_
    obtain ⟨v27, e27, z9⟩ := bindO_inv z8
    refine wo_step (s_ld rfl e27) (wo_step (s_pure (p_mv g1)) ?_)
    obtain ⟨v29, m_3, e29, z10⟩ := bindP_inv z9
    obtain ⟨x29, rfl, z11⟩ := asI_inv z10
    refine wo_step (s_call (mc rfl (mc rfl mn)) (callM_le hM.call e29)) ?_
    obtain ⟨c30, e30, z12⟩ := forceB_inv z11
    refine wo_step (s_pure (p_bin rfl rfl (b_gtr.trans (cb e30)))) (wo_nil (nx_norm ?_))
    rcases cond_inv z12 with ⟨rfl, z13⟩ | ⟨rfl, z13⟩
    · refine w_condT rfl ?_
      refine w_seq (w_ops (wo_step (v := (AVal.s [])) (s_pure (p_mv rfl)) (wo_step (v := (.i .i64 8)) (s_pure (p_mv rfl)) (wo_nil (nx_norm ?_)))))
      refine w_ret ?_
      refine nx_ret ?_
      exact qf ret_ok (rt rfl (rt rfl rn)) z13
    · refine w_condF rfl ?_
      refine w_skip (nx_norm (w_seq (w_ops (wo_step (v := v16) (s_pure (p_mv rfl)) (wo_step (s_pure (p_mv g1)) (wo_step (v := v23) (s_pure (p_mv rfl)) ?_))))))
      obtain ⟨v34, m_4, e34, z14⟩ := bindP_inv z13
      obtain ⟨s34, rfl, z15⟩ := asS_inv z14
      refine wo_step (s_call (mc rfl (mc rfl (mc rfl mn))) (callM_le hM.call e34)) (wo_step (v := (.s s34)) (s_pure (p_mv rfl)) (wo_step (v := (.i .i64 0)) (s_pure (p_mv rfl)) (wo_nil (nx_norm ?_))))
      refine w_ret ?_
      exact qf ret_ok (rt rfl (rt rfl rn)) z15
/- dibber/vine.Long -/

def g19 (M : Means) (ro : List ABlk) (v0 : AVal) (s1 : List UInt8) (x2 : Int) (m0 : Mm) : Option (AVal × Heap × Nat × Nat) :=
  bindP (callM M.call m0 47 [v0, (.s s1), (.i .i64 x2)]) fun v15 m_1 =>
  bindO (evP .e (.ext 0 (.c v15))) fun v16 =>
  bindO (evP .e (.ext 1 (.c v15))) fun v17 =>
  asI .i64 v17 fun x17 =>
  forceB (!eqI x17 0) fun c19 =>
  cond c19 (
    finM m0.h.length (tupA [(.i .i64 0), (.i .i64 x17)]) m_1) (
    bindP (callM M.call m_1 48 [v16, (.i .i64 x2)]) fun v23 m_2 =>
    bindO (evP .e (.ixS 1 (.c v23) (.c (.i .i64 x2)))) fun v25 =>
    bindO (ldM ro m_2 true 1 v25) fun v26 =>
    bindP (callM M.call m_2 49 [v26, (.s s1)]) fun v28 m_3 =>
    asI .u64 v28 fun x28 =>
    forceB (ltI 1152921504606846976 x28) fun c30 =>
    cond c30 (
      finM m0.h.length (tupA [(.i .i64 0), (.i .i64 4)]) m_3) (
      forceI (wr .i64 x28) fun x32 =>
      finM m0.h.length (tupA [(.i .i64 x32), (.i .i64 0)]) m_3))
theorem g19_ok {ro : List ABlk} {O : Caller} {M : Means} (hM : M.Ok ⟨F, O⟩ ro) {v0 s1 x2 h r} (ho : O 19 [v0, (.s s1), (.i .i64 x2)] h = none) (hr : g19 M ro v0 s1 x2 ⟨h, h.length, h.length⟩ = some r) : callX ⟨F, O⟩ ro 19 [v0, (.s s1), (.i .i64 x2)] h = some r := by
  refine callX_of (F := ⟨F, O⟩) (fn := fn19) (g := g19 M ro v0 s1 x2) ho rfl rfl hr ?_
  clear ho
  clear hr
  intro m0 t0 ht hr
  have g0 : t0.get 0 = v0 := ht 0
  have g1 : t0.get 1 = (.s s1) := ht 1
  have g2 : t0.get 2 = (.i .i64 x2) := ht 2
  clear ht
  unfold g19 at hr
  refine w_seq (w_ops (wo_step (v := (.i .i64 0)) (s_pure (p_mv rfl)) (wo_step (v := (.i .i64 0)) (s_pure (p_mv rfl)) (wo_nil (nx_norm (w_seq (w_ops (wo_step (s_pure (p_mv g0)) (wo_step (s_pure (p_mv g1)) (wo_step (s_pure (p_mv g2)) ?_))))))))))
  obtain ⟨v15, m_1, e15, z1⟩ := bindP_inv hr
  refine wo_step (s_call (mc rfl (mc rfl (mc rfl mn))) (callM_le hM.call e15)) (wo_step (v := v15) (s_pure (p_mv rfl)) ?_)
  obtain ⟨v16, e16, z2⟩ := bindO_inv z1
  refine wo_step (s_pure (o_ext rfl e16)) ?_
  obtain ⟨v17, e17, z3⟩ := bindO_inv z2
  obtain ⟨x17, rfl, z4⟩ := asI_inv z3
  refine wo_step (s_pure (o_ext rfl e17)) (wo_step (v := v16) (s_pure (p_mv rfl)) (wo_step (v := (.i .i64 x17)) (s_pure (p_mv rfl)) (wo_nil (nx_norm (w_seq (w_seq (w_ops (wo_step (v := (.i .i64 x17)) (s_pure (p_mv rfl)) ?_))))))))
  obtain ⟨c19, e19, z5⟩ := forceB_inv z4
  refine wo_step (s_pure (p_bin rfl rfl (b_neq.trans (cb e19)))) (wo_nil (nx_norm ?_))
  rcases cond_inv z5 with ⟨rfl, z6⟩ | ⟨rfl, z6⟩
  · refine w_condT rfl ?_
    refine w_seq (w_ops (wo_step (v := (.i .i64 x17)) (s_pure (p_mv rfl)) (wo_step (v := (.i .i64 0)) (s_pure (p_mv rfl)) (wo_step (v := (.i .i64 x17)) (s_pure (p_mv rfl)) (wo_nil (nx_norm ?_))))))
    refine w_ret ?_
    refine nx_ret ?_
    exact qf ret_ok (rt rfl (rt rfl rn)) z6
  · refine w_condF rfl ?_
    refine w_skip (nx_norm (w_seq (w_ops (wo_step (v := v16) (s_pure (p_mv rfl)) (wo_step (s_pure (p_mv g2)) ?_)))))
    obtain ⟨v23, m_2, e23, z7⟩ := bindP_inv z6
    refine wo_step (s_call (mc rfl (mc rfl mn)) (callM_le hM.call e23)) (wo_step (s_pure (p_mv g2)) ?_)
    obtain ⟨v25, e25, z8⟩ := bindO_inv z7
    refine wo_step (s_pure (o_ixS rfl rfl e25)) ?_
    obtain ⟨v26, e26, z9⟩ := bindO_inv z8
    refine wo_step (s_ld rfl e26) (wo_step (s_pure (p_mv g1)) ?_)
    obtain ⟨v28, m_3, e28, z10⟩ := bindP_inv z9
    obtain ⟨x28, rfl, z11⟩ := asI_inv z10
    refine wo_step (s_call (mc rfl (mc rfl mn)) (callM_le hM.call e28)) (wo_step (v := (.i .u64 x28)) (s_pure (p_mv rfl)) (wo_nil (nx_norm (w_seq (w_seq (w_ops (wo_step (v := (.i .u64 x28)) (s_pure (p_mv rfl)) ?_)))))))
    obtain ⟨c30, e30, z12⟩ := forceB_inv z11
    refine wo_step (s_pure (p_bin rfl rfl (b_gtr.trans (cb e30)))) (wo_nil (nx_norm ?_))
    rcases cond_inv z12 with ⟨rfl, z13⟩ | ⟨rfl, z13⟩
    · refine w_condT rfl ?_
      refine w_seq (w_ops (wo_step (v := (.i .i64 0)) (s_pure (p_mv rfl)) (wo_step (v := (.i .i64 4)) (s_pure (p_mv rfl)) (wo_nil (nx_norm ?_)))))
      refine w_ret ?_
      refine nx_ret ?_
      exact qf ret_ok (rt rfl (rt rfl rn)) z13
    · refine w_condF rfl ?_
      refine w_skip (nx_norm (w_seq (w_ops (wo_step (v := (.i .u64 x28)) (s_pure (p_mv rfl)) ?_))))
      obtain ⟨x32, e32, z14⟩ := forceI_inv z13
      refine wo_step (s_pure ((p_conv rfl).trans (ci e32))) (wo_step (v := (.i .i64 x32)) (s_pure (p_mv rfl)) (wo_step (v := (.i .i64 0)) (s_pure (p_mv rfl)) (wo_nil (nx_norm ?_))))
      refine w_ret ?_
      exact qf ret_ok (rt rfl (rt rfl rn)) z14
/- dibber/vine.Parts -/
abbrev g21_I0 (s1 : List UInt8) (x2 : Int) (v22 : AVal) (v29 : AVal) (x31 : Int) (s : Int × Mm) (m1 : Mm) (t1 : Tr) : Prop :=
  match s with
  | (x32, m_3) => m_3 = m1 ∧ t1.get 32 = (.i .i64 x32) ∧ t1.get 1 = (.s s1) ∧ t1.get 2 = (.i .i64 x2) ∧ t1.get 8 = v22 ∧ t1.get 10 = v29 ∧ t1.get 31 = (.i .i64 x31)
abbrev g21_J0 (s1 : List UInt8) (x2 : Int) (v22 : AVal) (v29 : AVal) (x31 : Int) (o : Mm) (e : AExit) (m1 : Mm) (t1 : Tr) : Prop :=
  match o with
  | mo => e = (.exit 0) ∧ mo = m1 ∧ t1.get 1 = (.s s1) ∧ t1.get 2 = (.i .i64 x2) ∧ t1.get 8 = v22 ∧ t1.get 10 = v29
def g21_b0 (M : Means) (ro : List ABlk) (s1 : List UInt8) (x2 : Int) (v22 : AVal) (v29 : AVal) (x31 : Int) (x32 : Int) (m_3 : Mm) : Option ((Int × Mm) ⊕ (Mm)) :=
  forceB (ltI x32 x31) fun c33 =>
  cond c33 (
    bindP (stepM ro m_3 (.bsl 61 1 [(AVal.i IntKind.u64 0)] 1 [((0, 1), .c (.i .u64 0))])) fun v37 m_4 =>
    bindO (evP .e (.ixS 1 (.c v29) (.c (.i .i64 x32)))) fun v38 =>
    bindP (stepM ro m_4 (.st 1 (.c v38) (.c v37))) fun vn m_5 =>
    forceI (wr .i64 (x32 + 1)) fun x39 =>
    some (.inl (x39, m_5))) (
    some (.inr m_3))
abbrev g21_I1 (s1 : List UInt8) (x2 : Int) (v22 : AVal) (v29 : AVal) (x41 : Int) (s : Int × Mm) (m1 : Mm) (t1 : Tr) : Prop :=
  match s with
  | (x42, m_7) => m_7 = m1 ∧ t1.get 42 = (.i .i64 x42) ∧ t1.get 1 = (.s s1) ∧ t1.get 2 = (.i .i64 x2) ∧ t1.get 8 = v22 ∧ t1.get 10 = v29 ∧ t1.get 41 = (.i .i64 x41)
abbrev g21_J1 (s1 : List UInt8) (x2 : Int) (v22 : AVal) (v29 : AVal) (x41 : Int) (o : Mm) (e : AExit) (m1 : Mm) (t1 : Tr) : Prop :=
  match o with
  | mo => e = (.exit 2) ∧ mo = m1 ∧ t1.get 2 = (.i .i64 x2) ∧ t1.get 8 = v22 ∧ t1.get 10 = v29
def g21_b1 (M : Means) (ro : List ABlk) (s1 : List UInt8) (x2 : Int) (v22 : AVal) (v29 : AVal) (x41 : Int) (x42 : Int) (m_7 : Mm) : Option ((Int × Mm) ⊕ (Mm)) :=
  forceB (ltI x42 x41) fun c43 =>
  cond c43 (
    bindO (evP .e (.ixStr (.c (.s s1)) (.c (.i .i64 x42)))) fun v48 =>
    asI .u8 v48 fun x48 =>
    bindP (callM M.call m_7 54 [(.i .u8 x48)]) fun v49 m_8 =>
    asI .i64 v49 fun x49 =>
    bindO (evP .e (.ixS 1 (.c v29) (.c (.i .i64 x49)))) fun v50 =>
    bindO (ldM ro m_8 true 1 v50) fun v51 =>
    bindO (evP .e (.ixS 1 (.c v51) (.c (.i .i64 0)))) fun v52 =>
    bindO (ldM ro m_8 true 1 v52) fun v53 =>
    asI .u64 v53 fun x53 =>
    forceI (wr .u64 (x53 + 1)) fun x54 =>
    bindO (evP .e (.ixS 1 (.c v51) (.c (.i .i64 0)))) fun v55 =>
    bindP (stepM ro m_8 (.st 1 (.c v55) (.c (.i .u64 x54)))) fun vn_1 m_9 =>
    forceI (wr .i64 (x42 + 1)) fun x56 =>
    some (.inl (x56, m_9))) (
    some (.inr m_7))
abbrev g21_I2 (v22 : AVal) (v58 : AVal) (x2 : Int) (s : AVal × Int × Mm) (m1 : Mm) (t1 : Tr) : Prop :=
  match s with
  | (v10, x60, m_12) => m_12 = m1 ∧ t1.get 10 = v10 ∧ t1.get 60 = (.i .i64 x60) ∧ t1.get 8 = v22 ∧ t1.get 13 = v58 ∧ t1.get 59 = (.i .i64 x2)
abbrev g21_J2 (v22 : AVal) (v58 : AVal) (x2 : Int) (o : (AVal × Mm)) (e : AExit) (m1 : Mm) (t1 : Tr) : Prop :=
  match o with
  | (y10, mo) => e = (.exit 4) ∧ mo = m1 ∧ t1.get 10 = y10 ∧ t1.get 8 = v22
def g21_b2 (M : Means) (ro : List ABlk) (v22 : AVal) (v58 : AVal) (x2 : Int) (v10 : AVal) (x60 : Int) (m_12 : Mm) : Option ((AVal × Int × Mm) ⊕ ((AVal × Mm))) :=
  forceB (ltI x60 x2) fun c61 =>
  cond c61 (
    bindP (callM M.call m_12 57 [v58, v10]) fun v64 m_13 =>
    forceI (wr .i64 (x60 + 1)) fun x65 =>
    some (.inl (v64, x65, m_13))) (
    some (.inr (v10, m_12)))
abbrev g21_I3 (v68 : AVal) (v10_1 : AVal) (x70 : Int) (s : Int × Mm) (m1 : Mm) (t1 : Tr) : Prop :=
  match s with
  | (x71, m_16) => m_16 = m1 ∧ t1.get 71 = (.i .i64 x71) ∧ t1.get 14 = v68 ∧ t1.get 69 = v10_1 ∧ t1.get 70 = (.i .i64 x70)
abbrev g21_J3 (v68 : AVal) (v10_1 : AVal) (x70 : Int) (o : (Mm ⊕ (AVal × Int × Mm))) (e : AExit) (m1 : Mm) (t1 : Tr) : Prop :=
  match o with
  | (.inl mo) => e = (.exit 6) ∧ mo = m1 ∧ t1.get 14 = v68
  | (.inr (y6, y7, mo)) => e = .ret ∧ mo = m1 ∧ t1.get 6 = y6 ∧ t1.get 7 = (.i .i64 y7)
def g21_b3 (M : Means) (ro : List ABlk) (v68 : AVal) (v10_1 : AVal) (x70 : Int) (x71 : Int) (m_16 : Mm) : Option ((Int × Mm) ⊕ ((Mm ⊕ (AVal × Int × Mm)))) :=
  forceB (ltI x71 x70) fun c72 =>
  cond c72 (
    bindO (evP .e (.ixS 1 (.c v10_1) (.c (.i .i64 x71)))) fun v74 =>
    bindO (ldM ro m_16 true 1 v74) fun v75 =>
    bindO (evP .e (.ixS 1 (.c v75) (.c (.i .i64 0)))) fun v77 =>
    bindO (ldM ro m_16 true 1 v77) fun v78 =>
    asI .u64 v78 fun x78 =>
    forceB (ltI 1152921504606846976 x78) fun c79 =>
    cond c79 (
      some (.inr (.inr (AVal.nsl, 4, m_16)))) (
      bindO (evP .e (.ixS 1 (.c v75) (.c (.i .i64 0)))) fun v83 =>
      bindO (ldM ro m_16 true 1 v83) fun v84 =>
      asI .u64 v84 fun x84 =>
      forceI (wr .i64 x84) fun x85 =>
      bindO (evP .e (.ixS 1 (.c v68) (.c (.i .i64 x71)))) fun v86 =>
      bindP (stepM ro m_16 (.st 1 (.c v86) (.c (.i .i64 x85)))) fun vn_2 m_17 =>
      forceI (wr .i64 (x71 + 1)) fun x87 =>
      some (.inl (x87, m_17)))) (
    some (.inr (.inl m_16)))
def g21 (M : Means) (ro : List ABlk) (v0 : AVal) (s1 : List UInt8) (x2 : Int) (m0 : Mm) : Option (AVal × Heap × Nat × Nat) :=
  bindP (callM M.call m0 47 [v0, (.s s1), (.i .i64 x2)]) fun v21 m_1 =>
  bindO (evP .e (.ext 0 (.c v21))) fun v22 =>
  bindO (evP .e (.ext 1 (.c v21))) fun v23 =>
  asI .i64 v23 fun x23 =>
  forceB (!eqI x23 0) fun c25 =>
  cond c25 (
    finM m0.h.length (tupA [AVal.nsl, (.i .i64 x23)]) m_1) (
    bindO (evP .e (.len false (.c v22))) fun v28 =>
    asI .i64 v28 fun x28 =>
    bindP (stepM ro m_1 (.mk 63 1 24 [AVal.nsl] (.c (.i .i64 x28)) (.c (.i .i64 x28)))) fun v29 m_2 =>
    bindO (evP .e (.len false (.c v29))) fun v31 =>
    asI .i64 v31 fun x31 =>
    bindO (M.loop (S := Int × Mm) (R := Mm) (fun s => g21_b0 M ro s1 x2 v22 v29 x31 s.1 s.2) (0, m_2)) fun m_6 =>
    bindO (evP .e (.len true (.c (.s s1)))) fun v41 =>
    asI .i64 v41 fun x41 =>
    bindO (M.loop (S := Int × Mm) (R := Mm) (fun s => g21_b1 M ro s1 x2 v22 v29 x41 s.1 s.2) (0, m_6)) fun m_10 =>
    bindP (callM M.call m_10 55 [v22, (AVal.fn 56 [] [])]) fun v58 m_11 =>
    bindO (M.loop (S := AVal × Int × Mm) (R := (AVal × Mm)) (fun s => g21_b2 M ro v22 v58 x2 s.1 s.2.1 s.2.2) (v29, 0, m_11)) fun ⟨v10_1, m_14⟩ =>
    bindO (evP .e (.len false (.c v22))) fun v67 =>
    asI .i64 v67 fun x67 =>
    bindP (stepM ro m_14 (.mk 3 1 8 [(AVal.i IntKind.i64 0)] (.c (.i .i64 x67)) (.c (.i .i64 x67)))) fun v68 m_15 =>
    bindO (evP .e (.len false (.c v10_1))) fun v70 =>
    asI .i64 v70 fun x70 =>
    bindO (M.loop (S := Int × Mm) (R := (Mm ⊕ (AVal × Int × Mm))) (fun s => g21_b3 M ro v68 v10_1 x70 s.1 s.2) (0, m_15)) fun o_3 => match o_3 with
    | (.inl m_18) =>
      finM m0.h.length (tupA [v68, (.i .i64 0)]) m_18
    | (.inr (v6, x7, m_19)) =>
      finM m0.h.length (tupA [v6, (.i .i64 x7)]) m_19)
theorem g21_ok {ro : List ABlk} {O : Caller} {M : Means} (hM : M.Ok ⟨F, O⟩ ro) {v0 s1 x2 h r} (ho : O 21 [v0, (.s s1), (.i .i64 x2)] h = none) (hr : g21 M ro v0 s1 x2 ⟨h, h.length, h.length⟩ = some r) : callX ⟨F, O⟩ ro 21 [v0, (.s s1), (.i .i64 x2)] h = some r := by
  refine callX_of (F := ⟨F, O⟩) (fn := fn21) (g := g21 M ro v0 s1 x2) ho rfl rfl hr ?_
  clear ho
  clear hr
  intro m0 t0 ht hr
  have g0 : t0.get 0 = v0 := ht 0
  have g1 : t0.get 1 = (.s s1) := ht 1
  have g2 : t0.get 2 = (.i .i64 x2) := ht 2
  clear ht
  unfold g21 at hr
  refine w_seq (w_ops (wo_step (v := AVal.nsl) (s_pure (p_mv rfl)) (wo_step (v := (.i .i64 0)) (s_pure (p_mv rfl)) (wo_nil (nx_norm (w_seq (w_ops (wo_step (s_pure (p_mv g0)) (wo_step (s_pure (p_mv g1)) (wo_step (s_pure (p_mv g2)) ?_))))))))))
  obtain ⟨v21, m_1, e21, z1⟩ := bindP_inv hr
  refine wo_step (s_call (mc rfl (mc rfl (mc rfl mn))) (callM_le hM.call e21)) (wo_step (v := v21) (s_pure (p_mv rfl)) ?_)
  obtain ⟨v22, e22, z2⟩ := bindO_inv z1
  refine wo_step (s_pure (o_ext rfl e22)) ?_
  obtain ⟨v23, e23, z3⟩ := bindO_inv z2
  obtain ⟨x23, rfl, z4⟩ := asI_inv z3
  refine wo_step (s_pure (o_ext rfl e23)) (wo_step (v := v22) (s_pure (p_mv rfl)) (wo_step (v := (.i .i64 x23)) (s_pure (p_mv rfl)) (wo_nil (nx_norm (w_seq (w_seq (w_ops (wo_step (v := (.i .i64 x23)) (s_pure (p_mv rfl)) ?_))))))))
  obtain ⟨c25, e25, z5⟩ := forceB_inv z4
  refine wo_step (s_pure (p_bin rfl rfl (b_neq.trans (cb e25)))) (wo_nil (nx_norm ?_))
  rcases cond_inv z5 with ⟨rfl, z6⟩ | ⟨rfl, z6⟩
  · refine w_condT rfl ?_
    refine w_seq (w_ops (wo_step (v := (.i .i64 x23)) (s_pure (p_mv rfl)) (wo_step (v := AVal.nsl) (s_pure (p_mv rfl)) (wo_step (v := (.i .i64 x23)) (s_pure (p_mv rfl)) (wo_nil (nx_norm ?_))))))
    refine w_ret ?_
    refine nx_ret ?_
    exact qf ret_ok (rt rfl (rt rfl rn)) z6
  · refine w_condF rfl ?_
    refine w_skip (nx_norm (w_seq (w_ops (wo_step (v := v22) (s_pure (p_mv rfl)) ?_))))
    obtain ⟨v28, e28, z7⟩ := bindO_inv z6
    obtain ⟨x28, rfl, z8⟩ := asI_inv z7
    refine wo_step (s_pure (o_len rfl e28)) ?_
    obtain ⟨v29, m_2, e29, z9⟩ := bindP_inv z8
    refine wo_step (s_mk rfl rfl e29) (wo_step (v := v29) (s_pure (p_mv rfl)) (wo_nil (nx_norm (w_seq (w_seq (w_ops (wo_step (v := v29) (s_pure (p_mv rfl)) ?_)))))))
    obtain ⟨v31, e31, z10⟩ := bindO_inv z9
    obtain ⟨x31, rfl, z11⟩ := asI_inv z10
    refine wo_step (s_pure (o_len rfl e31)) (wo_step (v := (.i .i64 0)) (s_pure (p_mv rfl)) (wo_nil (nx_norm ?_)))
    refine w_block ?_
    obtain ⟨o, hl_3, z12⟩ := bindO_inv z11
    obtain ⟨n_3, hl_3⟩ := hM.loop _ _ _ hl_3
    refine jp_mono (w_loop _ (g21_I0 s1 x2 v22 v29 x31) (g21_J0 s1 x2 v22 v29 x31) ?_ n_3 _ _ _ _ hl_3 ⟨rfl, gl rfl, gl g1, gl g2, gl rfl, gl rfl, gl rfl⟩) ?_
    · clear z12 hl_3
      intro s mm_8 t_1 o hi hr
      obtain ⟨x32, m_3⟩ := s
      obtain ⟨rfl, g32, g1, g2, g8, g10, g31⟩ := hi
      unfold g21_b0 at hr
      refine w_seq (w_ops ?_)
      obtain ⟨c33, e33, z13⟩ := forceB_inv hr
      refine wo_step (s_pure (p_bin g32 g31 (b_lss.trans (cb e33)))) (wo_nil (nx_norm (w_seq ?_)))
      rcases cond_inv z13 with ⟨rfl, z14⟩ | ⟨rfl, z14⟩
      · refine w_condT rfl ?_
        refine w_skip (nx_norm (w_seq ?_))
        refine w_block ?_
        refine w_seq (w_ops (wo_step (s_pure (p_mv g32)) (wo_step (v := (.i .i64 x32)) (s_pure (p_mv rfl)) (wo_nil (nx_norm (w_ops (wo_step (s_pure (p_mv g10)) (wo_step (v := (.i .i64 x32)) (s_pure (p_mv rfl)) ?_))))))))
        obtain ⟨v37, m_4, e37, z15⟩ := bindP_inv z14
        refine wo_step (s_bsl (qc rfl qn) e37) ?_
        obtain ⟨v38, e38, z16⟩ := bindO_inv z15
        refine wo_step (s_pure (o_ixS rfl rfl e38)) ?_
        obtain ⟨vn, m_5, en, z17⟩ := bindP_inv z16
        refine wo_stepN (s_st rfl rfl en) ?_
        refine wo_nil ?_
        refine bk_norm ?_
        refine nx_norm (w_ops ?_)
        obtain ⟨x39, e39, z18⟩ := forceI_inv z17
        refine wo_step (s_pure (p_bin g32 rfl (b_add.trans (ci e39)))) (wo_step (v := (.i .i64 x39)) (s_pure (p_mv rfl)) (wo_nil ?_))
        cases z18
        exact ⟨_, _, rfl, rfl, rfl, gl rfl, gl g1, gl g2, gl g8, gl g10, gl g31⟩
      · refine w_condF rfl ?_
        refine w_exit ?_
        refine nx_exit ?_
        cases z14
        exact ⟨_, _, rfl, ne_norm_exit, rfl, rfl, gl g1, gl g2, gl g8, gl g10⟩
    · obtain ⟨m_6, ho⟩ : ∃ z, z = o := ⟨_, rfl⟩
      subst ho
      rintro _ mm_7 t_2 ⟨rfl, rfl, g1, g2, g8, g10⟩
      refine bk_hit ?_
      refine nx_norm (w_seq (w_seq (w_ops (wo_step (s_pure (p_mv g1)) ?_))))
      obtain ⟨v41, e41, z19⟩ := bindO_inv z12
      obtain ⟨x41, rfl, z20⟩ := asI_inv z19
      refine wo_step (s_pure (o_len rfl e41)) (wo_step (v := (.i .i64 0)) (s_pure (p_mv rfl)) (wo_nil (nx_norm ?_)))
      refine w_block ?_
      obtain ⟨o_1, hl_2, z21⟩ := bindO_inv z20
      obtain ⟨n_2, hl_2⟩ := hM.loop _ _ _ hl_2
      refine jp_mono (w_loop _ (g21_I1 s1 x2 v22 v29 x41) (g21_J1 s1 x2 v22 v29 x41) ?_ n_2 _ _ _ _ hl_2 ⟨rfl, gl rfl, gl g1, gl g2, gl g8, gl g10, gl rfl⟩) ?_
      · clear z21 hl_2
        intro s mm_6 t_3 o hi hr
        obtain ⟨x42, m_7⟩ := s
        obtain ⟨rfl, g42, g1, g2, g8, g10, g41⟩ := hi
        unfold g21_b1 at hr
        refine w_seq (w_ops ?_)
        obtain ⟨c43, e43, z22⟩ := forceB_inv hr
        refine wo_step (s_pure (p_bin g42 g41 (b_lss.trans (cb e43)))) (wo_nil (nx_norm (w_seq ?_)))
        rcases cond_inv z22 with ⟨rfl, z23⟩ | ⟨rfl, z23⟩
        · refine w_condT rfl ?_
          refine w_skip (nx_norm (w_seq ?_))
          refine w_block ?_
          refine w_seq (w_ops (wo_step (s_pure (p_mv g42)) (wo_step (v := (.i .i64 x42)) (s_pure (p_mv rfl)) (wo_nil (nx_norm (w_ops (wo_step (s_pure (p_mv g10)) (wo_step (s_pure (p_mv g1)) (wo_step (v := (.i .i64 x42)) (s_pure (p_mv rfl)) ?_)))))))))
          obtain ⟨v48, e48, z24⟩ := bindO_inv z23
          obtain ⟨x48, rfl, z25⟩ := asI_inv z24
          refine wo_step (s_pure (o_ixStr rfl rfl e48)) ?_
          obtain ⟨v49, m_8, e49, z26⟩ := bindP_inv z25
          obtain ⟨x49, rfl, z27⟩ := asI_inv z26
          refine wo_step (s_call (mc rfl mn) (callM_le hM.call e49)) ?_
          obtain ⟨v50, e50, z28⟩ := bindO_inv z27
          refine wo_step (s_pure (o_ixS rfl rfl e50)) ?_
          obtain ⟨v51, e51, z29⟩ := bindO_inv z28
          refine wo_step (s_ld rfl e51) ?_
          obtain ⟨v52, e52, z30⟩ := bindO_inv z29
          refine wo_step (s_pure (o_ixS rfl rfl e52)) ?_
          obtain ⟨v53, e53, z31⟩ := bindO_inv z30
          obtain ⟨x53, rfl, z32⟩ := asI_inv z31
          refine wo_step (s_ld rfl e53) ?_
          obtain ⟨x54, e54, z33⟩ := forceI_inv z32
          refine wo_step (s_pure (p_bin rfl rfl (b_add.trans (ci e54)))) ?_
          obtain ⟨v55, e55, z34⟩ := bindO_inv z33
          refine wo_step (s_pure (o_ixS rfl rfl e55)) ?_
          obtain ⟨vn_1, m_9, en_1, z35⟩ := bindP_inv z34
          refine wo_stepN (s_st rfl rfl en_1) ?_
          refine wo_nil ?_
          refine bk_norm ?_
          refine nx_norm (w_ops ?_)
          obtain ⟨x56, e56, z36⟩ := forceI_inv z35
          refine wo_step (s_pure (p_bin g42 rfl (b_add.trans (ci e56)))) (wo_step (v := (.i .i64 x56)) (s_pure (p_mv rfl)) (wo_nil ?_))
          cases z36
          exact ⟨_, _, rfl, rfl, rfl, gl rfl, gl g1, gl g2, gl g8, gl g10, gl g41⟩
        · refine w_condF rfl ?_
          refine w_exit ?_
          refine nx_exit ?_
          cases z23
          exact ⟨_, _, rfl, ne_norm_exit, rfl, rfl, gl g2, gl g8, gl g10⟩
      · obtain ⟨m_10, ho⟩ : ∃ z, z = o_1 := ⟨_, rfl⟩
        subst ho
        rintro _ mm_5 t_4 ⟨rfl, rfl, g2, g8, g10⟩
        refine bk_hit ?_
        refine nx_norm (w_seq (w_ops (wo_step (s_pure (p_mv g8)) ?_)))
        obtain ⟨v58, m_11, e58, z37⟩ := bindP_inv z21
        refine wo_step (s_call (mc rfl (mc rfl mn)) (callM_le hM.call e58)) (wo_step (v := v58) (s_pure (p_mv rfl)) (wo_nil (nx_norm (w_seq (w_seq (w_ops (wo_step (s_pure (p_mv g2)) (wo_step (v := (.i .i64 0)) (s_pure (p_mv rfl)) (wo_nil (nx_norm ?_))))))))))
        refine w_block ?_
        obtain ⟨o_2, hl_1, z38⟩ := bindO_inv z37
        obtain ⟨n_1, hl_1⟩ := hM.loop _ _ _ hl_1
        refine jp_mono (w_loop _ (g21_I2 v22 v58 x2) (g21_J2 v22 v58 x2) ?_ n_1 _ _ _ _ hl_1 ⟨rfl, gl g10, gl rfl, gl g8, gl rfl, gl rfl⟩) ?_
        · clear z38 hl_1
          intro s mm_4 t_5 o hi hr
          obtain ⟨v10, x60, m_12⟩ := s
          obtain ⟨rfl, g10, g60, g8, g13, g59⟩ := hi
          unfold g21_b2 at hr
          refine w_seq (w_ops ?_)
          obtain ⟨c61, e61, z39⟩ := forceB_inv hr
          refine wo_step (s_pure (p_bin g60 g59 (b_lss.trans (cb e61)))) (wo_nil (nx_norm (w_seq ?_)))
          rcases cond_inv z39 with ⟨rfl, z40⟩ | ⟨rfl, z40⟩
          · refine w_condT rfl ?_
            refine w_skip (nx_norm (w_seq ?_))
            refine w_block ?_
            refine w_ops (wo_step (s_pure (p_mv g13)) (wo_step (s_pure (p_mv g10)) ?_))
            obtain ⟨v64, m_13, e64, z41⟩ := bindP_inv z40
            refine wo_step (s_call (mc rfl (mc rfl mn)) (callM_le hM.call e64)) (wo_step (v := v64) (s_pure (p_mv rfl)) (wo_nil ?_))
            refine bk_norm ?_
            refine nx_norm (w_ops ?_)
            obtain ⟨x65, e65, z42⟩ := forceI_inv z41
            refine wo_step (s_pure (p_bin g60 rfl (b_add.trans (ci e65)))) (wo_step (v := (.i .i64 x65)) (s_pure (p_mv rfl)) (wo_nil ?_))
            cases z42
            exact ⟨_, _, rfl, rfl, rfl, gl rfl, gl rfl, gl g8, gl g13, gl g59⟩
          · refine w_condF rfl ?_
            refine w_exit ?_
            refine nx_exit ?_
            cases z40
            exact ⟨_, _, rfl, ne_norm_exit, rfl, rfl, gl g10, gl g8⟩
        · obtain ⟨v10_1, m_14⟩ := o_2
          rintro _ mm_3 t_6 ⟨rfl, rfl, g10, g8⟩
          refine bk_hit ?_
          refine nx_norm (w_seq (w_ops (wo_step (s_pure (p_mv g8)) ?_)))
          obtain ⟨v67, e67, z43⟩ := bindO_inv z38
          obtain ⟨x67, rfl, z44⟩ := asI_inv z43
          refine wo_step (s_pure (o_len rfl e67)) ?_
          obtain ⟨v68, m_15, e68, z45⟩ := bindP_inv z44
          refine wo_step (s_mk rfl rfl e68) (wo_step (v := v68) (s_pure (p_mv rfl)) (wo_nil (nx_norm (w_seq (w_seq (w_ops (wo_step (s_pure (p_mv g10)) ?_)))))))
          obtain ⟨v70, e70, z46⟩ := bindO_inv z45
          obtain ⟨x70, rfl, z47⟩ := asI_inv z46
          refine wo_step (s_pure (o_len rfl e70)) (wo_step (v := (.i .i64 0)) (s_pure (p_mv rfl)) (wo_nil (nx_norm ?_)))
          refine w_block ?_
          obtain ⟨o_3, hl, z48⟩ := bindO_inv z47
          obtain ⟨n, hl⟩ := hM.loop _ _ _ hl
          refine jp_mono (w_loop _ (g21_I3 v68 v10_1 x70) (g21_J3 v68 v10_1 x70) ?_ n _ _ _ _ hl ⟨rfl, gl rfl, gl rfl, gl rfl, gl rfl⟩) ?_
          · clear z48 hl
            intro s mm_2 t_7 o hi hr
            obtain ⟨x71, m_16⟩ := s
            obtain ⟨rfl, g71, g14, g69, g70⟩ := hi
            unfold g21_b3 at hr
            refine w_seq (w_ops ?_)
            obtain ⟨c72, e72, z49⟩ := forceB_inv hr
            refine wo_step (s_pure (p_bin g71 g70 (b_lss.trans (cb e72)))) (wo_nil (nx_norm (w_seq ?_)))
            rcases cond_inv z49 with ⟨rfl, z50⟩ | ⟨rfl, z50⟩
            · refine w_condT rfl ?_
              refine w_skip (nx_norm (w_seq ?_))
              refine w_block ?_
              refine w_seq (w_ops (wo_step (s_pure (p_mv g71)) ?_))
              obtain ⟨v74, e74, z51⟩ := bindO_inv z50
              refine wo_step (s_pure (o_ixS g69 g71 e74)) ?_
              obtain ⟨v75, e75, z52⟩ := bindO_inv z51
              refine wo_step (s_ld rfl e75) (wo_step (v := (.i .i64 x71)) (s_pure (p_mv rfl)) (wo_step (v := v75) (s_pure (p_mv rfl)) (wo_nil (nx_norm (w_seq (w_seq (w_ops (wo_step (v := v75) (s_pure (p_mv rfl)) ?_))))))))
              obtain ⟨v77, e77, z53⟩ := bindO_inv z52
              refine wo_step (s_pure (o_ixS rfl rfl e77)) ?_
              obtain ⟨v78, e78, z54⟩ := bindO_inv z53
              obtain ⟨x78, rfl, z55⟩ := asI_inv z54
              refine wo_step (s_ld rfl e78) ?_
              obtain ⟨c79, e79, z56⟩ := forceB_inv z55
              refine wo_step (s_pure (p_bin rfl rfl (b_gtr.trans (cb e79)))) (wo_nil (nx_norm ?_))
              rcases cond_inv z56 with ⟨rfl, z57⟩ | ⟨rfl, z57⟩
              · refine w_condT rfl ?_
                refine w_seq (w_ops (wo_step (v := AVal.nsl) (s_pure (p_mv rfl)) (wo_step (v := (.i .i64 4)) (s_pure (p_mv rfl)) (wo_nil (nx_norm ?_)))))
                refine w_ret ?_
                refine nx_ret ?_
                refine bk_ret ?_
                refine nx_ret ?_
                cases z57
                exact ⟨_, _, rfl, ne_norm_ret, rfl, rfl, gl rfl, gl rfl⟩
              · refine w_condF rfl ?_
                refine w_skip (nx_norm (w_ops (wo_step (s_pure (p_mv g14)) (wo_step (v := (.i .i64 x71)) (s_pure (p_mv rfl)) (wo_step (v := v75) (s_pure (p_mv rfl)) ?_)))))
                obtain ⟨v83, e83, z58⟩ := bindO_inv z57
                refine wo_step (s_pure (o_ixS rfl rfl e83)) ?_
                obtain ⟨v84, e84, z59⟩ := bindO_inv z58
                obtain ⟨x84, rfl, z60⟩ := asI_inv z59
                refine wo_step (s_ld rfl e84) ?_
                obtain ⟨x85, e85, z61⟩ := forceI_inv z60
                refine wo_step (s_pure ((p_conv rfl).trans (ci e85))) ?_
                obtain ⟨v86, e86, z62⟩ := bindO_inv z61
                refine wo_step (s_pure (o_ixS rfl rfl e86)) ?_
                obtain ⟨vn_2, m_17, en_2, z63⟩ := bindP_inv z62
                refine wo_stepN (s_st rfl rfl en_2) ?_
                refine wo_nil ?_
                refine bk_norm ?_
                refine nx_norm (w_ops ?_)
                obtain ⟨x87, e87, z64⟩ := forceI_inv z63
                refine wo_step (s_pure (p_bin g71 rfl (b_add.trans (ci e87)))) (wo_step (v := (.i .i64 x87)) (s_pure (p_mv rfl)) (wo_nil ?_))
                cases z64
                exact ⟨_, _, rfl, rfl, rfl, gl rfl, gl g14, gl g69, gl g70⟩
            · refine w_condF rfl ?_
              refine w_exit ?_
              refine nx_exit ?_
              cases z50
              exact ⟨_, _, rfl, ne_norm_exit, rfl, rfl, gl g14⟩
          · rcases o_3 with o_3 | o_3
            · obtain ⟨m_18, ho⟩ : ∃ z, z = o_3 := ⟨_, rfl⟩
              subst ho
              rintro _ mm t_8 ⟨rfl, rfl, g14⟩
              refine bk_hit ?_
              refine nx_norm (w_seq (w_ops (wo_step (s_pure (p_mv g14)) (wo_step (v := v68) (s_pure (p_mv rfl)) (wo_step (v := (.i .i64 0)) (s_pure (p_mv rfl)) (wo_nil (nx_norm ?_)))))))
              refine w_ret ?_
              exact qf ret_ok (rt rfl (rt rfl rn)) z48
            · obtain ⟨v6, x7, m_19⟩ := o_3
              rintro _ mm_1 t_9 ⟨rfl, rfl, g6, g7⟩
              refine bk_ret ?_
              refine nx_ret ?_
              exact qf ret_ok (rt g6 (rt g7 rn)) z48
/- dibber/dibberlaw03.same -/
abbrev g23_I0 (v0 : AVal) (v1 : AVal) (m0 : Mm) (s : Int) (m1 : Mm) (t1 : Tr) : Prop :=
  match s with
  | x5 => m0 = m1 ∧ t1.get 5 = (.i .i64 x5) ∧ t1.get 0 = v0 ∧ t1.get 1 = v1
abbrev g23_J0 (v0 : AVal) (v1 : AVal) (m0 : Mm) (o : (Unit ⊕ Bool)) (e : AExit) (m1 : Mm) (t1 : Tr) : Prop :=
  match o with
  | (.inl _) => e = (.exit 0) ∧ m0 = m1
  | (.inr y4) => e = .ret ∧ m0 = m1 ∧ t1.get 4 = (.b y4)
def g23_b0 (M : Means) (ro : List ABlk) (v0 : AVal) (v1 : AVal) (m0 : Mm) (x5 : Int) : Option ((Int) ⊕ ((Unit ⊕ Bool))) :=
  bindO (evP .e (.len false (.c v0))) fun v13 =>
  asI .i64 v13 fun x13 =>
  forceB (ltI x5 x13) fun c14 =>
  cond c14 (
    bindO (evP .e (.ixS 1 (.c v0) (.c (.i .i64 x5)))) fun v19 =>
    bindO (ldA ro m0.h true 1 v19) fun v20 =>
    asI .i64 v20 fun x20 =>
    bindO (evP .e (.ixS 1 (.c v1) (.c (.i .i64 x5)))) fun v23 =>
    bindO (ldA ro m0.h true 1 v23) fun v24 =>
    asI .i64 v24 fun x24 =>
    forceB (!eqI x20 x24) fun c25 =>
    cond c25 (
      some (.inr (.inr false))) (
      forceI (wr .i64 (x5 + 1)) fun x16 =>
      some (.inl x16))) (
    some (.inr (.inl ())))
def g23 (M : Means) (ro : List ABlk) (v0 : AVal) (v1 : AVal) (m0 : Mm) : Option (AVal × Heap × Nat × Nat) :=
  bindO (evP .e (.len false (.c v0))) fun v7 =>
  asI .i64 v7 fun x7 =>
  bindO (evP .e (.len false (.c v1))) fun v9 =>
  asI .i64 v9 fun x9 =>
  forceB (!eqI x7 x9) fun c10 =>
  cond c10 (
    finM m0.h.length (tupA [(.b false)]) m0) (
    bindO (M.loop (S := Int) (R := (Unit ⊕ Bool)) (fun s => g23_b0 M ro v0 v1 m0 s) 0) fun o => match o with
    | (.inl _) =>
      finM m0.h.length (tupA [(.b true)]) m0
    | (.inr c4) =>
      finM m0.h.length (tupA [(.b c4)]) m0)
theorem g23_ok {ro : List ABlk} {O : Caller} {M : Means} (hM : M.Ok ⟨F, O⟩ ro) {v0 v1 h r} (ho : O 23 [v0, v1] h = none) (hr : g23 M ro v0 v1 ⟨h, h.length, h.length⟩ = some r) : callX ⟨F, O⟩ ro 23 [v0, v1] h = some r := by
  refine callX_of (F := ⟨F, O⟩) (fn := fn23) (g := g23 M ro v0 v1) ho rfl rfl hr ?_
  clear ho
  clear hr
  intro m0 t0 ht hr
  have g0 : t0.get 0 = v0 := ht 0
  have g1 : t0.get 1 = v1 := ht 1
  clear ht
  unfold g23 at hr
  refine w_seq (w_ops (wo_step (v := (.b false)) (s_pure (p_mv rfl)) (wo_nil (nx_norm (w_seq (w_seq (w_ops (wo_step (s_pure (p_mv g0)) ?_))))))))
  obtain ⟨v7, e7, z1⟩ := bindO_inv hr
  obtain ⟨x7, rfl, z2⟩ := asI_inv z1
  refine wo_step (s_pure (o_len rfl e7)) (wo_step (s_pure (p_mv g1)) ?_)
  obtain ⟨v9, e9, z3⟩ := bindO_inv z2
  obtain ⟨x9, rfl, z4⟩ := asI_inv z3
  refine wo_step (s_pure (o_len rfl e9)) ?_
  obtain ⟨c10, e10, z5⟩ := forceB_inv z4
  refine wo_step (s_pure (p_bin rfl rfl (b_neq.trans (cb e10)))) (wo_nil (nx_norm ?_))
  rcases cond_inv z5 with ⟨rfl, z6⟩ | ⟨rfl, z6⟩
  · refine w_condT rfl ?_
    refine w_seq (w_ops (wo_step (v := (.b false)) (s_pure (p_mv rfl)) (wo_nil (nx_norm ?_))))
    refine w_ret ?_
    refine nx_ret ?_
    exact qf ret_ok (rt rfl rn) z6
  · refine w_condF rfl ?_
    refine w_skip (nx_norm (w_seq (w_seq (w_ops (wo_step (v := (.i .i64 0)) (s_pure (p_mv rfl)) (wo_nil (nx_norm ?_)))))))
    refine w_block ?_
    obtain ⟨o, hl, z7⟩ := bindO_inv z6
    obtain ⟨n, hl⟩ := hM.loop _ _ _ hl
    refine jp_mono (w_loop _ (g23_I0 v0 v1 m0) (g23_J0 v0 v1 m0) ?_ n _ _ _ _ hl ⟨rfl, gl rfl, gl g0, gl g1⟩) ?_
    · clear z7 hl
      intro s mm_2 t_1 o hi hr
      obtain ⟨x5, hs⟩ : ∃ z, z = s := ⟨_, rfl⟩
      subst hs
      obtain ⟨rfl, g5, g0, g1⟩ := hi
      unfold g23_b0 at hr
      refine w_seq (w_seq (w_ops (wo_step (s_pure (p_mv g5)) (wo_step (s_pure (p_mv g0)) ?_))))
      obtain ⟨v13, e13, z8⟩ := bindO_inv hr
      obtain ⟨x13, rfl, z9⟩ := asI_inv z8
      refine wo_step (s_pure (o_len rfl e13)) ?_
      obtain ⟨c14, e14, z10⟩ := forceB_inv z9
      refine wo_step (s_pure (p_bin rfl rfl (b_lss.trans (cb e14)))) (wo_nil (nx_norm ?_))
      rcases cond_inv z10 with ⟨rfl, z11⟩ | ⟨rfl, z11⟩
      · refine w_condT rfl ?_
        refine w_skip (nx_norm (w_seq ?_))
        refine w_block ?_
        refine w_seq ?_
        refine w_any ?_
        refine wa_step (v := v0) (a_pure (p_mv g0)) ?_
        refine wa_step (v := (.i .i64 x5)) (a_pure (p_mv g5)) ?_
        obtain ⟨v19, e19, z12⟩ := bindO_inv z11
        refine wa_step (v := v19) (a_pure (o_ixS rfl rfl e19)) ?_
        obtain ⟨v20, e20, z13⟩ := bindO_inv z12
        obtain ⟨x20, rfl, z14⟩ := asI_inv z13
        refine wa_step (v := (.i .i64 x20)) (a_ld rfl e20) ?_
        refine wa_step (v := v1) (a_pure (p_mv g1)) ?_
        refine wa_step (v := (.i .i64 x5)) (a_pure (p_mv g5)) ?_
        obtain ⟨v23, e23, z15⟩ := bindO_inv z14
        refine wa_step (v := v23) (a_pure (o_ixS rfl rfl e23)) ?_
        obtain ⟨v24, e24, z16⟩ := bindO_inv z15
        obtain ⟨x24, rfl, z17⟩ := asI_inv z16
        refine wa_step (v := (.i .i64 x24)) (a_ld rfl e24) ?_
        obtain ⟨c25, e25, z18⟩ := forceB_inv z17
        refine wa_step (v := (.b c25)) (a_pure (p_bin rfl rfl (b_neq.trans (cb e25)))) ?_
        refine wa_nil ?_
        refine ⟨m0, wM2_nil rfl, ?_⟩
        refine nx_norm ?_
        rcases cond_inv z18 with ⟨rfl, z19⟩ | ⟨rfl, z19⟩
        · refine w_condT rfl ?_
          refine w_seq (w_ops (wo_step (v := (.b false)) (s_pure (p_mv rfl)) (wo_nil (nx_norm ?_))))
          refine w_ret ?_
          refine bk_ret ?_
          refine nx_ret ?_
          cases z19
          exact ⟨_, _, rfl, ne_norm_ret, rfl, rfl, gl rfl⟩
        · refine w_condF rfl ?_
          refine w_skip ?_
          refine bk_norm ?_
          refine nx_norm (w_ops (wo_step (s_pure (p_mv g5)) ?_))
          obtain ⟨x16, e16, z20⟩ := forceI_inv z19
          refine wo_step (s_pure (p_bin rfl rfl (b_add.trans (ci e16)))) (wo_step (v := (.i .i64 x16)) (s_pure (p_mv rfl)) (wo_nil ?_))
          cases z20
          exact ⟨_, _, rfl, rfl, rfl, gl rfl, gl g0, gl g1⟩
      · refine w_condF rfl ?_
        refine w_exit ?_
        refine nx_exit ?_
        cases z11
        exact ⟨_, _, rfl, ne_norm_exit, rfl, rfl⟩
    · rcases o with o | o
      · rintro _ mm t_2 ⟨rfl, rfl⟩
        refine bk_hit ?_
        refine nx_norm (w_seq (w_ops (wo_step (v := (.b true)) (s_pure (p_mv rfl)) (wo_nil (nx_norm ?_)))))
        refine w_ret ?_
        exact qf ret_ok (rt rfl rn) z7
      · obtain ⟨c4, ho⟩ : ∃ z, z = o := ⟨_, rfl⟩
        subst ho
        rintro _ mm_1 t_3 ⟨rfl, rfl, g4⟩
        refine bk_ret ?_
        refine nx_ret ?_
        exact qf ret_ok (rt g4 rn) z7
/- dibber/vine.At -/
abbrev k24a0 : ACode := (.ops [(.mk (some 12) none (.pure (.mv (.t 33))))])
abbrev k24c0 : ACode := (.block 1 (.seq (.ops [(.mk (some 34) none (.pure (.mv (.t 12)))), (.mk (some 35) none (.bsl 5 1 [(.i .u8 0)] 1 [((0, 1), (.t 34))])), (.mk (some 36) none (.bts (.t 35))), (.mk none none (.st 1 (.t 8) (.t 36))), (.mk none none (.st 1 (.t 9) (.c (.i .i64 0))))]) .ret))
abbrev g24_P0 (v8 : AVal) (v9 : AVal) (t1 : Tr) : Prop := True ∧ t1.get 8 = v8 ∧ t1.get 9 = v9
def g24_r0 (M : Means) (ro : List ABlk) (v8 : AVal) (v9 : AVal) (b : Nat) (v33 : AVal) (m0 : Mm) : Option (AVal × Heap × Nat × Nat) :=
  bindO (rndB b m0) fun m_10 =>
  bindP (stepM ro m_10 (.bsl 5 1 [(AVal.i IntKind.u8 0)] 1 [((0, 1), .c v33)])) fun v35 m_11 =>
  bindO (btsM ro m_11 v35) fun v36 =>
  asS v36 fun s36 =>
  bindP (stepM ro m_11 (.st 1 (.c v8) (.c (.s s36)))) fun vn_4 m_12 =>
  bindP (stepM ro m_12 (.st 1 (.c v9) (.c (.i .i64 0)))) fun vn_5 m_13 =>
  rndE m0.h.length b .ret m_13
noncomputable def g24 (M : Means) (ro : List ABlk) (v0 : AVal) (s1 : List UInt8) (x2 : Int) (x3 : Int) (m0 : Mm) : Option (AVal × Heap × Nat × Nat) :=
  bindP (stepM ro m0 (.al 9 [(AVal.s [])])) fun v8 m_1 =>
  bindP (stepM ro m_1 (.al 25 [(AVal.i IntKind.i64 0)])) fun v9 m_2 =>
  bindP (callM M.call m_2 47 [v0, (.s s1), (.i .i64 x2)]) fun v17 m_3 =>
  bindO (evP .e (.ext 0 (.c v17))) fun v18 =>
  bindO (evP .e (.ext 1 (.c v17))) fun v19 =>
  asI .i64 v19 fun x19 =>
  forceB (!eqI x19 0) fun c21 =>
  cond c21 (
    bindP (stepM ro m_3 (.st 1 (.c v8) (.c (AVal.s [])))) fun vn m_4 =>
    bindP (stepM ro m_4 (.st 1 (.c v9) (.c (.i .i64 x19)))) fun vn_1 m_5 =>
    bindO (ldM ro m_5 true 1 v8) fun vr =>
    bindO (ldM ro m_5 true 1 v9) fun vr_1 =>
    finM m0.h.length (tupA [vr, vr_1]) m_5) (
    forceB (ltI x3 0) fun c24 =>
    cond c24 (
      bindP (stepM ro m_3 (.st 1 (.c v8) (.c (AVal.s [])))) fun vn_2 m_6 =>
      bindP (stepM ro m_6 (.st 1 (.c v9) (.c (.i .i64 4)))) fun vn_3 m_7 =>
      bindO (ldM ro m_7 true 1 v8) fun vr_2 =>
      bindO (ldM ro m_7 true 1 v9) fun vr_3 =>
      finM m0.h.length (tupA [vr_2, vr_3]) m_7) (
      forceI (wr .u64 x3) fun x27 =>
      bindP (callM M.call m_3 48 [v18, (.i .i64 x2)]) fun v31 m_8 =>
      bindP (callM M.call m_8 59 [v18, (.i .u64 x27), (.s s1), v31]) fun v32 m_9 =>
      rngK M.call (g24_P0 v8 v9) [33] k24a0 k24c0 v32 m_9 fun ⟨ex, m_14⟩ => onE ex (
        bindP (stepM ro m_14 (.st 1 (.c v8) (.c (AVal.s [])))) fun vn_6 m_15 =>
        bindP (stepM ro m_15 (.st 1 (.c v9) (.c (.i .i64 6)))) fun vn_7 m_16 =>
        bindO (ldM ro m_16 true 1 v8) fun vr_4 =>
        bindO (ldM ro m_16 true 1 v9) fun vr_5 =>
        finM m0.h.length (tupA [vr_4, vr_5]) m_16) (
        bindO (ldM ro m_14 true 1 v8) fun vr_6 =>
        bindO (ldM ro m_14 true 1 v9) fun vr_7 =>
        finM m0.h.length (tupA [vr_6, vr_7]) m_14) (fun ix =>
        none)))
theorem g24_r0_ok {ro : List ABlk} {O : Caller} {M : Means} (hM : M.Ok ⟨F, O⟩ ro) {v8} {v9} {v33} {b h r bk t p} (hb : lget h b = some (some bk)) (hg : bk.g = some (.lp ⟨t, [33], k24a0, k24c0⟩ .ready p)) (hP : g24_P0 v8 v9 t) (hr : g24_r0 M ro v8 v9 b v33 ⟨h, h.length, h.length⟩ = some r) : roundX ⟨F, O⟩ ro b [v33] h = some r := by
  refine roundX_on (F := ⟨F, O⟩) (g := g24_r0 M ro v8 v9 b v33) hb hg rfl hr ?_
  clear hb hg hr
  intro m0 t0 ht hr
  obtain ⟨-, g8, g9⟩ := hP
  have g33 : t0.get 33 = v33 := by rw [ht]; simp [putPs, get_set]
  have g8 : t0.get 8 = v8 := by rw [ht]; simp only [putPs, get_set]; simpa using g8
  have g9 : t0.get 9 = v9 := by rw [ht]; simp only [putPs, get_set]; simpa using g9
  clear ht
  unfold g24_r0 at hr
  show W _ _ k24a0 _ _
  unfold k24a0
  refine w_ops (wo_step (s_pure (p_mv g33)) (wo_nil ?_))
  obtain ⟨m_10, eb, z1⟩ := bindO_inv hr
  refine qb eb ?_
  unfold k24c0
  refine w_block ?_
  refine w_seq (w_ops (wo_step (v := v33) (s_pure (p_mv rfl)) ?_))
  obtain ⟨v35, m_11, e35, z2⟩ := bindP_inv z1
  refine wo_step (s_bsl (qc rfl qn) e35) ?_
  obtain ⟨v36, e36, z3⟩ := bindO_inv z2
  obtain ⟨s36, rfl, z4⟩ := asS_inv z3
  refine wo_step (s_bts rfl e36) ?_
  obtain ⟨vn_4, m_12, en_4, z5⟩ := bindP_inv z4
  refine wo_stepN (s_st g8 rfl en_4) ?_
  obtain ⟨vn_5, m_13, en_5, z6⟩ := bindP_inv z5
  refine wo_stepN (s_st g9 rfl en_5) ?_
  refine wo_nil (nx_norm ?_)
  refine w_ret ?_
  refine bk_ret ?_
  exact z6

theorem g24_ok {ro : List ABlk} {O : Caller} {M : Means} (hM : M.Ok ⟨F, O⟩ ro) {v0 s1 x2 x3 h r} (ho : O 24 [v0, (.s s1), (.i .i64 x2), (.i .i64 x3)] h = none) (hr : g24 M ro v0 s1 x2 x3 ⟨h, h.length, h.length⟩ = some r) : callX ⟨F, O⟩ ro 24 [v0, (.s s1), (.i .i64 x2), (.i .i64 x3)] h = some r := by
  refine callX_of (F := ⟨F, O⟩) (fn := fn24) (g := g24 M ro v0 s1 x2 x3) ho rfl rfl hr ?_
  clear ho
  clear hr
  intro m0 t0 ht hr
  have g0 : t0.get 0 = v0 := ht 0
  have g1 : t0.get 1 = (.s s1) := ht 1
  have g2 : t0.get 2 = (.i .i64 x2) := ht 2
  have g3 : t0.get 3 = (.i .i64 x3) := ht 3
  clear ht
  unfold g24 at hr
  refine w_seq (w_ops ?_)
  obtain ⟨v8, m_1, e8, z1⟩ := bindP_inv hr
  refine wo_step (s_al e8) ?_
  obtain ⟨v9, m_2, e9, z2⟩ := bindP_inv z1
  refine wo_step (s_al e9) (wo_nil (nx_norm (w_seq (w_ops (wo_step (s_pure (p_mv g0)) (wo_step (s_pure (p_mv g1)) (wo_step (s_pure (p_mv g2)) ?_)))))))
  obtain ⟨v17, m_3, e17, z3⟩ := bindP_inv z2
  refine wo_step (s_call (mc rfl (mc rfl (mc rfl mn))) (callM_le hM.call e17)) (wo_step (v := v17) (s_pure (p_mv rfl)) ?_)
  obtain ⟨v18, e18, z4⟩ := bindO_inv z3
  refine wo_step (s_pure (o_ext rfl e18)) ?_
  obtain ⟨v19, e19, z5⟩ := bindO_inv z4
  obtain ⟨x19, rfl, z6⟩ := asI_inv z5
  refine wo_step (s_pure (o_ext rfl e19)) (wo_step (v := v18) (s_pure (p_mv rfl)) (wo_step (v := (.i .i64 x19)) (s_pure (p_mv rfl)) (wo_nil (nx_norm (w_seq (w_seq (w_ops (wo_step (v := (.i .i64 x19)) (s_pure (p_mv rfl)) ?_))))))))
  obtain ⟨c21, e21, z7⟩ := forceB_inv z6
  refine wo_step (s_pure (p_bin rfl rfl (b_neq.trans (cb e21)))) (wo_nil (nx_norm ?_))
  rcases cond_inv z7 with ⟨rfl, z8⟩ | ⟨rfl, z8⟩
  · refine w_condT rfl ?_
    refine w_seq (w_ops (wo_step (v := (.i .i64 x19)) (s_pure (p_mv rfl)) ?_))
    obtain ⟨vn, m_4, en, z9⟩ := bindP_inv z8
    refine wo_stepN (s_st rfl rfl en) ?_
    obtain ⟨vn_1, m_5, en_1, z10⟩ := bindP_inv z9
    refine wo_stepN (s_st rfl rfl en_1) ?_
    refine wo_nil (nx_norm ?_)
    refine w_ret ?_
    refine nx_ret ?_
    obtain ⟨vr, er, z11⟩ := bindO_inv z10
    obtain ⟨vr_1, er_1, z12⟩ := bindO_inv z11
    exact qf ret_ok (rc rfl er (rc rfl er_1 rn)) z12
  · refine w_condF rfl ?_
    refine w_skip (nx_norm (w_seq (w_seq (w_ops (wo_step (s_pure (p_mv g3)) ?_)))))
    obtain ⟨c24, e24, z13⟩ := forceB_inv z8
    refine wo_step (s_pure (p_bin rfl rfl (b_lss.trans (cb e24)))) (wo_nil (nx_norm ?_))
    rcases cond_inv z13 with ⟨rfl, z14⟩ | ⟨rfl, z14⟩
    · refine w_condT rfl ?_
      refine w_seq (w_ops ?_)
      obtain ⟨vn_2, m_6, en_2, z15⟩ := bindP_inv z14
      refine wo_stepN (s_st rfl rfl en_2) ?_
      obtain ⟨vn_3, m_7, en_3, z16⟩ := bindP_inv z15
      refine wo_stepN (s_st rfl rfl en_3) ?_
      refine wo_nil (nx_norm ?_)
      refine w_ret ?_
      refine nx_ret ?_
      obtain ⟨vr_2, er_2, z17⟩ := bindO_inv z16
      obtain ⟨vr_3, er_3, z18⟩ := bindO_inv z17
      exact qf ret_ok (rc rfl er_2 (rc rfl er_3 rn)) z18
    · refine w_condF rfl ?_
      refine w_skip (nx_norm (w_seq (w_seq (w_ops (wo_step (v := v18) (s_pure (p_mv rfl)) (wo_step (s_pure (p_mv g3)) ?_))))))
      obtain ⟨x27, e27, z19⟩ := forceI_inv z14
      refine wo_step (s_pure ((p_conv rfl).trans (ci e27))) (wo_step (s_pure (p_mv g1)) (wo_step (v := v18) (s_pure (p_mv rfl)) (wo_step (s_pure (p_mv g2)) ?_)))
      obtain ⟨v31, m_8, e31, z20⟩ := bindP_inv z19
      refine wo_step (s_call (mc rfl (mc rfl mn)) (callM_le hM.call e31)) ?_
      obtain ⟨v32, m_9, e32, z21⟩ := bindP_inv z20
      refine wo_step (s_call (mc rfl (mc rfl (mc rfl (mc rfl mn)))) (callM_le hM.call e32)) (wo_nil (nx_norm ?_))
      refine w_block ?_
      refine w_rngK hM.call rfl z21 ⟨trivial, gl rfl, gl rfl⟩ ?_
      clear z21
      intro ex m_14 hr
      rcases onE_inv hr with ⟨rfl, z22⟩ | ⟨rfl, z22⟩ | ⟨ix, rfl, z22⟩
      · refine bk_norm ?_
        refine nx_norm (w_seq (w_ops ?_))
        obtain ⟨vn_6, m_15, en_6, z23⟩ := bindP_inv z22
        refine wo_stepN (s_st rfl rfl en_6) ?_
        obtain ⟨vn_7, m_16, en_7, z24⟩ := bindP_inv z23
        refine wo_stepN (s_st rfl rfl en_7) ?_
        refine wo_nil (nx_norm ?_)
        refine w_ret ?_
        obtain ⟨vr_4, er_5, z25⟩ := bindO_inv z24
        obtain ⟨vr_5, er_6, z26⟩ := bindO_inv z25
        exact qf ret_ok (rc rfl er_5 (rc rfl er_6 rn)) z26
      · refine bk_ret ?_
        refine nx_ret ?_
        obtain ⟨vr_6, er_7, z27⟩ := bindO_inv z22
        obtain ⟨vr_7, er_8, z28⟩ := bindO_inv z27
        exact qf ret_ok (rc rfl er_7 (rc rfl er_8 rn)) z28
      · cases z22
/- dibber/vine.Factors -/
abbrev g38_J0 (x2 : Int) (v20 : AVal) (x21 : Int) (m_1 : Mm) (o : Bool) (m1 : Mm) (t1 : Tr) : Prop :=
  match o with
  | c31 => m_1 = m1 ∧ t1.get 31 = (.b c31) ∧ t1.get 2 = (.i .i64 x2) ∧ t1.get 8 = v20 ∧ t1.get 9 = (.i .i64 x21)
abbrev k38a0 : ACode := (.ops [(.mk (some 13) none (.pure (.mv (.t 36))))])
abbrev k38c0 : ACode := (.block 1 (.ops [(.mk (some 37) none (.ld true 1 (.t 11))), (.mk (some 38) none (.pure (.mv (.t 13)))), (.mk (some 39) none (.bsl 5 1 [(.i .u8 0)] 1 [((0, 1), (.t 38))])), (.mk (some 40) none (.app 5 1 1 [(.i .u8 0)] (.t 37) (.t 39))), (.mk none none (.st 1 (.t 11) (.t 40)))]))
abbrev g38_P0 (v11 : AVal) (t1 : Tr) : Prop := True ∧ t1.get 11 = v11
def g38_r0 (M : Means) (ro : List ABlk) (v11 : AVal) (b : Nat) (v35 : AVal) (v36 : AVal) (m0 : Mm) : Option (AVal × Heap × Nat × Nat) :=
  bindO (rndB b m0) fun m_4 =>
  bindO (ldM ro m_4 true 1 v11) fun v37 =>
  bindP (stepM ro m_4 (.bsl 5 1 [(AVal.i IntKind.u8 0)] 1 [((0, 1), .c v36)])) fun v39 m_5 =>
  bindP (stepM ro m_5 (.app 5 1 1 [(AVal.i IntKind.u8 0)] (.c v37) (.c v39))) fun v40 m_6 =>
  bindP (stepM ro m_6 (.st 1 (.c v11) (.c v40))) fun vn m_7 =>
  rndE m0.h.length b .norm m_7
abbrev g38_I1 (x2 : Int) (v11 : AVal) (v41 : AVal) (s : Int × Mm) (m1 : Mm) (t1 : Tr) : Prop :=
  match s with
  | (x15, m_10) => m_10 = m1 ∧ t1.get 15 = (.i .i64 x15) ∧ t1.get 2 = (.i .i64 x2) ∧ t1.get 11 = v11 ∧ t1.get 14 = v41
abbrev g38_J1 (x2 : Int) (v11 : AVal) (v41 : AVal) (o : Mm) (e : AExit) (m1 : Mm) (t1 : Tr) : Prop :=
  match o with
  | mo => e = (.exit 2) ∧ mo = m1 ∧ t1.get 14 = v41
def g38_b1 (M : Means) (ro : List ABlk) (x2 : Int) (v11 : AVal) (v41 : AVal) (x15 : Int) (m_10 : Mm) : Option ((Int × Mm) ⊕ (Mm)) :=
  bindO (ldM ro m_10 true 1 v11) fun v44 =>
  bindO (evP .e (.len false (.c v44))) fun v45 =>
  asI .i64 v45 fun x45 =>
  forceB (!ltI x45 x15) fun c46 =>
  cond c46 (
    bindO (ldM ro m_10 true 1 v11) fun v50 =>
    forceI (wr .i64 (x15 - x2)) fun x53 =>
    bindO (evP .e (.slS 1 (.c v50) (some (.c (.i .i64 x53))) (some (.c (.i .i64 x15))) none)) fun v55 =>
    bindO (btsM ro m_10 v55) fun v56 =>
    asS v56 fun s56 =>
    bindP (stepM ro m_10 (.mup (.c v41) (.c (.s s56)) (.c (.b true)))) fun vn_1 m_11 =>
    forceI (wr .i64 (x15 + 1)) fun x48 =>
    some (.inl (x48, m_11))) (
    some (.inr m_10))
noncomputable def g38 (M : Means) (ro : List ABlk) (v0 : AVal) (s1 : List UInt8) (x2 : Int) (m0 : Mm) : Option (AVal × Heap × Nat × Nat) :=
  bindP (callM M.call m0 74 [v0, (.s s1)]) fun v19 m_1 =>
  bindO (evP .e (.ext 0 (.c v19))) fun v20 =>
  bindO (evP .e (.ext 1 (.c v19))) fun v21 =>
  asI .i64 v21 fun x21 =>
  bindO (evP .e (.ext 2 (.c v19))) fun v22 =>
  asI .i64 v22 fun x22 =>
  forceB (!eqI x22 0) fun c24 =>
  cond c24 (
    finM m0.h.length (tupA [(.i .i64 0), (.i .i64 x22)]) m_1) (
    forceB (ltI x2 1) fun c27 =>
    bindO (cond c27 (
      some true) (
      forceB (ltI 10 x2) fun c30 =>
      some c30)) fun c31 =>
    cond c31 (
      finM m0.h.length (tupA [(.i .i64 0), (.i .i64 2)]) m_1) (
      bindP (stepM ro m_1 (.al 52 [AVal.nsl])) fun v11 m_2 =>
      bindP (callM M.call m_2 75 [v20, (.i .i64 x21)]) fun v34 m_3 =>
      rngK M.call (g38_P0 v11) [35, 36] k38a0 k38c0 v34 m_3 fun ⟨ex, m_8⟩ => onE ex (
        bindP (stepM ro m_8 .mkm) fun v41 m_9 =>
        bindO (M.loop (S := Int × Mm) (R := Mm) (fun s => g38_b1 M ro x2 v11 v41 s.1 s.2) (x2, m_9)) fun m_12 =>
        bindP (stepM ro m_12 (.mln (.c v41))) fun v58 m_13 =>
        asI .i64 v58 fun x58 =>
        finM m0.h.length (tupA [(.i .i64 x58), (.i .i64 0)]) m_13) (
        none) (fun ix =>
        none)))
theorem g38_r0_ok {ro : List ABlk} {O : Caller} {M : Means} (hM : M.Ok ⟨F, O⟩ ro) {v11} {v35} {v36} {b h r bk t p} (hb : lget h b = some (some bk)) (hg : bk.g = some (.lp ⟨t, [35, 36], k38a0, k38c0⟩ .ready p)) (hP : g38_P0 v11 t) (hr : g38_r0 M ro v11 b v35 v36 ⟨h, h.length, h.length⟩ = some r) : roundX ⟨F, O⟩ ro b [v35, v36] h = some r := by
  refine roundX_on (F := ⟨F, O⟩) (g := g38_r0 M ro v11 b v35 v36) hb hg rfl hr ?_
  clear hb hg hr
  intro m0 t0 ht hr
  obtain ⟨-, g11⟩ := hP
  have g35 : t0.get 35 = v35 := by rw [ht]; simp [putPs, get_set]
  have g36 : t0.get 36 = v36 := by rw [ht]; simp [putPs, get_set]
  have g11 : t0.get 11 = v11 := by rw [ht]; simp only [putPs, get_set]; simpa using g11
  clear ht
  unfold g38_r0 at hr
  show W _ _ k38a0 _ _
  unfold k38a0
  refine w_ops (wo_step (s_pure (p_mv g36)) (wo_nil ?_))
  obtain ⟨m_4, eb, z1⟩ := bindO_inv hr
  refine qb eb ?_
  unfold k38c0
  refine w_block ?_
  refine w_ops ?_
  obtain ⟨v37, e37, z2⟩ := bindO_inv z1
  refine wo_step (s_ld g11 e37) (wo_step (v := v36) (s_pure (p_mv rfl)) ?_)
  obtain ⟨v39, m_5, e39, z3⟩ := bindP_inv z2
  refine wo_step (s_bsl (qc rfl qn) e39) ?_
  obtain ⟨v40, m_6, e40, z4⟩ := bindP_inv z3
  refine wo_step (s_app rfl rfl e40) ?_
  obtain ⟨vn, m_7, en, z5⟩ := bindP_inv z4
  refine wo_stepN (s_st g11 rfl en) ?_
  refine wo_nil ?_
  refine bk_norm ?_
  exact z5

theorem g38_ok {ro : List ABlk} {O : Caller} {M : Means} (hM : M.Ok ⟨F, O⟩ ro) {v0 s1 x2 h r} (ho : O 38 [v0, (.s s1), (.i .i64 x2)] h = none) (hr : g38 M ro v0 s1 x2 ⟨h, h.length, h.length⟩ = some r) : callX ⟨F, O⟩ ro 38 [v0, (.s s1), (.i .i64 x2)] h = some r := by
  refine callX_of (F := ⟨F, O⟩) (fn := fn38) (g := g38 M ro v0 s1 x2) ho rfl rfl hr ?_
  clear ho
  clear hr
  intro m0 t0 ht hr
  have g0 : t0.get 0 = v0 := ht 0
  have g1 : t0.get 1 = (.s s1) := ht 1
  have g2 : t0.get 2 = (.i .i64 x2) := ht 2
  clear ht
  unfold g38 at hr
  refine w_seq (w_ops (wo_step (v := (.i .i64 0)) (s_pure (p_mv rfl)) (wo_step (v := (.i .i64 0)) (s_pure (p_mv rfl)) (wo_nil (nx_norm (w_seq (w_ops (wo_step (s_pure (p_mv g0)) (wo_step (s_pure (p_mv g1)) ?_)))))))))
  obtain ⟨v19, m_1, e19, z1⟩ := bindP_inv hr
  refine wo_step (s_call (mc rfl (mc rfl mn)) (callM_le hM.call e19)) (wo_step (v := v19) (s_pure (p_mv rfl)) ?_)
  obtain ⟨v20, e20, z2⟩ := bindO_inv z1
  refine wo_step (s_pure (o_ext rfl e20)) ?_
  obtain ⟨v21, e21, z3⟩ := bindO_inv z2
  obtain ⟨x21, rfl, z4⟩ := asI_inv z3
  refine wo_step (s_pure (o_ext rfl e21)) ?_
  obtain ⟨v22, e22, z5⟩ := bindO_inv z4
  obtain ⟨x22, rfl, z6⟩ := asI_inv z5
  refine wo_step (s_pure (o_ext rfl e22)) (wo_step (v := v20) (s_pure (p_mv rfl)) (wo_step (v := (.i .i64 x21)) (s_pure (p_mv rfl)) (wo_step (v := (.i .i64 x22)) (s_pure (p_mv rfl)) (wo_nil (nx_norm (w_seq (w_seq (w_ops (wo_step (v := (.i .i64 x22)) (s_pure (p_mv rfl)) ?_)))))))))
  obtain ⟨c24, e24, z7⟩ := forceB_inv z6
  refine wo_step (s_pure (p_bin rfl rfl (b_neq.trans (cb e24)))) (wo_nil (nx_norm ?_))
  rcases cond_inv z7 with ⟨rfl, z8⟩ | ⟨rfl, z8⟩
  · refine w_condT rfl ?_
    refine w_seq (w_ops (wo_step (v := (.i .i64 x22)) (s_pure (p_mv rfl)) (wo_step (v := (.i .i64 0)) (s_pure (p_mv rfl)) (wo_step (v := (.i .i64 x22)) (s_pure (p_mv rfl)) (wo_nil (nx_norm ?_))))))
    refine w_ret ?_
    refine nx_ret ?_
    exact qf ret_ok (rt rfl (rt rfl rn)) z8
  · refine w_condF rfl ?_
    refine w_skip (nx_norm (w_seq (w_seq (w_ops (wo_step (s_pure (p_mv g2)) ?_)))))
    obtain ⟨c27, e27, z9⟩ := forceB_inv z8
    refine wo_step (s_pure (p_bin rfl rfl (b_lss.trans (cb e27)))) (wo_step (v := (.b c27)) (s_pure (p_mv rfl)) ?_)
    obtain ⟨o, z10, hk⟩ := bindO_inv z9
    refine wo_join 3 (g38_J0 x2 v20 x21 m_1 o) ?_ ?_
    · clear hk
      rcases cond_inv z10 with ⟨rfl, z11⟩ | ⟨rfl, z11⟩
      · refine wo_skip (v := (.b true)) rfl rfl (wo_skip (v := (.b true)) rfl rfl (wo_step (v := (.b true)) (s_pure (p_pickT rfl rfl)) (wo_nil ?_)))
        cases z11
        exact ⟨_, _, rfl, rfl, gl rfl, gl g2, gl rfl, gl rfl⟩
      · refine wo_take (v := (.i .i64 x2)) rfl (s_pure (p_mv g2)) ?_
        obtain ⟨c30, e30, z12⟩ := forceB_inv z11
        refine wo_take (v := (.b c30)) rfl (s_pure (p_bin rfl rfl (b_gtr.trans (cb e30)))) (wo_step (v := (.b c30)) (s_pure (p_pickF rfl rfl)) (wo_nil ?_))
        cases z12
        exact ⟨_, _, rfl, rfl, gl rfl, gl g2, gl rfl, gl rfl⟩
    · clear z10
      have hr := hk
      clear hk
      obtain ⟨c31, ho⟩ : ∃ z, z = o := ⟨_, rfl⟩
      subst ho
      rintro mm t_1 ⟨rfl, g31, g2, g8, g9⟩
      refine wo_nil (nx_norm ?_)
      rcases cond_inv hr with ⟨rfl, z13⟩ | ⟨rfl, z13⟩
      · refine w_condT g31 ?_
        refine w_seq (w_ops (wo_step (v := (.i .i64 0)) (s_pure (p_mv rfl)) (wo_step (v := (.i .i64 2)) (s_pure (p_mv rfl)) (wo_nil (nx_norm ?_)))))
        refine w_ret ?_
        refine nx_ret ?_
        exact qf ret_ok (rt rfl (rt rfl rn)) z13
      · refine w_condF g31 ?_
        refine w_skip (nx_norm (w_seq (w_ops ?_)))
        obtain ⟨v11, m_2, e11, z14⟩ := bindP_inv z13
        refine wo_step (s_al e11) (wo_nil (nx_norm (w_seq (w_seq (w_ops (wo_step (s_pure (p_mv g8)) (wo_step (s_pure (p_mv g9)) ?_)))))))
        obtain ⟨v34, m_3, e34, z15⟩ := bindP_inv z14
        refine wo_step (s_call (mc rfl (mc rfl mn)) (callM_le hM.call e34)) (wo_nil (nx_norm ?_))
        refine w_block ?_
        refine w_rngK hM.call rfl z15 ⟨trivial, gl rfl⟩ ?_
        clear z15
        intro ex m_8 hr
        rcases onE_inv hr with ⟨rfl, z16⟩ | ⟨rfl, z16⟩ | ⟨ix, rfl, z16⟩
        · refine bk_norm ?_
          refine nx_norm (w_seq (w_ops ?_))
          obtain ⟨v41, m_9, e41, z17⟩ := bindP_inv z16
          refine wo_step (s_mkm e41) (wo_step (v := v41) (s_pure (p_mv rfl)) (wo_nil (nx_norm (w_seq (w_seq (w_ops (wo_step (s_pure (p_mv g2)) (wo_step (v := (.i .i64 x2)) (s_pure (p_mv rfl)) (wo_nil (nx_norm ?_))))))))))
          refine w_block ?_
          obtain ⟨o_1, hl, z18⟩ := bindO_inv z17
          obtain ⟨n, hl⟩ := hM.loop _ _ _ hl
          refine jp_mono (w_loop _ (g38_I1 x2 v11 v41) (g38_J1 x2 v11 v41) ?_ n _ _ _ _ hl ⟨rfl, gl rfl, gl g2, gl rfl, gl rfl⟩) ?_
          · clear z18 hl
            intro s mm_2 t_2 o hi hr
            obtain ⟨x15, m_10⟩ := s
            obtain ⟨rfl, g15, g2, g11, g14⟩ := hi
            unfold g38_b1 at hr
            refine w_seq (w_seq (w_ops (wo_step (s_pure (p_mv g15)) ?_)))
            obtain ⟨v44, e44, z19⟩ := bindO_inv hr
            refine wo_step (s_ld g11 e44) ?_
            obtain ⟨v45, e45, z20⟩ := bindO_inv z19
            obtain ⟨x45, rfl, z21⟩ := asI_inv z20
            refine wo_step (s_pure (o_len rfl e45)) ?_
            obtain ⟨c46, e46, z22⟩ := forceB_inv z21
            refine wo_step (s_pure (p_bin rfl rfl (b_leq.trans (cb e46)))) (wo_nil (nx_norm ?_))
            rcases cond_inv z22 with ⟨rfl, z23⟩ | ⟨rfl, z23⟩
            · refine w_condT rfl ?_
              refine w_skip (nx_norm (w_seq ?_))
              refine w_block ?_
              refine w_ops (wo_step (s_pure (p_mv g14)) ?_)
              obtain ⟨v50, e50, z24⟩ := bindO_inv z23
              refine wo_step (s_ld g11 e50) (wo_step (s_pure (p_mv g15)) (wo_step (s_pure (p_mv g2)) ?_))
              obtain ⟨x53, e53, z25⟩ := forceI_inv z24
              refine wo_step (s_pure (p_bin rfl rfl (b_sub.trans (ci e53)))) (wo_step (s_pure (p_mv g15)) ?_)
              obtain ⟨v55, e55, z26⟩ := bindO_inv z25
              refine wo_step (s_pure (o_slS rfl (os rfl) (os rfl) on e55)) ?_
              obtain ⟨v56, e56, z27⟩ := bindO_inv z26
              obtain ⟨s56, rfl, z28⟩ := asS_inv z27
              refine wo_step (s_bts rfl e56) ?_
              obtain ⟨vn_1, m_11, en_1, z29⟩ := bindP_inv z28
              refine wo_stepN (s_mup rfl rfl rfl en_1) ?_
              refine wo_nil ?_
              refine bk_norm ?_
              refine nx_norm (w_ops (wo_step (s_pure (p_mv g15)) ?_))
              obtain ⟨x48, e48, z30⟩ := forceI_inv z29
              refine wo_step (s_pure (p_bin rfl rfl (b_add.trans (ci e48)))) (wo_step (v := (.i .i64 x48)) (s_pure (p_mv rfl)) (wo_nil ?_))
              cases z30
              exact ⟨_, _, rfl, rfl, rfl, gl rfl, gl g2, gl g11, gl g14⟩
            · refine w_condF rfl ?_
              refine w_exit ?_
              refine nx_exit ?_
              cases z23
              exact ⟨_, _, rfl, ne_norm_exit, rfl, rfl, gl g14⟩
          · obtain ⟨m_12, ho⟩ : ∃ z, z = o_1 := ⟨_, rfl⟩
            subst ho
            rintro _ mm_1 t_3 ⟨rfl, rfl, g14⟩
            refine bk_hit ?_
            refine nx_norm (w_seq (w_ops (wo_step (s_pure (p_mv g14)) ?_)))
            obtain ⟨v58, m_13, e58, z31⟩ := bindP_inv z18
            obtain ⟨x58, rfl, z32⟩ := asI_inv z31
            refine wo_step (s_mln rfl e58) (wo_step (v := (.i .i64 x58)) (s_pure (p_mv rfl)) (wo_step (v := (.i .i64 0)) (s_pure (p_mv rfl)) (wo_nil (nx_norm ?_))))
            refine w_ret ?_
            exact qf ret_ok (rt rfl (rt rfl rn)) z32
        · cases z16
        · cases z16
/- dibber/vine.readYears -/
abbrev g47_J0 (v14 : AVal) (m_1 : Mm) (o : Bool) (m1 : Mm) (t1 : Tr) : Prop :=
  match o with
  | c24 => m_1 = m1 ∧ t1.get 24 = (.b c24) ∧ t1.get 8 = v14
def g47 (M : Means) (ro : List ABlk) (v0 : AVal) (s1 : List UInt8) (x2 : Int) (m0 : Mm) : Option (AVal × Heap × Nat × Nat) :=
  bindP (callM M.call m0 60 [v0, (.s s1)]) fun v13 m_1 =>
  bindO (evP .e (.ext 0 (.c v13))) fun v14 =>
  bindO (evP .e (.ext 1 (.c v13))) fun v15 =>
  asI .i64 v15 fun x15 =>
  forceB (!eqI x15 0) fun c17 =>
  cond c17 (
    finM m0.h.length (tupA [AVal.nsl, (.i .i64 x15)]) m_1) (
    forceB (ltI x2 0) fun c20 =>
    bindO (cond c20 (
      some true) (
      forceB (ltI 1000 x2) fun c23 =>
      some c23)) fun c24 =>
    cond c24 (
      finM m0.h.length (tupA [AVal.nsl, (.i .i64 3)]) m_1) (
      finM m0.h.length (tupA [v14, (.i .i64 0)]) m_1))
theorem g47_ok {ro : List ABlk} {O : Caller} {M : Means} (hM : M.Ok ⟨F, O⟩ ro) {v0 s1 x2 h r} (ho : O 47 [v0, (.s s1), (.i .i64 x2)] h = none) (hr : g47 M ro v0 s1 x2 ⟨h, h.length, h.length⟩ = some r) : callX ⟨F, O⟩ ro 47 [v0, (.s s1), (.i .i64 x2)] h = some r := by
  refine callX_of (F := ⟨F, O⟩) (fn := fn47) (g := g47 M ro v0 s1 x2) ho rfl rfl hr ?_
  clear ho
  clear hr
  intro m0 t0 ht hr
  have g0 : t0.get 0 = v0 := ht 0
  have g1 : t0.get 1 = (.s s1) := ht 1
  have g2 : t0.get 2 = (.i .i64 x2) := ht 2
  clear ht
  unfold g47 at hr
  refine w_seq (w_ops (wo_step (v := AVal.nsl) (s_pure (p_mv rfl)) (wo_step (v := (.i .i64 0)) (s_pure (p_mv rfl)) (wo_nil (nx_norm (w_seq (w_ops (wo_step (s_pure (p_mv g0)) (wo_step (s_pure (p_mv g1)) ?_)))))))))
  obtain ⟨v13, m_1, e13, z1⟩ := bindP_inv hr
  refine wo_step (s_call (mc rfl (mc rfl mn)) (callM_le hM.call e13)) (wo_step (v := v13) (s_pure (p_mv rfl)) ?_)
  obtain ⟨v14, e14, z2⟩ := bindO_inv z1
  refine wo_step (s_pure (o_ext rfl e14)) ?_
  obtain ⟨v15, e15, z3⟩ := bindO_inv z2
  obtain ⟨x15, rfl, z4⟩ := asI_inv z3
  refine wo_step (s_pure (o_ext rfl e15)) (wo_step (v := v14) (s_pure (p_mv rfl)) (wo_step (v := (.i .i64 x15)) (s_pure (p_mv rfl)) (wo_nil (nx_norm (w_seq (w_seq (w_ops (wo_step (v := (.i .i64 x15)) (s_pure (p_mv rfl)) ?_))))))))
  obtain ⟨c17, e17, z5⟩ := forceB_inv z4
  refine wo_step (s_pure (p_bin rfl rfl (b_neq.trans (cb e17)))) (wo_nil (nx_norm ?_))
  rcases cond_inv z5 with ⟨rfl, z6⟩ | ⟨rfl, z6⟩
  · refine w_condT rfl ?_
    refine w_seq (w_ops (wo_step (v := (.i .i64 x15)) (s_pure (p_mv rfl)) (wo_step (v := AVal.nsl) (s_pure (p_mv rfl)) (wo_step (v := (.i .i64 x15)) (s_pure (p_mv rfl)) (wo_nil (nx_norm ?_))))))
    refine w_ret ?_
    refine nx_ret ?_
    exact qf ret_ok (rt rfl (rt rfl rn)) z6
  · refine w_condF rfl ?_
    refine w_skip (nx_norm (w_seq (w_seq (w_ops (wo_step (s_pure (p_mv g2)) ?_)))))
    obtain ⟨c20, e20, z7⟩ := forceB_inv z6
    refine wo_step (s_pure (p_bin rfl rfl (b_lss.trans (cb e20)))) (wo_step (v := (.b c20)) (s_pure (p_mv rfl)) ?_)
    obtain ⟨o, z8, hk⟩ := bindO_inv z7
    refine wo_join 3 (g47_J0 v14 m_1 o) ?_ ?_
    · clear hk
      rcases cond_inv z8 with ⟨rfl, z9⟩ | ⟨rfl, z9⟩
      · refine wo_skip (v := (.b true)) rfl rfl (wo_skip (v := (.b true)) rfl rfl (wo_step (v := (.b true)) (s_pure (p_pickT rfl rfl)) (wo_nil ?_)))
        cases z9
        exact ⟨_, _, rfl, rfl, gl rfl, gl rfl⟩
      · refine wo_take (v := (.i .i64 x2)) rfl (s_pure (p_mv g2)) ?_
        obtain ⟨c23, e23, z10⟩ := forceB_inv z9
        refine wo_take (v := (.b c23)) rfl (s_pure (p_bin rfl rfl (b_gtr.trans (cb e23)))) (wo_step (v := (.b c23)) (s_pure (p_pickF rfl rfl)) (wo_nil ?_))
        cases z10
        exact ⟨_, _, rfl, rfl, gl rfl, gl rfl⟩
    · clear z8
      have hr := hk
      clear hk
      obtain ⟨c24, ho⟩ : ∃ z, z = o := ⟨_, rfl⟩
      subst ho
      rintro mm t_1 ⟨rfl, g24, g8⟩
      refine wo_nil (nx_norm ?_)
      rcases cond_inv hr with ⟨rfl, z11⟩ | ⟨rfl, z11⟩
      · refine w_condT g24 ?_
        refine w_seq (w_ops (wo_step (v := AVal.nsl) (s_pure (p_mv rfl)) (wo_step (v := (.i .i64 3)) (s_pure (p_mv rfl)) (wo_nil (nx_norm ?_)))))
        refine w_ret ?_
        refine nx_ret ?_
        exact qf ret_ok (rt rfl (rt rfl rn)) z11
      · refine w_condF g24 ?_
        refine w_skip (nx_norm (w_seq (w_ops (wo_step (s_pure (p_mv g8)) (wo_step (v := v14) (s_pure (p_mv rfl)) (wo_step (v := (.i .i64 0)) (s_pure (p_mv rfl)) (wo_nil (nx_norm ?_))))))))
        refine w_ret ?_
        exact qf ret_ok (rt rfl (rt rfl rn)) z11
/- (dibber/vine.rules).lengths -/
abbrev g48_I0 (x1 : Int) (v10 : AVal) (v13 : AVal) (x15 : Int) (s : Int × Mm) (m1 : Mm) (t1 : Tr) : Prop :=
  match s with
  | (x16, m_3) => m_3 = m1 ∧ t1.get 16 = (.i .i64 x16) ∧ t1.get 1 = (.i .i64 x1) ∧ t1.get 5 = v10 ∧ t1.get 6 = v13 ∧ t1.get 15 = (.i .i64 x15)
abbrev g48_J0 (x1 : Int) (v10 : AVal) (v13 : AVal) (x15 : Int) (o : Mm) (e : AExit) (m1 : Mm) (t1 : Tr) : Prop :=
  match o with
  | mo => e = (.exit 0) ∧ mo = m1 ∧ t1.get 1 = (.i .i64 x1) ∧ t1.get 5 = v10 ∧ t1.get 6 = v13
def g48_b0 (M : Means) (ro : List ABlk) (x1 : Int) (v10 : AVal) (v13 : AVal) (x15 : Int) (x16 : Int) (m_3 : Mm) : Option ((Int × Mm) ⊕ (Mm)) :=
  forceB (ltI x16 x15) fun c17 =>
  cond c17 (
    bindO (evP .e (.ixS 1 (.c v13) (.c (.i .i64 x16)))) fun v21 =>
    bindP (stepM ro m_3 (.st 1 (.c v21) (.c (.i .u64 1)))) fun vn m_4 =>
    forceI (wr .i64 (x16 + 1)) fun x22 =>
    some (.inl (x22, m_4))) (
    some (.inr m_3))
abbrev g48_I1 (v10 : AVal) (x1 : Int) (s : AVal × AVal × Int × Mm) (m1 : Mm) (t1 : Tr) : Prop :=
  match s with
  | (v6, v8, x26, m_7) => m_7 = m1 ∧ t1.get 6 = v6 ∧ t1.get 8 = v8 ∧ t1.get 26 = (.i .i64 x26) ∧ t1.get 5 = v10 ∧ t1.get 25 = (.i .i64 x1)
abbrev g48_J1 (v10 : AVal) (x1 : Int) (o : (AVal × Mm)) (e : AExit) (m1 : Mm) (t1 : Tr) : Prop :=
  match o with
  | (y8, mo) => e = (.exit 2) ∧ mo = m1 ∧ t1.get 8 = y8
def g48_b1 (M : Means) (ro : List ABlk) (v10 : AVal) (x1 : Int) (v6 : AVal) (v8 : AVal) (x26 : Int) (m_7 : Mm) : Option ((AVal × AVal × Int × Mm) ⊕ ((AVal × Mm))) :=
  forceB (ltI x26 x1) fun c27 =>
  cond c27 (
    bindP (stepM ro m_7 (.bsl 63 1 [AVal.nsl] 1 [((0, 1), .c v6)])) fun v29 m_8 =>
    bindP (callM M.call m_8 57 [v29, v10]) fun v31 m_9 =>
    bindO (evP .e (.ixS 1 (.c v31) (.c (.i .i64 0)))) fun v32 =>
    bindO (ldM ro m_9 true 1 v32) fun v33 =>
    bindP (stepM ro m_9 (.bsl 63 1 [AVal.nsl] 1 [((0, 1), .c v33)])) fun v36 m_10 =>
    bindP (stepM ro m_10 (.app 63 1 24 [AVal.nsl] (.c v8) (.c v36))) fun v37 m_11 =>
    forceI (wr .i64 (x26 + 1)) fun x38 =>
    some (.inl (v33, v37, x38, m_11))) (
    some (.inr (v8, m_7)))
def g48 (M : Means) (ro : List ABlk) (v0 : AVal) (x1 : Int) (m0 : Mm) : Option (AVal × Heap × Nat × Nat) :=
  bindP (callM M.call m0 55 [v0, (AVal.fn 56 [] [])]) fun v10 m_1 =>
  bindO (evP .e (.len false (.c v0))) fun v12 =>
  asI .i64 v12 fun x12 =>
  bindP (stepM ro m_1 (.mk 61 1 8 [(AVal.i IntKind.u64 0)] (.c (.i .i64 x12)) (.c (.i .i64 x12)))) fun v13 m_2 =>
  bindO (evP .e (.len false (.c v13))) fun v15 =>
  asI .i64 v15 fun x15 =>
  bindO (M.loop (S := Int × Mm) (R := Mm) (fun s => g48_b0 M ro x1 v10 v13 x15 s.1 s.2) (0, m_2)) fun m_5 =>
  bindP (stepM ro m_5 (.bsl 63 1 [AVal.nsl] 1 [((0, 1), .c v13)])) fun v24 m_6 =>
  bindO (M.loop (S := AVal × AVal × Int × Mm) (R := (AVal × Mm)) (fun s => g48_b1 M ro v10 x1 s.1 s.2.1 s.2.2.1 s.2.2.2) (v13, v24, 0, m_6)) fun ⟨v8_1, m_12⟩ =>
  finM m0.h.length (tupA [v8_1]) m_12
theorem g48_ok {ro : List ABlk} {O : Caller} {M : Means} (hM : M.Ok ⟨F, O⟩ ro) {v0 x1 h r} (ho : O 48 [v0, (.i .i64 x1)] h = none) (hr : g48 M ro v0 x1 ⟨h, h.length, h.length⟩ = some r) : callX ⟨F, O⟩ ro 48 [v0, (.i .i64 x1)] h = some r := by
  refine callX_of (F := ⟨F, O⟩) (fn := fn48) (g := g48 M ro v0 x1) ho rfl rfl hr ?_
  clear ho
  clear hr
  intro m0 t0 ht hr
  have g0 : t0.get 0 = v0 := ht 0
  have g1 : t0.get 1 = (.i .i64 x1) := ht 1
  clear ht
  unfold g48 at hr
  refine w_seq (w_ops (wo_step (v := AVal.nsl) (s_pure (p_mv rfl)) (wo_nil (nx_norm (w_seq (w_ops (wo_step (s_pure (p_mv g0)) ?_)))))))
  obtain ⟨v10, m_1, e10, z1⟩ := bindP_inv hr
  refine wo_step (s_call (mc rfl (mc rfl mn)) (callM_le hM.call e10)) (wo_step (v := v10) (s_pure (p_mv rfl)) (wo_nil (nx_norm (w_seq (w_ops (wo_step (s_pure (p_mv g0)) ?_))))))
  obtain ⟨v12, e12, z2⟩ := bindO_inv z1
  obtain ⟨x12, rfl, z3⟩ := asI_inv z2
  refine wo_step (s_pure (o_len rfl e12)) ?_
  obtain ⟨v13, m_2, e13, z4⟩ := bindP_inv z3
  refine wo_step (s_mk rfl rfl e13) (wo_step (v := v13) (s_pure (p_mv rfl)) (wo_nil (nx_norm (w_seq (w_seq (w_ops (wo_step (v := v13) (s_pure (p_mv rfl)) ?_)))))))
  obtain ⟨v15, e15, z5⟩ := bindO_inv z4
  obtain ⟨x15, rfl, z6⟩ := asI_inv z5
  refine wo_step (s_pure (o_len rfl e15)) (wo_step (v := (.i .i64 0)) (s_pure (p_mv rfl)) (wo_nil (nx_norm ?_)))
  refine w_block ?_
  obtain ⟨o, hl_1, z7⟩ := bindO_inv z6
  obtain ⟨n_1, hl_1⟩ := hM.loop _ _ _ hl_1
  refine jp_mono (w_loop _ (g48_I0 x1 v10 v13 x15) (g48_J0 x1 v10 v13 x15) ?_ n_1 _ _ _ _ hl_1 ⟨rfl, gl rfl, gl g1, gl rfl, gl rfl, gl rfl⟩) ?_
  · clear z7 hl_1
    intro s mm_3 t_1 o hi hr
    obtain ⟨x16, m_3⟩ := s
    obtain ⟨rfl, g16, g1, g5, g6, g15⟩ := hi
    unfold g48_b0 at hr
    refine w_seq (w_ops ?_)
    obtain ⟨c17, e17, z8⟩ := forceB_inv hr
    refine wo_step (s_pure (p_bin g16 g15 (b_lss.trans (cb e17)))) (wo_nil (nx_norm (w_seq ?_)))
    rcases cond_inv z8 with ⟨rfl, z9⟩ | ⟨rfl, z9⟩
    · refine w_condT rfl ?_
      refine w_skip (nx_norm (w_seq ?_))
      refine w_block ?_
      refine w_seq (w_ops (wo_step (s_pure (p_mv g16)) (wo_step (v := (.i .i64 x16)) (s_pure (p_mv rfl)) (wo_nil (nx_norm (w_ops (wo_step (s_pure (p_mv g6)) (wo_step (v := (.i .i64 x16)) (s_pure (p_mv rfl)) ?_))))))))
      obtain ⟨v21, e21, z10⟩ := bindO_inv z9
      refine wo_step (s_pure (o_ixS rfl rfl e21)) ?_
      obtain ⟨vn, m_4, en, z11⟩ := bindP_inv z10
      refine wo_stepN (s_st rfl rfl en) ?_
      refine wo_nil ?_
      refine bk_norm ?_
      refine nx_norm (w_ops ?_)
      obtain ⟨x22, e22, z12⟩ := forceI_inv z11
      refine wo_step (s_pure (p_bin g16 rfl (b_add.trans (ci e22)))) (wo_step (v := (.i .i64 x22)) (s_pure (p_mv rfl)) (wo_nil ?_))
      cases z12
      exact ⟨_, _, rfl, rfl, rfl, gl rfl, gl g1, gl g5, gl g6, gl g15⟩
    · refine w_condF rfl ?_
      refine w_exit ?_
      refine nx_exit ?_
      cases z9
      exact ⟨_, _, rfl, ne_norm_exit, rfl, rfl, gl g1, gl g5, gl g6⟩
  · obtain ⟨m_5, ho⟩ : ∃ z, z = o := ⟨_, rfl⟩
    subst ho
    rintro _ mm_2 t_2 ⟨rfl, rfl, g1, g5, g6⟩
    refine bk_hit ?_
    refine nx_norm (w_seq (w_ops (wo_step (s_pure (p_mv g6)) ?_)))
    obtain ⟨v24, m_6, e24, z13⟩ := bindP_inv z7
    refine wo_step (s_bsl (qc rfl qn) e24) (wo_step (v := v24) (s_pure (p_mv rfl)) (wo_nil (nx_norm (w_seq (w_seq (w_ops (wo_step (s_pure (p_mv g1)) (wo_step (v := (.i .i64 0)) (s_pure (p_mv rfl)) (wo_nil (nx_norm ?_))))))))))
    refine w_block ?_
    obtain ⟨o_1, hl, z14⟩ := bindO_inv z13
    obtain ⟨n, hl⟩ := hM.loop _ _ _ hl
    refine jp_mono (w_loop _ (g48_I1 v10 x1) (g48_J1 v10 x1) ?_ n _ _ _ _ hl ⟨rfl, gl g6, gl rfl, gl rfl, gl g5, gl rfl⟩) ?_
    · clear z14 hl
      intro s mm_1 t_3 o hi hr
      obtain ⟨v6, v8, x26, m_7⟩ := s
      obtain ⟨rfl, g6, g8, g26, g5, g25⟩ := hi
      unfold g48_b1 at hr
      refine w_seq (w_ops ?_)
      obtain ⟨c27, e27, z15⟩ := forceB_inv hr
      refine wo_step (s_pure (p_bin g26 g25 (b_lss.trans (cb e27)))) (wo_nil (nx_norm (w_seq ?_)))
      rcases cond_inv z15 with ⟨rfl, z16⟩ | ⟨rfl, z16⟩
      · refine w_condT rfl ?_
        refine w_skip (nx_norm (w_seq ?_))
        refine w_block ?_
        refine w_seq (w_ops (wo_step (s_pure (p_mv g6)) ?_))
        obtain ⟨v29, m_8, e29, z17⟩ := bindP_inv z16
        refine wo_step (s_bsl (qc rfl qn) e29) (wo_step (s_pure (p_mv g5)) ?_)
        obtain ⟨v31, m_9, e31, z18⟩ := bindP_inv z17
        refine wo_step (s_call (mc rfl (mc rfl mn)) (callM_le hM.call e31)) ?_
        obtain ⟨v32, e32, z19⟩ := bindO_inv z18
        refine wo_step (s_pure (o_ixS rfl rfl e32)) ?_
        obtain ⟨v33, e33, z20⟩ := bindO_inv z19
        refine wo_step (s_ld rfl e33) (wo_step (v := v33) (s_pure (p_mv rfl)) (wo_nil (nx_norm (w_ops (wo_step (s_pure (p_mv g8)) (wo_step (v := v33) (s_pure (p_mv rfl)) ?_))))))
        obtain ⟨v36, m_10, e36, z21⟩ := bindP_inv z20
        refine wo_step (s_bsl (qc rfl qn) e36) ?_
        obtain ⟨v37, m_11, e37, z22⟩ := bindP_inv z21
        refine wo_step (s_app rfl rfl e37) (wo_step (v := v37) (s_pure (p_mv rfl)) (wo_nil ?_))
        refine bk_norm ?_
        refine nx_norm (w_ops ?_)
        obtain ⟨x38, e38, z23⟩ := forceI_inv z22
        refine wo_step (s_pure (p_bin g26 rfl (b_add.trans (ci e38)))) (wo_step (v := (.i .i64 x38)) (s_pure (p_mv rfl)) (wo_nil ?_))
        cases z23
        exact ⟨_, _, rfl, rfl, rfl, gl rfl, gl rfl, gl rfl, gl g5, gl g25⟩
      · refine w_condF rfl ?_
        refine w_exit ?_
        refine nx_exit ?_
        cases z16
        exact ⟨_, _, rfl, ne_norm_exit, rfl, rfl, gl g8⟩
    · obtain ⟨v8_1, m_12⟩ := o_1
      rintro _ mm t_4 ⟨rfl, rfl, g8⟩
      refine bk_hit ?_
      refine nx_norm (w_seq (w_ops (wo_step (s_pure (p_mv g8)) (wo_step (v := v8_1) (s_pure (p_mv rfl)) (wo_nil (nx_norm ?_))))))
      refine w_ret ?_
      exact qf ret_ok (rt rfl rn) z14
/- dibber/vine.long -/
abbrev g49_I0 (v0 : AVal) (s1 : List UInt8) (x8 : Int) (s : Int × Int × Mm) (m1 : Mm) (t1 : Tr) : Prop :=
  match s with
  | (x5, x9, m_1) => m_1 = m1 ∧ t1.get 5 = (.i .u64 x5) ∧ t1.get 9 = (.i .i64 x9) ∧ t1.get 0 = v0 ∧ t1.get 1 = (.s s1) ∧ t1.get 8 = (.i .i64 x8)
abbrev g49_J0 (v0 : AVal) (s1 : List UInt8) (x8 : Int) (o : (Int × Mm)) (e : AExit) (m1 : Mm) (t1 : Tr) : Prop :=
  match o with
  | (y5, mo) => e = (.exit 0) ∧ mo = m1 ∧ t1.get 5 = (.i .u64 y5)
def g49_b0 (M : Means) (ro : List ABlk) (v0 : AVal) (s1 : List UInt8) (x8 : Int) (x5 : Int) (x9 : Int) (m_1 : Mm) : Option ((Int × Int × Mm) ⊕ ((Int × Mm))) :=
  forceB (ltI x9 x8) fun c10 =>
  cond c10 (
    bindO (evP .e (.ixStr (.c (.s s1)) (.c (.i .i64 x9)))) fun v16 =>
    asI .u8 v16 fun x16 =>
    bindP (callM M.call m_1 54 [(.i .u8 x16)]) fun v17 m_2 =>
    asI .i64 v17 fun x17 =>
    bindO (evP .e (.ixS 1 (.c v0) (.c (.i .i64 x17)))) fun v18 =>
    bindO (ldM ro m_2 true 1 v18) fun v19 =>
    asI .u64 v19 fun x19 =>
    bindP (callM M.call m_2 86 [(.i .u64 x5), (.i .u64 x19)]) fun v20 m_3 =>
    asI .u64 v20 fun x20 =>
    forceI (wr .i64 (x9 + 1)) fun x21 =>
    some (.inl (x20, x21, m_3))) (
    some (.inr (x5, m_1)))
def g49 (M : Means) (ro : List ABlk) (v0 : AVal) (s1 : List UInt8) (m0 : Mm) : Option (AVal × Heap × Nat × Nat) :=
  bindO (evP .e (.len true (.c (.s s1)))) fun v8 =>
  asI .i64 v8 fun x8 =>
  bindO (M.loop (S := Int × Int × Mm) (R := (Int × Mm)) (fun s => g49_b0 M ro v0 s1 x8 s.1 s.2.1 s.2.2) (0, 0, m0)) fun ⟨x5_1, m_4⟩ =>
  finM m0.h.length (tupA [(.i .u64 x5_1)]) m_4
theorem g49_ok {ro : List ABlk} {O : Caller} {M : Means} (hM : M.Ok ⟨F, O⟩ ro) {v0 s1 h r} (ho : O 49 [v0, (.s s1)] h = none) (hr : g49 M ro v0 s1 ⟨h, h.length, h.length⟩ = some r) : callX ⟨F, O⟩ ro 49 [v0, (.s s1)] h = some r := by
  refine callX_of (F := ⟨F, O⟩) (fn := fn49) (g := g49 M ro v0 s1) ho rfl rfl hr ?_
  clear ho
  clear hr
  intro m0 t0 ht hr
  have g0 : t0.get 0 = v0 := ht 0
  have g1 : t0.get 1 = (.s s1) := ht 1
  clear ht
  unfold g49 at hr
  refine w_seq (w_ops (wo_step (v := (.i .u64 0)) (s_pure (p_mv rfl)) (wo_nil (nx_norm (w_seq (w_ops (wo_step (v := (.i .u64 0)) (s_pure (p_mv rfl)) (wo_nil (nx_norm (w_seq (w_seq ?_)))))))))))
  refine w_ops (wo_step (s_pure (p_mv g1)) ?_)
  obtain ⟨v8, e8, z1⟩ := bindO_inv hr
  obtain ⟨x8, rfl, z2⟩ := asI_inv z1
  refine wo_step (s_pure (o_len rfl e8)) (wo_step (v := (.i .i64 0)) (s_pure (p_mv rfl)) (wo_nil (nx_norm ?_)))
  refine w_block ?_
  obtain ⟨o, hl, z3⟩ := bindO_inv z2
  obtain ⟨n, hl⟩ := hM.loop _ _ _ hl
  refine jp_mono (w_loop _ (g49_I0 v0 s1 x8) (g49_J0 v0 s1 x8) ?_ n _ _ _ _ hl ⟨rfl, gl rfl, gl rfl, gl g0, gl g1, gl rfl⟩) ?_
  · clear z3 hl
    intro s mm_1 t_1 o hi hr
    obtain ⟨x5, x9, m_1⟩ := s
    obtain ⟨rfl, g5, g9, g0, g1, g8⟩ := hi
    unfold g49_b0 at hr
    refine w_seq (w_ops ?_)
    obtain ⟨c10, e10, z4⟩ := forceB_inv hr
    refine wo_step (s_pure (p_bin g9 g8 (b_lss.trans (cb e10)))) (wo_nil (nx_norm (w_seq ?_)))
    rcases cond_inv z4 with ⟨rfl, z5⟩ | ⟨rfl, z5⟩
    · refine w_condT rfl ?_
      refine w_skip (nx_norm (w_seq ?_))
      refine w_block ?_
      refine w_seq (w_ops (wo_step (s_pure (p_mv g9)) (wo_step (v := (.i .i64 x9)) (s_pure (p_mv rfl)) (wo_nil (nx_norm (w_ops (wo_step (s_pure (p_mv g5)) (wo_step (s_pure (p_mv g0)) (wo_step (s_pure (p_mv g1)) (wo_step (v := (.i .i64 x9)) (s_pure (p_mv rfl)) ?_))))))))))
      obtain ⟨v16, e16, z6⟩ := bindO_inv z5
      obtain ⟨x16, rfl, z7⟩ := asI_inv z6
      refine wo_step (s_pure (o_ixStr rfl rfl e16)) ?_
      obtain ⟨v17, m_2, e17, z8⟩ := bindP_inv z7
      obtain ⟨x17, rfl, z9⟩ := asI_inv z8
      refine wo_step (s_call (mc rfl mn) (callM_le hM.call e17)) ?_
      obtain ⟨v18, e18, z10⟩ := bindO_inv z9
      refine wo_step (s_pure (o_ixS rfl rfl e18)) ?_
      obtain ⟨v19, e19, z11⟩ := bindO_inv z10
      obtain ⟨x19, rfl, z12⟩ := asI_inv z11
      refine wo_step (s_ld rfl e19) ?_
      obtain ⟨v20, m_3, e20, z13⟩ := bindP_inv z12
      obtain ⟨x20, rfl, z14⟩ := asI_inv z13
      refine wo_step (s_call (mc rfl (mc rfl mn)) (callM_le hM.call e20)) (wo_step (v := (.i .u64 x20)) (s_pure (p_mv rfl)) (wo_nil ?_))
      refine bk_norm ?_
      refine nx_norm (w_ops ?_)
      obtain ⟨x21, e21, z15⟩ := forceI_inv z14
      refine wo_step (s_pure (p_bin g9 rfl (b_add.trans (ci e21)))) (wo_step (v := (.i .i64 x21)) (s_pure (p_mv rfl)) (wo_nil ?_))
      cases z15
      exact ⟨_, _, rfl, rfl, rfl, gl rfl, gl rfl, gl g0, gl g1, gl g8⟩
    · refine w_condF rfl ?_
      refine w_exit ?_
      refine nx_exit ?_
      cases z5
      exact ⟨_, _, rfl, ne_norm_exit, rfl, rfl, gl g5⟩
  · obtain ⟨x5_1, m_4⟩ := o
    rintro _ mm t_2 ⟨rfl, rfl, g5⟩
    refine bk_hit ?_
    refine nx_norm (w_seq (w_ops (wo_step (s_pure (p_mv g5)) (wo_step (v := (.i .u64 x5_1)) (s_pure (p_mv rfl)) (wo_nil (nx_norm ?_))))))
    refine w_ret ?_
    exact qf ret_ok (rt rfl rn) z3
/- (dibber/vine.rules).grow -/
abbrev k50a0 : ACode := (.ops [(.mk (some 8) none (.pure (.mv (.t 13))))])
abbrev k50c0 : ACode := (.block 1 (.ops [(.mk (some 14) none (.ld true 1 (.t 7))), (.mk (some 15) none (.pure (.mv (.t 8)))), (.mk (some 16) none (.bsl 5 1 [(.i .u8 0)] 1 [((0, 1), (.t 15))])), (.mk (some 17) none (.app 5 1 1 [(.i .u8 0)] (.t 14) (.t 16))), (.mk none none (.st 1 (.t 7) (.t 17)))]))
abbrev g50_P0 (v7 : AVal) (t1 : Tr) : Prop := True ∧ t1.get 7 = v7
def g50_r0 (M : Means) (ro : List ABlk) (v7 : AVal) (b : Nat) (v13 : AVal) (m0 : Mm) : Option (AVal × Heap × Nat × Nat) :=
  bindO (rndB b m0) fun m_3 =>
  bindO (ldM ro m_3 true 1 v7) fun v14 =>
  bindP (stepM ro m_3 (.bsl 5 1 [(AVal.i IntKind.u8 0)] 1 [((0, 1), .c v13)])) fun v16 m_4 =>
  bindP (stepM ro m_4 (.app 5 1 1 [(AVal.i IntKind.u8 0)] (.c v14) (.c v16))) fun v17 m_5 =>
  bindP (stepM ro m_5 (.st 1 (.c v7) (.c v17))) fun vn m_6 =>
  rndE m0.h.length b .norm m_6
noncomputable def g50 (M : Means) (ro : List ABlk) (v0 : AVal) (s1 : List UInt8) (v2 : AVal) (m0 : Mm) : Option (AVal × Heap × Nat × Nat) :=
  bindP (stepM ro m0 (.al 52 [AVal.nsl])) fun v7 m_1 =>
  bindP (callM M.call m_1 59 [v0, (.i .u64 0), (.s s1), v2]) fun v12 m_2 =>
  rngK M.call (g50_P0 v7) [13] k50a0 k50c0 v12 m_2 fun ⟨ex, m_7⟩ => onE ex (
    bindO (ldM ro m_7 true 1 v7) fun v18 =>
    bindO (btsM ro m_7 v18) fun v19 =>
    asS v19 fun s19 =>
    finM m0.h.length (tupA [(.s s19)]) m_7) (
    none) (fun ix =>
    none)
theorem g50_r0_ok {ro : List ABlk} {O : Caller} {M : Means} (hM : M.Ok ⟨F, O⟩ ro) {v7} {v13} {b h r bk t p} (hb : lget h b = some (some bk)) (hg : bk.g = some (.lp ⟨t, [13], k50a0, k50c0⟩ .ready p)) (hP : g50_P0 v7 t) (hr : g50_r0 M ro v7 b v13 ⟨h, h.length, h.length⟩ = some r) : roundX ⟨F, O⟩ ro b [v13] h = some r := by
  refine roundX_on (F := ⟨F, O⟩) (g := g50_r0 M ro v7 b v13) hb hg rfl hr ?_
  clear hb hg hr
  intro m0 t0 ht hr
  obtain ⟨-, g7⟩ := hP
  have g13 : t0.get 13 = v13 := by rw [ht]; simp [putPs, get_set]
  have g7 : t0.get 7 = v7 := by rw [ht]; simp only [putPs, get_set]; simpa using g7
  clear ht
  unfold g50_r0 at hr
  show W _ _ k50a0 _ _
  unfold k50a0
  refine w_ops (wo_step (s_pure (p_mv g13)) (wo_nil ?_))
  obtain ⟨m_3, eb, z1⟩ := bindO_inv hr
  refine qb eb ?_
  unfold k50c0
  refine w_block ?_
  refine w_ops ?_
  obtain ⟨v14, e14, z2⟩ := bindO_inv z1
  refine wo_step (s_ld g7 e14) (wo_step (v := v13) (s_pure (p_mv rfl)) ?_)
  obtain ⟨v16, m_4, e16, z3⟩ := bindP_inv z2
  refine wo_step (s_bsl (qc rfl qn) e16) ?_
  obtain ⟨v17, m_5, e17, z4⟩ := bindP_inv z3
  refine wo_step (s_app rfl rfl e17) ?_
  obtain ⟨vn, m_6, en, z5⟩ := bindP_inv z4
  refine wo_stepN (s_st g7 rfl en) ?_
  refine wo_nil ?_
  refine bk_norm ?_
  exact z5

theorem g50_ok {ro : List ABlk} {O : Caller} {M : Means} (hM : M.Ok ⟨F, O⟩ ro) {v0 s1 v2 h r} (ho : O 50 [v0, (.s s1), v2] h = none) (hr : g50 M ro v0 s1 v2 ⟨h, h.length, h.length⟩ = some r) : callX ⟨F, O⟩ ro 50 [v0, (.s s1), v2] h = some r := by
  refine callX_of (F := ⟨F, O⟩) (fn := fn50) (g := g50 M ro v0 s1 v2) ho rfl rfl hr ?_
  clear ho
  clear hr
  intro m0 t0 ht hr
  have g0 : t0.get 0 = v0 := ht 0
  have g1 : t0.get 1 = (.s s1) := ht 1
  have g2 : t0.get 2 = v2 := ht 2
  clear ht
  unfold g50 at hr
  refine w_seq (w_ops (wo_step (v := (AVal.s [])) (s_pure (p_mv rfl)) (wo_nil (nx_norm (w_seq (w_ops ?_))))))
  obtain ⟨v7, m_1, e7, z1⟩ := bindP_inv hr
  refine wo_step (s_al e7) (wo_nil (nx_norm (w_seq (w_seq (w_ops (wo_step (s_pure (p_mv g0)) (wo_step (s_pure (p_mv g1)) (wo_step (s_pure (p_mv g2)) ?_))))))))
  obtain ⟨v12, m_2, e12, z2⟩ := bindP_inv z1
  refine wo_step (s_call (mc rfl (mc rfl (mc rfl (mc rfl mn)))) (callM_le hM.call e12)) (wo_nil (nx_norm ?_))
  refine w_block ?_
  refine w_rngK hM.call rfl z2 ⟨trivial, gl rfl⟩ ?_
  clear z2
  intro ex m_7 hr
  rcases onE_inv hr with ⟨rfl, z3⟩ | ⟨rfl, z3⟩ | ⟨ix, rfl, z3⟩
  · refine bk_norm ?_
    refine nx_norm (w_seq (w_ops ?_))
    obtain ⟨v18, e18, z4⟩ := bindO_inv z3
    refine wo_step (s_ld rfl e18) ?_
    obtain ⟨v19, e19, z5⟩ := bindO_inv z4
    obtain ⟨s19, rfl, z6⟩ := asS_inv z5
    refine wo_step (s_bts rfl e19) (wo_step (v := (.s s19)) (s_pure (p_mv rfl)) (wo_nil (nx_norm ?_)))
    refine w_ret ?_
    exact qf ret_ok (rt rfl rn) z6
  · cases z3
  · cases z3
/- dibber/vine.part -/

def g54 (M : Means) (ro : List ABlk) (x0 : Int) (m0 : Mm) : Option (AVal × Heap × Nat × Nat) :=
  forceI (wr .i64 x0) fun x4 =>
  forceI (wr .i64 (x4 - 97)) fun x5 =>
  finM m0.h.length (tupA [(.i .i64 x5)]) m0
theorem g54_ok {ro : List ABlk} {O : Caller} {M : Means} (hM : M.Ok ⟨F, O⟩ ro) {x0 h r} (ho : O 54 [(.i .u8 x0)] h = none) (hr : g54 M ro x0 ⟨h, h.length, h.length⟩ = some r) : callX ⟨F, O⟩ ro 54 [(.i .u8 x0)] h = some r := by
  refine callX_of (F := ⟨F, O⟩) (fn := fn54) (g := g54 M ro x0) ho rfl rfl hr ?_
  clear ho
  clear hr
  intro m0 t0 ht hr
  have g0 : t0.get 0 = (.i .u8 x0) := ht 0
  clear ht
  unfold g54 at hr
  refine w_seq (w_ops (wo_step (v := (.i .i64 0)) (s_pure (p_mv rfl)) (wo_nil (nx_norm (w_seq (w_ops (wo_step (s_pure (p_mv g0)) ?_)))))))
  obtain ⟨x4, e4, z1⟩ := forceI_inv hr
  refine wo_step (s_pure ((p_conv rfl).trans (ci e4))) ?_
  obtain ⟨x5, e5, z2⟩ := forceI_inv z1
  refine wo_step (s_pure (p_bin rfl rfl (b_sub.trans (ci e5)))) (wo_step (v := (.i .i64 x5)) (s_pure (p_mv rfl)) (wo_nil (nx_norm ?_)))
  refine w_ret ?_
  exact qf ret_ok (rt rfl rn) z2
/- dibber/vine.matrix[dibber/vine.many] -/
abbrev g55_I0 (v0 : AVal) (v1 : AVal) (v11 : AVal) (x13 : Int) (s : Int × Mm) (m1 : Mm) (t1 : Tr) : Prop :=
  match s with
  | (x14, m_2) => m_2 = m1 ∧ t1.get 14 = (.i .i64 x14) ∧ t1.get 0 = v0 ∧ t1.get 1 = v1 ∧ t1.get 5 = v11 ∧ t1.get 13 = (.i .i64 x13)
abbrev g55_J0 (v0 : AVal) (v1 : AVal) (v11 : AVal) (x13 : Int) (o : Mm) (e : AExit) (m1 : Mm) (t1 : Tr) : Prop :=
  match o with
  | mo => e = (.exit 0) ∧ mo = m1 ∧ t1.get 5 = v11
abbrev g55_I1 (v0 : AVal) (v1 : AVal) (v11 : AVal) (x14 : Int) (x13 : Int) (x18 : Int) (s : Int × Mm) (m1 : Mm) (t1 : Tr) : Prop :=
  match s with
  | (x19, m_3) => m_3 = m1 ∧ t1.get 19 = (.i .i64 x19) ∧ t1.get 0 = v0 ∧ t1.get 1 = v1 ∧ t1.get 5 = v11 ∧ t1.get 6 = (.i .i64 x14) ∧ t1.get 13 = (.i .i64 x13) ∧ t1.get 14 = (.i .i64 x14) ∧ t1.get 17 = v0 ∧ t1.get 18 = (.i .i64 x18)
abbrev g55_J1 (v0 : AVal) (v1 : AVal) (v11 : AVal) (x14 : Int) (x13 : Int) (x18 : Int) (o : Mm) (e : AExit) (m1 : Mm) (t1 : Tr) : Prop :=
  match o with
  | mo => e = (.exit 2) ∧ mo = m1 ∧ t1.get 0 = v0 ∧ t1.get 1 = v1 ∧ t1.get 5 = v11 ∧ t1.get 13 = (.i .i64 x13) ∧ t1.get 14 = (.i .i64 x14)
def g55_b1 (M : Means) (ro : List ABlk) (v0 : AVal) (v1 : AVal) (v11 : AVal) (x14 : Int) (x13 : Int) (x18 : Int) (x19 : Int) (m_3 : Mm) : Option ((Int × Mm) ⊕ (Mm)) :=
  forceB (ltI x19 x18) fun c20 =>
  cond c20 (
    bindO (evP .e (.ixS 1 (.c v0) (.c (.i .i64 x19)))) fun v21 =>
    bindO (ldM ro m_3 true 1 v21) fun v22 =>
    asS v22 fun s22 =>
    bindO (some (Mm.base m_3)) fun m_4 =>
    bindO (evP .e (.ixS 1 (.c v11) (.c (.i .i64 x14)))) fun v27 =>
    bindO (ldA ro m_3.h true 1 v27) fun v28 =>
    bindP (callM M.call m_4 89 [(.i .i64 x14)]) fun v32 m_5 =>
    asS v32 fun s32 =>
    chk (!Nat.blt m_5.lw m_3.h.length) <|
    bindP (callM M.call m_5 88 [(.s s22), (.s s32)]) fun v33 m_6 =>
    asI .i64 v33 fun x33 =>
    chk (!Nat.blt m_6.lw m_3.h.length) <|
    bindP (callvM M.call m_6 v1 [(.i .i64 x33)]) fun v34 m_7 =>
    asI .u64 v34 fun x34 =>
    chk (!Nat.blt m_7.lw m_3.h.length) <|
    bindP (stepM ro m_7 (.bsl 61 1 [(AVal.i IntKind.u64 0)] 1 [((0, 1), .c (.i .u64 x34))])) fun v35 m_8 =>
    chk (!Nat.blt m_8.lw m_3.h.length) <|
    bindP (stepM ro m_8 (.app 61 1 8 [(AVal.i IntKind.u64 0)] (.c v28) (.c v35))) fun v36 m_9 =>
    bindO (evP .e (.ixS 1 (.c v11) (.c (.i .i64 x14)))) fun v37 =>
    bindP (stepM ro m_9 (.st 1 (.c v37) (.c v36))) fun vn m_10 =>
    bindO (some (Mm.join m_3 m_10)) fun m_11 =>
    forceI (wr .i64 (x19 + 1)) fun x38 =>
    some (.inl (x38, m_11))) (
    some (.inr m_3))
def g55_b0 (M : Means) (ro : List ABlk) (v0 : AVal) (v1 : AVal) (v11 : AVal) (x13 : Int) (x14 : Int) (m_2 : Mm) : Option ((Int × Mm) ⊕ (Mm)) :=
  forceB (ltI x14 x13) fun c15 =>
  cond c15 (
    bindO (evP .e (.len false (.c v0))) fun v18 =>
    asI .i64 v18 fun x18 =>
    bindO (M.loop (S := Int × Mm) (R := Mm) (fun s => g55_b1 M ro v0 v1 v11 x14 x13 x18 s.1 s.2) (0, m_2)) fun m_12 =>
    forceI (wr .i64 (x14 + 1)) fun x39 =>
    some (.inl (x39, m_12))) (
    some (.inr m_2))
def g55 (M : Means) (ro : List ABlk) (v0 : AVal) (v1 : AVal) (m0 : Mm) : Option (AVal × Heap × Nat × Nat) :=
  bindO (evP .e (.len false (.c v0))) fun v10 =>
  asI .i64 v10 fun x10 =>
  bindP (stepM ro m0 (.mk 63 1 24 [AVal.nsl] (.c (.i .i64 x10)) (.c (.i .i64 x10)))) fun v11 m_1 =>
  bindO (evP .e (.len false (.c v0))) fun v13 =>
  asI .i64 v13 fun x13 =>
  bindO (M.loop (S := Int × Mm) (R := Mm) (fun s => g55_b0 M ro v0 v1 v11 x13 s.1 s.2) (0, m_1)) fun m_13 =>
  finM m0.h.length (tupA [v11]) m_13
theorem g55_ok {ro : List ABlk} {O : Caller} {M : Means} (hM : M.Ok ⟨F, O⟩ ro) {v0 v1 h r} (ho : O 55 [v0, v1] h = none) (hr : g55 M ro v0 v1 ⟨h, h.length, h.length⟩ = some r) : callX ⟨F, O⟩ ro 55 [v0, v1] h = some r := by
  refine callX_of (F := ⟨F, O⟩) (fn := fn55) (g := g55 M ro v0 v1) ho rfl rfl hr ?_
  clear ho
  clear hr
  intro m0 t0 ht hr
  have g0 : t0.get 0 = v0 := ht 0
  have g1 : t0.get 1 = v1 := ht 1
  clear ht
  unfold g55 at hr
  refine w_seq (w_ops (wo_step (v := AVal.nsl) (s_pure (p_mv rfl)) (wo_nil (nx_norm (w_seq (w_ops (wo_step (s_pure (p_mv g0)) ?_)))))))
  obtain ⟨v10, e10, z1⟩ := bindO_inv hr
  obtain ⟨x10, rfl, z2⟩ := asI_inv z1
  refine wo_step (s_pure (o_len rfl e10)) ?_
  obtain ⟨v11, m_1, e11, z3⟩ := bindP_inv z2
  refine wo_step (s_mk rfl rfl e11) (wo_step (v := v11) (s_pure (p_mv rfl)) (wo_nil (nx_norm (w_seq (w_seq (w_ops (wo_step (s_pure (p_mv g0)) ?_)))))))
  obtain ⟨v13, e13, z4⟩ := bindO_inv z3
  obtain ⟨x13, rfl, z5⟩ := asI_inv z4
  refine wo_step (s_pure (o_len rfl e13)) (wo_step (v := (.i .i64 0)) (s_pure (p_mv rfl)) (wo_nil (nx_norm ?_)))
  refine w_block ?_
  obtain ⟨o_1, hl_1, z6⟩ := bindO_inv z5
  obtain ⟨n_1, hl_1⟩ := hM.loop _ _ _ hl_1
  refine jp_mono (w_loop _ (g55_I0 v0 v1 v11 x13) (g55_J0 v0 v1 v11 x13) ?_ n_1 _ _ _ _ hl_1 ⟨rfl, gl rfl, gl g0, gl g1, gl rfl, gl rfl⟩) ?_
  · clear z6 hl_1
    intro s mm_3 t_1 o hi hr
    obtain ⟨x14, m_2⟩ := s
    obtain ⟨rfl, g14, g0, g1, g5, g13⟩ := hi
    unfold g55_b0 at hr
    refine w_seq (w_ops ?_)
    obtain ⟨c15, e15, z7⟩ := forceB_inv hr
    refine wo_step (s_pure (p_bin g14 g13 (b_lss.trans (cb e15)))) (wo_nil (nx_norm (w_seq ?_)))
    rcases cond_inv z7 with ⟨rfl, z8⟩ | ⟨rfl, z8⟩
    · refine w_condT rfl ?_
      refine w_skip (nx_norm (w_seq ?_))
      refine w_block ?_
      refine w_seq (w_ops (wo_step (s_pure (p_mv g14)) (wo_step (v := (.i .i64 x14)) (s_pure (p_mv rfl)) (wo_nil (nx_norm (w_seq (w_ops (wo_step (s_pure (p_mv g0)) ?_))))))))
      obtain ⟨v18, e18, z9⟩ := bindO_inv z8
      obtain ⟨x18, rfl, z10⟩ := asI_inv z9
      refine wo_step (s_pure (o_len rfl e18)) (wo_step (v := (.i .i64 0)) (s_pure (p_mv rfl)) (wo_nil (nx_norm ?_)))
      refine w_block ?_
      obtain ⟨o, hl, z11⟩ := bindO_inv z10
      obtain ⟨n, hl⟩ := hM.loop _ _ _ hl
      refine jp_mono (w_loop _ (g55_I1 v0 v1 v11 x14 x13 x18) (g55_J1 v0 v1 v11 x14 x13 x18) ?_ n _ _ _ _ hl ⟨rfl, gl rfl, gl g0, gl g1, gl g5, gl rfl, gl g13, gl g14, gl rfl, gl rfl⟩) ?_
      · clear z11 hl
        intro s mm_1 t_2 o hi hr
        obtain ⟨x19, m_3⟩ := s
        obtain ⟨rfl, g19, g0, g1, g5, g6, g13, g14, g17, g18⟩ := hi
        unfold g55_b1 at hr
        refine w_seq (w_ops ?_)
        obtain ⟨c20, e20, z12⟩ := forceB_inv hr
        refine wo_step (s_pure (p_bin g19 g18 (b_lss.trans (cb e20)))) (wo_nil (nx_norm (w_seq ?_)))
        rcases cond_inv z12 with ⟨rfl, z13⟩ | ⟨rfl, z13⟩
        · refine w_condT rfl ?_
          refine w_skip (nx_norm (w_seq ?_))
          refine w_block ?_
          refine w_seq (w_ops ?_)
          obtain ⟨v21, e21, z14⟩ := bindO_inv z13
          refine wo_step (s_pure (o_ixS g17 g19 e21)) ?_
          obtain ⟨v22, e22, z15⟩ := bindO_inv z14
          obtain ⟨s22, rfl, z16⟩ := asS_inv z15
          refine wo_step (s_ld rfl e22) (wo_step (v := (.s s22)) (s_pure (p_mv rfl)) (wo_nil (nx_norm ?_)))
          obtain ⟨m_4, ef, z17⟩ := bindO_inv z16
          refine w_flt (af := true) rfl ef ?_
          refine wf_step (v := v11) (f_P rfl (s_pure (p_mv g5))) ?_
          refine wf_step (v := (.i .i64 x14)) (f_P rfl (s_pure (p_mv g6))) ?_
          refine wf_step (v := v11) (f_P rfl (s_pure (p_mv g5))) ?_
          refine wf_step (v := (.i .i64 x14)) (f_P rfl (s_pure (p_mv g6))) ?_
          obtain ⟨v27, e27, z18⟩ := bindO_inv z17
          refine wf_step (v := v27) (f_P rfl (s_pure (o_ixS rfl rfl e27))) ?_
          obtain ⟨v28, e28, z19⟩ := bindO_inv z18
          refine wf_step (v := v28) (f_ld rfl e28) ?_
          refine wf_step (v := v1) (f_P rfl (s_pure (p_mv g1))) ?_
          refine wf_step (v := (.s s22)) (f_P rfl (s_pure (p_mv rfl))) ?_
          refine wf_step (v := (.i .i64 x14)) (f_P rfl (s_pure (p_mv g6))) ?_
          obtain ⟨v32, m_5, e32, z20⟩ := bindP_inv z19
          obtain ⟨s32, rfl, z21⟩ := asS_inv z20
          obtain ⟨hc32, z22⟩ := chk_inv z21
          refine wf_step (v := (.s s32)) (f_M hc32 (s_call (mc rfl mn) (callM_le hM.call e32))) ?_
          obtain ⟨v33, m_6, e33, z23⟩ := bindP_inv z22
          obtain ⟨x33, rfl, z24⟩ := asI_inv z23
          obtain ⟨hc33, z25⟩ := chk_inv z24
          refine wf_step (v := (.i .i64 x33)) (f_M hc33 (s_call (mc rfl (mc rfl mn)) (callM_le hM.call e33))) ?_
          obtain ⟨v34, m_7, e34, z26⟩ := bindP_inv z25
          obtain ⟨x34, rfl, z27⟩ := asI_inv z26
          obtain ⟨hc34, z28⟩ := chk_inv z27
          refine wf_step (v := (.i .u64 x34)) (f_M hc34 (s_callv rfl (mc rfl mn) (callvM_le hM.call e34))) ?_
          obtain ⟨v35, m_8, e35, z29⟩ := bindP_inv z28
          obtain ⟨hc35, z30⟩ := chk_inv z29
          refine wf_step (v := v35) (f_M hc35 (s_bsl (qc rfl qn) e35)) ?_
          obtain ⟨v36, m_9, e36, z31⟩ := bindP_inv z30
          refine wf_step (v := v36) (f_F rfl (s_app rfl rfl e36)) ?_
          obtain ⟨v37, e37, z32⟩ := bindO_inv z31
          refine wf_step (v := v37) (f_P rfl (s_pure (o_ixS rfl rfl e37))) ?_
          obtain ⟨vn, m_10, en, z33⟩ := bindP_inv z32
          refine wf_stepN (f_F rfl (s_st rfl rfl en)) ?_
          obtain ⟨m_11, ef_1, z34⟩ := bindO_inv z33
          refine wf_end ef_1 ?_
          refine bk_norm ?_
          refine nx_norm (w_ops ?_)
          obtain ⟨x38, e38, z35⟩ := forceI_inv z34
          refine wo_step (s_pure (p_bin g19 rfl (b_add.trans (ci e38)))) (wo_step (v := (.i .i64 x38)) (s_pure (p_mv rfl)) (wo_nil ?_))
          cases z35
          exact ⟨_, _, rfl, rfl, rfl, gl rfl, gl g0, gl g1, gl g5, gl g6, gl g13, gl g14, gl g17, gl g18⟩
        · refine w_condF rfl ?_
          refine w_exit ?_
          refine nx_exit ?_
          cases z13
          exact ⟨_, _, rfl, ne_norm_exit, rfl, rfl, gl g0, gl g1, gl g5, gl g13, gl g14⟩
      · obtain ⟨m_12, ho⟩ : ∃ z, z = o := ⟨_, rfl⟩
        subst ho
        rintro _ mm t_3 ⟨rfl, rfl, g0, g1, g5, g13, g14⟩
        refine bk_hit ?_
        refine bk_norm ?_
        refine nx_norm (w_ops ?_)
        obtain ⟨x39, e39, z36⟩ := forceI_inv z11
        refine wo_step (s_pure (p_bin g14 rfl (b_add.trans (ci e39)))) (wo_step (v := (.i .i64 x39)) (s_pure (p_mv rfl)) (wo_nil ?_))
        cases z36
        exact ⟨_, _, rfl, rfl, rfl, gl rfl, gl g0, gl g1, gl g5, gl g13⟩
    · refine w_condF rfl ?_
      refine w_exit ?_
      refine nx_exit ?_
      cases z8
      exact ⟨_, _, rfl, ne_norm_exit, rfl, rfl, gl g5⟩
  · obtain ⟨m_13, ho⟩ : ∃ z, z = o_1 := ⟨_, rfl⟩
    subst ho
    rintro _ mm_2 t_4 ⟨rfl, rfl, g5⟩
    refine bk_hit ?_
    refine nx_norm (w_seq (w_ops (wo_step (s_pure (p_mv g5)) (wo_step (v := v11) (s_pure (p_mv rfl)) (wo_nil (nx_norm ?_))))))
    refine w_ret ?_
    exact qf ret_ok (rt rfl rn) z6
/- dibber/vine.asMany -/

def g56 (M : Means) (ro : List ABlk) (x0 : Int) (m0 : Mm) : Option (AVal × Heap × Nat × Nat) :=
  forceI (wr .u64 x0) fun x4 =>
  finM m0.h.length (tupA [(.i .u64 x4)]) m0
theorem g56_ok {ro : List ABlk} {O : Caller} {M : Means} (hM : M.Ok ⟨F, O⟩ ro) {x0 h r} (ho : O 56 [(.i .i64 x0)] h = none) (hr : g56 M ro x0 ⟨h, h.length, h.length⟩ = some r) : callX ⟨F, O⟩ ro 56 [(.i .i64 x0)] h = some r := by
  refine callX_of (F := ⟨F, O⟩) (fn := fn56) (g := g56 M ro x0) ho rfl rfl hr ?_
  clear ho
  clear hr
  intro m0 t0 ht hr
  have g0 : t0.get 0 = (.i .i64 x0) := ht 0
  clear ht
  unfold g56 at hr
  refine w_seq (w_ops (wo_step (v := (.i .u64 0)) (s_pure (p_mv rfl)) (wo_nil (nx_norm (w_seq (w_ops (wo_step (s_pure (p_mv g0)) ?_)))))))
  obtain ⟨x4, e4, z1⟩ := forceI_inv hr
  refine wo_step (s_pure ((p_conv rfl).trans (ci e4))) (wo_step (v := (.i .u64 x4)) (s_pure (p_mv rfl)) (wo_nil (nx_norm ?_)))
  refine w_ret ?_
  exact qf ret_ok (rt rfl rn) z1
/- dibber/vine.product[dibber/vine.many] -/
abbrev g57_I0 (v1 : AVal) (v13 : AVal) (v0 : AVal) (x15 : Int) (s : Int × Mm) (m1 : Mm) (t1 : Tr) : Prop :=
  match s with
  | (x16, m_2) => m_2 = m1 ∧ t1.get 16 = (.i .i64 x16) ∧ t1.get 1 = v1 ∧ t1.get 5 = v13 ∧ t1.get 14 = v0 ∧ t1.get 15 = (.i .i64 x15)
abbrev g57_J0 (v1 : AVal) (v13 : AVal) (v0 : AVal) (x15 : Int) (o : Mm) (e : AExit) (m1 : Mm) (t1 : Tr) : Prop :=
  match o with
  | mo => e = (.exit 0) ∧ mo = m1 ∧ t1.get 5 = v13
abbrev g57_I1 (v1 : AVal) (v13 : AVal) (x16 : Int) (v20 : AVal) (v0 : AVal) (x15 : Int) (x33 : Int) (s : Int × Mm) (m1 : Mm) (t1 : Tr) : Prop :=
  match s with
  | (x34, m_5) => m_5 = m1 ∧ t1.get 34 = (.i .i64 x34) ∧ t1.get 1 = v1 ∧ t1.get 5 = v13 ∧ t1.get 6 = (.i .i64 x16) ∧ t1.get 7 = v20 ∧ t1.get 14 = v0 ∧ t1.get 15 = (.i .i64 x15) ∧ t1.get 16 = (.i .i64 x16) ∧ t1.get 33 = (.i .i64 x33)
abbrev g57_J1 (v1 : AVal) (v13 : AVal) (x16 : Int) (v20 : AVal) (v0 : AVal) (x15 : Int) (x33 : Int) (o : Mm) (e : AExit) (m1 : Mm) (t1 : Tr) : Prop :=
  match o with
  | mo => e = (.exit 2) ∧ mo = m1 ∧ t1.get 1 = v1 ∧ t1.get 5 = v13 ∧ t1.get 14 = v0 ∧ t1.get 15 = (.i .i64 x15) ∧ t1.get 16 = (.i .i64 x16)
abbrev g57_I2 (v1 : AVal) (v13 : AVal) (x16 : Int) (v20 : AVal) (x34 : Int) (v0 : AVal) (x15 : Int) (x33 : Int) (x38 : Int) (s : Int × Mm) (m1 : Mm) (t1 : Tr) : Prop :=
  match s with
  | (x39, m_6) => m_6 = m1 ∧ t1.get 39 = (.i .i64 x39) ∧ t1.get 1 = v1 ∧ t1.get 5 = v13 ∧ t1.get 6 = (.i .i64 x16) ∧ t1.get 7 = v20 ∧ t1.get 8 = (.i .i64 x34) ∧ t1.get 14 = v0 ∧ t1.get 15 = (.i .i64 x15) ∧ t1.get 16 = (.i .i64 x16) ∧ t1.get 33 = (.i .i64 x33) ∧ t1.get 34 = (.i .i64 x34) ∧ t1.get 37 = v20 ∧ t1.get 38 = (.i .i64 x38)
abbrev g57_J2 (v1 : AVal) (v13 : AVal) (x16 : Int) (v20 : AVal) (x34 : Int) (v0 : AVal) (x15 : Int) (x33 : Int) (x38 : Int) (o : Mm) (e : AExit) (m1 : Mm) (t1 : Tr) : Prop :=
  match o with
  | mo => e = (.exit 4) ∧ mo = m1 ∧ t1.get 1 = v1 ∧ t1.get 5 = v13 ∧ t1.get 6 = (.i .i64 x16) ∧ t1.get 7 = v20 ∧ t1.get 14 = v0 ∧ t1.get 15 = (.i .i64 x15) ∧ t1.get 16 = (.i .i64 x16) ∧ t1.get 33 = (.i .i64 x33) ∧ t1.get 34 = (.i .i64 x34)
def g57_b2 (M : Means) (ro : List ABlk) (v1 : AVal) (v13 : AVal) (x16 : Int) (v20 : AVal) (x34 : Int) (v0 : AVal) (x15 : Int) (x33 : Int) (x38 : Int) (x39 : Int) (m_6 : Mm) : Option ((Int × Mm) ⊕ (Mm)) :=
  forceB (ltI x39 x38) fun c40 =>
  cond c40 (
    bindO (evP .e (.ixS 1 (.c v20) (.c (.i .i64 x39)))) fun v42 =>
    bindO (ldM ro m_6 true 1 v42) fun v43 =>
    asI .u64 v43 fun x43 =>
    bindO (some (Mm.base m_6)) fun m_7 =>
    bindO (evP .e (.ixS 1 (.c v13) (.c (.i .i64 x16)))) fun v46 =>
    bindO (ldA ro m_6.h true 1 v46) fun v47 =>
    bindO (evP .e (.ixS 1 (.c v13) (.c (.i .i64 x16)))) fun v51 =>
    bindO (ldA ro m_6.h true 1 v51) fun v52 =>
    bindO (evP .e (.ixS 1 (.c v52) (.c (.i .i64 x34)))) fun v54 =>
    bindO (ldA ro m_6.h true 1 v54) fun v55 =>
    asI .u64 v55 fun x55 =>
    bindO (some (AVal.ifc 61 (.i .u64 x55))) fun v56 =>
    bindO (some (AVal.ifc 61 (.i .u64 x43))) fun v58 =>
    bindO (evP .e (.ixS 1 (.c v1) (.c (.i .i64 x39)))) fun v61 =>
    bindO (ldM ro m_7 true 1 v61) fun v62 =>
    bindO (evP .e (.ixS 1 (.c v62) (.c (.i .i64 x34)))) fun v64 =>
    bindO (ldM ro m_7 true 1 v64) fun v65 =>
    asI .u64 v65 fun x65 =>
    bindP (calliM M.call m_7 [(61, (126, [])), (106, (129, [])), (122, (131, []))] v58 [(.i .u64 x65)]) fun v66 m_8 =>
    asI .u64 v66 fun x66 =>
    chk (!Nat.blt m_8.lw m_6.h.length) <|
    bindP (calliM M.call m_8 [(61, (86, [])), (106, (128, [])), (122, (130, []))] v56 [(.i .u64 x66)]) fun v67 m_9 =>
    asI .u64 v67 fun x67 =>
    chk (!Nat.blt m_9.lw m_6.h.length) <|
    bindO (evP .e (.ixS 1 (.c v47) (.c (.i .i64 x34)))) fun v68 =>
    bindP (stepM ro m_9 (.st 1 (.c v68) (.c (.i .u64 x67)))) fun vn_1 m_10 =>
    bindO (some (Mm.join m_6 m_10)) fun m_11 =>
    forceI (wr .i64 (x39 + 1)) fun x69 =>
    some (.inl (x69, m_11))) (
    some (.inr m_6))
def g57_b1 (M : Means) (ro : List ABlk) (v1 : AVal) (v13 : AVal) (x16 : Int) (v20 : AVal) (v0 : AVal) (x15 : Int) (x33 : Int) (x34 : Int) (m_5 : Mm) : Option ((Int × Mm) ⊕ (Mm)) :=
  forceB (ltI x34 x33) fun c35 =>
  cond c35 (
    bindO (evP .e (.len false (.c v20))) fun v38 =>
    asI .i64 v38 fun x38 =>
    bindO (M.loop (S := Int × Mm) (R := Mm) (fun s => g57_b2 M ro v1 v13 x16 v20 x34 v0 x15 x33 x38 s.1 s.2) (0, m_5)) fun m_12 =>
    forceI (wr .i64 (x34 + 1)) fun x70 =>
    some (.inl (x70, m_12))) (
    some (.inr m_5))
def g57_b0 (M : Means) (ro : List ABlk) (v1 : AVal) (v13 : AVal) (v0 : AVal) (x15 : Int) (x16 : Int) (m_2 : Mm) : Option ((Int × Mm) ⊕ (Mm)) :=
  forceB (ltI x16 x15) fun c17 =>
  cond c17 (
    bindO (evP .e (.ixS 1 (.c v0) (.c (.i .i64 x16)))) fun v19 =>
    bindO (ldM ro m_2 true 1 v19) fun v20 =>
    bindO (evP .e (.ixS 1 (.c v1) (.c (.i .i64 0)))) fun v24 =>
    bindO (ldM ro m_2 true 1 v24) fun v25 =>
    bindO (evP .e (.len false (.c v25))) fun v26 =>
    asI .i64 v26 fun x26 =>
    bindP (stepM ro m_2 (.mk 61 1 8 [(AVal.i IntKind.u64 0)] (.c (.i .i64 x26)) (.c (.i .i64 x26)))) fun v27 m_3 =>
    bindO (evP .e (.ixS 1 (.c v13) (.c (.i .i64 x16)))) fun v28 =>
    bindP (stepM ro m_3 (.st 1 (.c v28) (.c v27))) fun vn m_4 =>
    bindO (evP .e (.ixS 1 (.c v13) (.c (.i .i64 x16)))) fun v31 =>
    bindO (ldM ro m_4 true 1 v31) fun v32 =>
    bindO (evP .e (.len false (.c v32))) fun v33 =>
    asI .i64 v33 fun x33 =>
    bindO (M.loop (S := Int × Mm) (R := Mm) (fun s => g57_b1 M ro v1 v13 x16 v20 v0 x15 x33 s.1 s.2) (0, m_4)) fun m_13 =>
    forceI (wr .i64 (x16 + 1)) fun x71 =>
    some (.inl (x71, m_13))) (
    some (.inr m_2))
def g57 (M : Means) (ro : List ABlk) (v0 : AVal) (v1 : AVal) (m0 : Mm) : Option (AVal × Heap × Nat × Nat) :=
  bindO (evP .e (.len false (.c v0))) fun v12 =>
  asI .i64 v12 fun x12 =>
  bindP (stepM ro m0 (.mk 63 1 24 [AVal.nsl] (.c (.i .i64 x12)) (.c (.i .i64 x12)))) fun v13 m_1 =>
  bindO (evP .e (.len false (.c v0))) fun v15 =>
  asI .i64 v15 fun x15 =>
  bindO (M.loop (S := Int × Mm) (R := Mm) (fun s => g57_b0 M ro v1 v13 v0 x15 s.1 s.2) (0, m_1)) fun m_14 =>
  finM m0.h.length (tupA [v13]) m_14
theorem g57_ok {ro : List ABlk} {O : Caller} {M : Means} (hM : M.Ok ⟨F, O⟩ ro) {v0 v1 h r} (ho : O 57 [v0, v1] h = none) (hr : g57 M ro v0 v1 ⟨h, h.length, h.length⟩ = some r) : callX ⟨F, O⟩ ro 57 [v0, v1] h = some r := by
  refine callX_of (F := ⟨F, O⟩) (fn := fn57) (g := g57 M ro v0 v1) ho rfl rfl hr ?_
  clear ho
  clear hr
  intro m0 t0 ht hr
  have g0 : t0.get 0 = v0 := ht 0
  have g1 : t0.get 1 = v1 := ht 1
  clear ht
  unfold g57 at hr
  refine w_seq (w_ops (wo_step (v := AVal.nsl) (s_pure (p_mv rfl)) (wo_nil (nx_norm (w_seq (w_ops (wo_step (s_pure (p_mv g0)) ?_)))))))
  obtain ⟨v12, e12, z1⟩ := bindO_inv hr
  obtain ⟨x12, rfl, z2⟩ := asI_inv z1
  refine wo_step (s_pure (o_len rfl e12)) ?_
  obtain ⟨v13, m_1, e13, z3⟩ := bindP_inv z2
  refine wo_step (s_mk rfl rfl e13) (wo_step (v := v13) (s_pure (p_mv rfl)) (wo_nil (nx_norm (w_seq (w_seq (w_ops (wo_step (s_pure (p_mv g0)) ?_)))))))
  obtain ⟨v15, e15, z4⟩ := bindO_inv z3
  obtain ⟨x15, rfl, z5⟩ := asI_inv z4
  refine wo_step (s_pure (o_len rfl e15)) (wo_step (v := (.i .i64 0)) (s_pure (p_mv rfl)) (wo_nil (nx_norm ?_)))
  refine w_block ?_
  obtain ⟨o_2, hl_2, z6⟩ := bindO_inv z5
  obtain ⟨n_2, hl_2⟩ := hM.loop _ _ _ hl_2
  refine jp_mono (w_loop _ (g57_I0 v1 v13 v0 x15) (g57_J0 v1 v13 v0 x15) ?_ n_2 _ _ _ _ hl_2 ⟨rfl, gl rfl, gl g1, gl rfl, gl rfl, gl rfl⟩) ?_
  · clear z6 hl_2
    intro s mm_5 t_1 o hi hr
    obtain ⟨x16, m_2⟩ := s
    obtain ⟨rfl, g16, g1, g5, g14, g15⟩ := hi
    unfold g57_b0 at hr
    refine w_seq (w_ops ?_)
    obtain ⟨c17, e17, z7⟩ := forceB_inv hr
    refine wo_step (s_pure (p_bin g16 g15 (b_lss.trans (cb e17)))) (wo_nil (nx_norm (w_seq ?_)))
    rcases cond_inv z7 with ⟨rfl, z8⟩ | ⟨rfl, z8⟩
    · refine w_condT rfl ?_
      refine w_skip (nx_norm (w_seq ?_))
      refine w_block ?_
      refine w_seq (w_ops (wo_step (s_pure (p_mv g16)) ?_))
      obtain ⟨v19, e19, z9⟩ := bindO_inv z8
      refine wo_step (s_pure (o_ixS g14 g16 e19)) ?_
      obtain ⟨v20, e20, z10⟩ := bindO_inv z9
      refine wo_step (s_ld rfl e20) (wo_step (v := (.i .i64 x16)) (s_pure (p_mv rfl)) (wo_step (v := v20) (s_pure (p_mv rfl)) (wo_nil (nx_norm (w_seq (w_ops (wo_step (s_pure (p_mv g5)) (wo_step (v := (.i .i64 x16)) (s_pure (p_mv rfl)) (wo_step (s_pure (p_mv g1)) ?_)))))))))
      obtain ⟨v24, e24, z11⟩ := bindO_inv z10
      refine wo_step (s_pure (o_ixS rfl rfl e24)) ?_
      obtain ⟨v25, e25, z12⟩ := bindO_inv z11
      refine wo_step (s_ld rfl e25) ?_
      obtain ⟨v26, e26, z13⟩ := bindO_inv z12
      obtain ⟨x26, rfl, z14⟩ := asI_inv z13
      refine wo_step (s_pure (o_len rfl e26)) ?_
      obtain ⟨v27, m_3, e27, z15⟩ := bindP_inv z14
      refine wo_step (s_mk rfl rfl e27) ?_
      obtain ⟨v28, e28, z16⟩ := bindO_inv z15
      refine wo_step (s_pure (o_ixS rfl rfl e28)) ?_
      obtain ⟨vn, m_4, en, z17⟩ := bindP_inv z16
      refine wo_stepN (s_st rfl rfl en) ?_
      refine wo_nil (nx_norm (w_seq (w_ops (wo_step (s_pure (p_mv g5)) (wo_step (v := (.i .i64 x16)) (s_pure (p_mv rfl)) ?_)))))
      obtain ⟨v31, e31, z18⟩ := bindO_inv z17
      refine wo_step (s_pure (o_ixS rfl rfl e31)) ?_
      obtain ⟨v32, e32, z19⟩ := bindO_inv z18
      refine wo_step (s_ld rfl e32) ?_
      obtain ⟨v33, e33, z20⟩ := bindO_inv z19
      obtain ⟨x33, rfl, z21⟩ := asI_inv z20
      refine wo_step (s_pure (o_len rfl e33)) (wo_step (v := (.i .i64 0)) (s_pure (p_mv rfl)) (wo_nil (nx_norm ?_)))
      refine w_block ?_
      obtain ⟨o_1, hl_1, z22⟩ := bindO_inv z21
      obtain ⟨n_1, hl_1⟩ := hM.loop _ _ _ hl_1
      refine jp_mono (w_loop _ (g57_I1 v1 v13 x16 v20 v0 x15 x33) (g57_J1 v1 v13 x16 v20 v0 x15 x33) ?_ n_1 _ _ _ _ hl_1 ⟨rfl, gl rfl, gl g1, gl g5, gl rfl, gl rfl, gl g14, gl g15, gl g16, gl rfl⟩) ?_
      · clear z22 hl_1
        intro s mm_3 t_2 o hi hr
        obtain ⟨x34, m_5⟩ := s
        obtain ⟨rfl, g34, g1, g5, g6, g7, g14, g15, g16, g33⟩ := hi
        unfold g57_b1 at hr
        refine w_seq (w_ops ?_)
        obtain ⟨c35, e35, z23⟩ := forceB_inv hr
        refine wo_step (s_pure (p_bin g34 g33 (b_lss.trans (cb e35)))) (wo_nil (nx_norm (w_seq ?_)))
        rcases cond_inv z23 with ⟨rfl, z24⟩ | ⟨rfl, z24⟩
        · refine w_condT rfl ?_
          refine w_skip (nx_norm (w_seq ?_))
          refine w_block ?_
          refine w_seq (w_ops (wo_step (s_pure (p_mv g34)) (wo_step (v := (.i .i64 x34)) (s_pure (p_mv rfl)) (wo_nil (nx_norm (w_seq (w_ops (wo_step (s_pure (p_mv g7)) ?_))))))))
          obtain ⟨v38, e38, z25⟩ := bindO_inv z24
          obtain ⟨x38, rfl, z26⟩ := asI_inv z25
          refine wo_step (s_pure (o_len rfl e38)) (wo_step (v := (.i .i64 0)) (s_pure (p_mv rfl)) (wo_nil (nx_norm ?_)))
          refine w_block ?_
          obtain ⟨o, hl, z27⟩ := bindO_inv z26
          obtain ⟨n, hl⟩ := hM.loop _ _ _ hl
          refine jp_mono (w_loop _ (g57_I2 v1 v13 x16 v20 x34 v0 x15 x33 x38) (g57_J2 v1 v13 x16 v20 x34 v0 x15 x33 x38) ?_ n _ _ _ _ hl ⟨rfl, gl rfl, gl g1, gl g5, gl g6, gl g7, gl rfl, gl g14, gl g15, gl g16, gl g33, gl g34, gl rfl, gl rfl⟩) ?_
          · clear z27 hl
            intro s mm_1 t_3 o hi hr
            obtain ⟨x39, m_6⟩ := s
            obtain ⟨rfl, g39, g1, g5, g6, g7, g8, g14, g15, g16, g33, g34, g37, g38⟩ := hi
            unfold g57_b2 at hr
            refine w_seq (w_ops ?_)
            obtain ⟨c40, e40, z28⟩ := forceB_inv hr
            refine wo_step (s_pure (p_bin g39 g38 (b_lss.trans (cb e40)))) (wo_nil (nx_norm (w_seq ?_)))
            rcases cond_inv z28 with ⟨rfl, z29⟩ | ⟨rfl, z29⟩
            · refine w_condT rfl ?_
              refine w_skip (nx_norm (w_seq ?_))
              refine w_block ?_
              refine w_seq (w_ops (wo_step (s_pure (p_mv g39)) ?_))
              obtain ⟨v42, e42, z30⟩ := bindO_inv z29
              refine wo_step (s_pure (o_ixS g37 g39 e42)) ?_
              obtain ⟨v43, e43, z31⟩ := bindO_inv z30
              obtain ⟨x43, rfl, z32⟩ := asI_inv z31
              refine wo_step (s_ld rfl e43) (wo_step (v := (.i .i64 x39)) (s_pure (p_mv rfl)) (wo_step (v := (.i .u64 x43)) (s_pure (p_mv rfl)) (wo_nil (nx_norm ?_))))
              obtain ⟨m_7, ef, z33⟩ := bindO_inv z32
              refine w_flt (af := true) rfl ef ?_
              refine wf_step (v := v13) (f_P rfl (s_pure (p_mv g5))) ?_
              refine wf_step (v := (.i .i64 x16)) (f_P rfl (s_pure (p_mv g6))) ?_
              obtain ⟨v46, e46, z34⟩ := bindO_inv z33
              refine wf_step (v := v46) (f_P rfl (s_pure (o_ixS rfl rfl e46))) ?_
              obtain ⟨v47, e47, z35⟩ := bindO_inv z34
              refine wf_step (v := v47) (f_ld rfl e47) ?_
              refine wf_step (v := (.i .i64 x34)) (f_P rfl (s_pure (p_mv g8))) ?_
              refine wf_step (v := v13) (f_P rfl (s_pure (p_mv g5))) ?_
              refine wf_step (v := (.i .i64 x16)) (f_P rfl (s_pure (p_mv g6))) ?_
              obtain ⟨v51, e51, z36⟩ := bindO_inv z35
              refine wf_step (v := v51) (f_P rfl (s_pure (o_ixS rfl rfl e51))) ?_
              obtain ⟨v52, e52, z37⟩ := bindO_inv z36
              refine wf_step (v := v52) (f_ld rfl e52) ?_
              refine wf_step (v := (.i .i64 x34)) (f_P rfl (s_pure (p_mv g8))) ?_
              obtain ⟨v54, e54, z38⟩ := bindO_inv z37
              refine wf_step (v := v54) (f_P rfl (s_pure (o_ixS rfl rfl e54))) ?_
              obtain ⟨v55, e55, z39⟩ := bindO_inv z38
              obtain ⟨x55, rfl, z40⟩ := asI_inv z39
              refine wf_step (v := (.i .u64 x55)) (f_ld rfl e55) ?_
              obtain ⟨v56, e56, z41⟩ := bindO_inv z40
              refine wf_step (v := v56) (f_P rfl (s_pure (o_mki rfl e56))) ?_
              refine wf_step (v := (.i .u64 x43)) (f_P rfl (s_pure (p_mv rfl))) ?_
              obtain ⟨v58, e58, z42⟩ := bindO_inv z41
              refine wf_step (v := v58) (f_P rfl (s_pure (o_mki rfl e58))) ?_
              refine wf_step (v := v1) (f_P rfl (s_pure (p_mv g1))) ?_
              refine wf_step (v := (.i .i64 x39)) (f_P rfl (s_pure (p_mv rfl))) ?_
              obtain ⟨v61, e61, z43⟩ := bindO_inv z42
              refine wf_step (v := v61) (f_P rfl (s_pure (o_ixS rfl rfl e61))) ?_
              obtain ⟨v62, e62, z44⟩ := bindO_inv z43
              refine wf_step (v := v62) (f_P rfl (s_ld rfl e62)) ?_
              refine wf_step (v := (.i .i64 x34)) (f_P rfl (s_pure (p_mv g8))) ?_
              obtain ⟨v64, e64, z45⟩ := bindO_inv z44
              refine wf_step (v := v64) (f_P rfl (s_pure (o_ixS rfl rfl e64))) ?_
              obtain ⟨v65, e65, z46⟩ := bindO_inv z45
              obtain ⟨x65, rfl, z47⟩ := asI_inv z46
              refine wf_step (v := (.i .u64 x65)) (f_P rfl (s_ld rfl e65)) ?_
              obtain ⟨v66, m_8, e66, z48⟩ := bindP_inv z47
              obtain ⟨x66, rfl, z49⟩ := asI_inv z48
              obtain ⟨hc66, z50⟩ := chk_inv z49
              refine wf_step (v := (.i .u64 x66)) (f_M hc66 (s_calli rfl (mc rfl mn) (calliM_le hM.call e66))) ?_
              obtain ⟨v67, m_9, e67, z51⟩ := bindP_inv z50
              obtain ⟨x67, rfl, z52⟩ := asI_inv z51
              obtain ⟨hc67, z53⟩ := chk_inv z52
              refine wf_step (v := (.i .u64 x67)) (f_M hc67 (s_calli rfl (mc rfl mn) (calliM_le hM.call e67))) ?_
              obtain ⟨v68, e68, z54⟩ := bindO_inv z53
              refine wf_step (v := v68) (f_P rfl (s_pure (o_ixS rfl rfl e68))) ?_
              obtain ⟨vn_1, m_10, en_1, z55⟩ := bindP_inv z54
              refine wf_stepN (f_F rfl (s_st rfl rfl en_1)) ?_
              obtain ⟨m_11, ef_1, z56⟩ := bindO_inv z55
              refine wf_end ef_1 ?_
              refine bk_norm ?_
              refine nx_norm (w_ops ?_)
              obtain ⟨x69, e69, z57⟩ := forceI_inv z56
              refine wo_step (s_pure (p_bin g39 rfl (b_add.trans (ci e69)))) (wo_step (v := (.i .i64 x69)) (s_pure (p_mv rfl)) (wo_nil ?_))
              cases z57
              exact ⟨_, _, rfl, rfl, rfl, gl rfl, gl g1, gl g5, gl g6, gl g7, gl g8, gl g14, gl g15, gl g16, gl g33, gl g34, gl g37, gl g38⟩
            · refine w_condF rfl ?_
              refine w_exit ?_
              refine nx_exit ?_
              cases z29
              exact ⟨_, _, rfl, ne_norm_exit, rfl, rfl, gl g1, gl g5, gl g6, gl g7, gl g14, gl g15, gl g16, gl g33, gl g34⟩
          · obtain ⟨m_12, ho⟩ : ∃ z, z = o := ⟨_, rfl⟩
            subst ho
            rintro _ mm t_4 ⟨rfl, rfl, g1, g5, g6, g7, g14, g15, g16, g33, g34⟩
            refine bk_hit ?_
            refine bk_norm ?_
            refine nx_norm (w_ops ?_)
            obtain ⟨x70, e70, z58⟩ := forceI_inv z27
            refine wo_step (s_pure (p_bin g34 rfl (b_add.trans (ci e70)))) (wo_step (v := (.i .i64 x70)) (s_pure (p_mv rfl)) (wo_nil ?_))
            cases z58
            exact ⟨_, _, rfl, rfl, rfl, gl rfl, gl g1, gl g5, gl g6, gl g7, gl g14, gl g15, gl g16, gl g33⟩
        · refine w_condF rfl ?_
          refine w_exit ?_
          refine nx_exit ?_
          cases z24
          exact ⟨_, _, rfl, ne_norm_exit, rfl, rfl, gl g1, gl g5, gl g14, gl g15, gl g16⟩
      · obtain ⟨m_13, ho⟩ : ∃ z, z = o_1 := ⟨_, rfl⟩
        subst ho
        rintro _ mm_2 t_5 ⟨rfl, rfl, g1, g5, g14, g15, g16⟩
        refine bk_hit ?_
        refine bk_norm ?_
        refine nx_norm (w_ops ?_)
        obtain ⟨x71, e71, z59⟩ := forceI_inv z22
        refine wo_step (s_pure (p_bin g16 rfl (b_add.trans (ci e71)))) (wo_step (v := (.i .i64 x71)) (s_pure (p_mv rfl)) (wo_nil ?_))
        cases z59
        exact ⟨_, _, rfl, rfl, rfl, gl rfl, gl g1, gl g5, gl g14, gl g15⟩
    · refine w_condF rfl ?_
      refine w_exit ?_
      refine nx_exit ?_
      cases z8
      exact ⟨_, _, rfl, ne_norm_exit, rfl, rfl, gl g5⟩
  · obtain ⟨m_14, ho⟩ : ∃ z, z = o_2 := ⟨_, rfl⟩
    subst ho
    rintro _ mm_4 t_6 ⟨rfl, rfl, g5⟩
    refine bk_hit ?_
    refine nx_norm (w_seq (w_ops (wo_step (s_pure (p_mv g5)) (wo_step (v := v13) (s_pure (p_mv rfl)) (wo_nil (nx_norm ?_))))))
    refine w_ret ?_
    exact qf ret_ok (rt rfl rn) z6
/- (dibber/vine.rules).from -/

def g59 (M : Means) (ro : List ABlk) (v0 : AVal) (x1 : Int) (s2 : List UInt8) (v3 : AVal) (m0 : Mm) : Option (AVal × Heap × Nat × Nat) :=
  bindP (stepM ro m0 (.bx 55 1 (.c v0))) fun v4 m_1 =>
  bindP (stepM ro m_1 (.bx 61 1 (.c (.i .u64 x1)))) fun v5 m_2 =>
  bindP (stepM ro m_2 (.bx 9 1 (.c (.s s2)))) fun v6 m_3 =>
  bindP (stepM ro m_3 (.bx 58 1 (.c v3))) fun v7 m_4 =>
  bindO (some (AVal.fn 90 [] [v5, v7, v4, v6])) fun v9 =>
  finM m0.h.length (tupA [v9]) m_4
theorem g59_ok {ro : List ABlk} {O : Caller} {M : Means} (hM : M.Ok ⟨F, O⟩ ro) {v0 x1 s2 v3 h r} (ho : O 59 [v0, (.i .u64 x1), (.s s2), v3] h = none) (hr : g59 M ro v0 x1 s2 v3 ⟨h, h.length, h.length⟩ = some r) : callX ⟨F, O⟩ ro 59 [v0, (.i .u64 x1), (.s s2), v3] h = some r := by
  refine callX_of (F := ⟨F, O⟩) (fn := fn59) (g := g59 M ro v0 x1 s2 v3) ho rfl rfl hr ?_
  clear ho
  clear hr
  intro m0 t0 ht hr
  have g0 : t0.get 0 = v0 := ht 0
  have g1 : t0.get 1 = (.i .u64 x1) := ht 1
  have g2 : t0.get 2 = (.s s2) := ht 2
  have g3 : t0.get 3 = v3 := ht 3
  clear ht
  unfold g59 at hr
  refine w_seq (w_ops ?_)
  obtain ⟨v4, m_1, e4, z1⟩ := bindP_inv hr
  refine wo_step (s_bx g0 e4) ?_
  obtain ⟨v5, m_2, e5, z2⟩ := bindP_inv z1
  refine wo_step (s_bx g1 e5) ?_
  obtain ⟨v6, m_3, e6, z3⟩ := bindP_inv z2
  refine wo_step (s_bx g2 e6) ?_
  obtain ⟨v7, m_4, e7, z4⟩ := bindP_inv z3
  refine wo_step (s_bx g3 e7) (wo_step (v := AVal.nfn) (s_pure (p_mv rfl)) (wo_nil (nx_norm (w_seq (w_ops ?_)))))
  obtain ⟨v9, e9, z5⟩ := bindO_inv z4
  refine wo_step (s_pure (Eq.trans (o_mkfn mn (mc rfl (mc rfl (mc rfl (mc rfl mn))))) e9)) (wo_step (v := v9) (s_pure (p_mv rfl)) (wo_nil (nx_norm ?_)))
  refine w_ret ?_
  exact qf ret_ok (rt rfl rn) z5
/- dibber/vine.read -/
abbrev g60_J0 (v11 : AVal) (o : Bool × Mm) (m1 : Mm) (t1 : Tr) : Prop :=
  match o with
  | (c24, m_2) => m_2 = m1 ∧ t1.get 24 = (.b c24) ∧ t1.get 6 = v11
def g60 (M : Means) (ro : List ABlk) (v0 : AVal) (s1 : List UInt8) (m0 : Mm) : Option (AVal × Heap × Nat × Nat) :=
  bindP (callM M.call m0 71 [v0]) fun v10 m_1 =>
  bindO (evP .e (.ext 0 (.c v10))) fun v11 =>
  bindO (evP .e (.ext 1 (.c v10))) fun v12 =>
  asI .i64 v12 fun x12 =>
  forceB (!eqI x12 0) fun c14 =>
  cond c14 (
    finM m0.h.length (tupA [AVal.nsl, (.i .i64 x12)]) m_1) (
    bindO (evP .e (.len true (.c (.s s1)))) fun v17 =>
    asI .i64 v17 fun x17 =>
    forceB (ltI 30 x17) fun c18 =>
    bindO (cond c18 (
      some (true, m_1)) (
      bindP (callM M.call m_1 92 [v11, (.s s1)]) fun v22 m_3 =>
      asB v22 fun c22 =>
      forceB (!c22) fun c23 =>
      some (c23, m_3))) fun ⟨c24, m_2⟩ =>
    cond c24 (
      finM m0.h.length (tupA [AVal.nsl, (.i .i64 5)]) m_2) (
      finM m0.h.length (tupA [v11, (.i .i64 0)]) m_2))
theorem g60_ok {ro : List ABlk} {O : Caller} {M : Means} (hM : M.Ok ⟨F, O⟩ ro) {v0 s1 h r} (ho : O 60 [v0, (.s s1)] h = none) (hr : g60 M ro v0 s1 ⟨h, h.length, h.length⟩ = some r) : callX ⟨F, O⟩ ro 60 [v0, (.s s1)] h = some r := by
  refine callX_of (F := ⟨F, O⟩) (fn := fn60) (g := g60 M ro v0 s1) ho rfl rfl hr ?_
  clear ho
  clear hr
  intro m0 t0 ht hr
  have g0 : t0.get 0 = v0 := ht 0
  have g1 : t0.get 1 = (.s s1) := ht 1
  clear ht
  unfold g60 at hr
  refine w_seq (w_ops (wo_step (v := AVal.nsl) (s_pure (p_mv rfl)) (wo_step (v := (.i .i64 0)) (s_pure (p_mv rfl)) (wo_nil (nx_norm (w_seq (w_ops (wo_step (s_pure (p_mv g0)) ?_))))))))
  obtain ⟨v10, m_1, e10, z1⟩ := bindP_inv hr
  refine wo_step (s_call (mc rfl mn) (callM_le hM.call e10)) (wo_step (v := v10) (s_pure (p_mv rfl)) ?_)
  obtain ⟨v11, e11, z2⟩ := bindO_inv z1
  refine wo_step (s_pure (o_ext rfl e11)) ?_
  obtain ⟨v12, e12, z3⟩ := bindO_inv z2
  obtain ⟨x12, rfl, z4⟩ := asI_inv z3
  refine wo_step (s_pure (o_ext rfl e12)) (wo_step (v := v11) (s_pure (p_mv rfl)) (wo_step (v := (.i .i64 x12)) (s_pure (p_mv rfl)) (wo_nil (nx_norm (w_seq (w_seq (w_ops (wo_step (v := (.i .i64 x12)) (s_pure (p_mv rfl)) ?_))))))))
  obtain ⟨c14, e14, z5⟩ := forceB_inv z4
  refine wo_step (s_pure (p_bin rfl rfl (b_neq.trans (cb e14)))) (wo_nil (nx_norm ?_))
  rcases cond_inv z5 with ⟨rfl, z6⟩ | ⟨rfl, z6⟩
  · refine w_condT rfl ?_
    refine w_seq (w_ops (wo_step (v := (.i .i64 x12)) (s_pure (p_mv rfl)) (wo_step (v := AVal.nsl) (s_pure (p_mv rfl)) (wo_step (v := (.i .i64 x12)) (s_pure (p_mv rfl)) (wo_nil (nx_norm ?_))))))
    refine w_ret ?_
    refine nx_ret ?_
    exact qf ret_ok (rt rfl (rt rfl rn)) z6
  · refine w_condF rfl ?_
    refine w_skip (nx_norm (w_seq (w_seq (w_ops (wo_step (s_pure (p_mv g1)) ?_)))))
    obtain ⟨v17, e17, z7⟩ := bindO_inv z6
    obtain ⟨x17, rfl, z8⟩ := asI_inv z7
    refine wo_step (s_pure (o_len rfl e17)) ?_
    obtain ⟨c18, e18, z9⟩ := forceB_inv z8
    refine wo_step (s_pure (p_bin rfl rfl (b_gtr.trans (cb e18)))) (wo_step (v := (.b c18)) (s_pure (p_mv rfl)) ?_)
    obtain ⟨o, z10, hk⟩ := bindO_inv z9
    refine wo_join 5 (g60_J0 v11 o) ?_ ?_
    · clear hk
      rcases cond_inv z10 with ⟨rfl, z11⟩ | ⟨rfl, z11⟩
      · refine wo_skip (v := (.b true)) rfl rfl (wo_skip (v := (.b true)) rfl rfl (wo_skip (v := (.b true)) rfl rfl (wo_skip (v := (.b true)) rfl rfl (wo_step (v := (.b true)) (s_pure (p_pickT rfl rfl)) (wo_nil ?_)))))
        cases z11
        exact ⟨_, _, rfl, rfl, gl rfl, gl rfl⟩
      · refine wo_take (v := v11) rfl (s_pure (p_mv rfl)) (wo_take (v := (.s s1)) rfl (s_pure (p_mv g1)) ?_)
        obtain ⟨v22, m_3, e22, z12⟩ := bindP_inv z11
        obtain ⟨c22, rfl, z13⟩ := asB_inv z12
        refine wo_take (v := (.b c22)) rfl (s_call (mc rfl (mc rfl mn)) (callM_le hM.call e22)) ?_
        obtain ⟨c23, e23, z14⟩ := forceB_inv z13
        refine wo_take (v := (.b c23)) rfl (s_pure ((p_not rfl).trans (cb e23))) (wo_step (v := (.b c23)) (s_pure (p_pickF rfl rfl)) (wo_nil ?_))
        cases z14
        exact ⟨_, _, rfl, rfl, gl rfl, gl rfl⟩
    · clear z10
      have hr := hk
      clear hk
      obtain ⟨c24, m_2⟩ := o
      rintro mm t_1 ⟨rfl, g24, g6⟩
      refine wo_nil (nx_norm ?_)
      rcases cond_inv hr with ⟨rfl, z15⟩ | ⟨rfl, z15⟩
      · refine w_condT g24 ?_
        refine w_seq (w_ops (wo_step (v := AVal.nsl) (s_pure (p_mv rfl)) (wo_step (v := (.i .i64 5)) (s_pure (p_mv rfl)) (wo_nil (nx_norm ?_)))))
        refine w_ret ?_
        refine nx_ret ?_
        exact qf ret_ok (rt rfl (rt rfl rn)) z15
      · refine w_condF g24 ?_
        refine w_skip (nx_norm (w_seq (w_ops (wo_step (s_pure (p_mv g6)) (wo_step (v := v11) (s_pure (p_mv rfl)) (wo_step (v := (.i .i64 0)) (s_pure (p_mv rfl)) (wo_nil (nx_norm ?_))))))))
        refine w_ret ?_
        exact qf ret_ok (rt rfl (rt rfl rn)) z15
/- (dibber/vine.rules).dies -/
abbrev g61_I0 (s1 : List UInt8) (v11 : AVal) (x12 : Int) (s : Int × Mm) (m1 : Mm) (t1 : Tr) : Prop :=
  match s with
  | (x13, m_2) => m_2 = m1 ∧ t1.get 13 = (.i .i64 x13) ∧ t1.get 1 = (.s s1) ∧ t1.get 11 = v11 ∧ t1.get 12 = (.i .i64 x12)
abbrev g61_J0 (s1 : List UInt8) (v11 : AVal) (x12 : Int) (o : (Mm ⊕ (Int × Bool × Mm))) (e : AExit) (m1 : Mm) (t1 : Tr) : Prop :=
  match o with
  | (.inl mo) => e = (.exit 0) ∧ mo = m1
  | (.inr (y4, y5, mo)) => e = .ret ∧ mo = m1 ∧ t1.get 4 = (.i .i64 y4) ∧ t1.get 5 = (.b y5)
def g61_b0 (M : Means) (ro : List ABlk) (s1 : List UInt8) (v11 : AVal) (x12 : Int) (x13 : Int) (m_2 : Mm) : Option ((Int × Mm) ⊕ ((Mm ⊕ (Int × Bool × Mm)))) :=
  forceB (ltI x13 x12) fun c14 =>
  cond c14 (
    bindO (evP .e (.ixS 1 (.c v11) (.c (.i .i64 x13)))) fun v16 =>
    bindO (ldM ro m_2 true 1 v16) fun v17 =>
    bindP (callM M.call m_2 49 [v17, (.s s1)]) fun v20 m_3 =>
    asI .u64 v20 fun x20 =>
    forceB (eqI x20 0) fun c21 =>
    cond c21 (
      some (.inr (.inr (x13, true, m_3)))) (
      forceI (wr .i64 (x13 + 1)) fun x23 =>
      some (.inl (x23, m_3)))) (
    some (.inr (.inl m_2)))
def g61 (M : Means) (ro : List ABlk) (v0 : AVal) (s1 : List UInt8) (m0 : Mm) : Option (AVal × Heap × Nat × Nat) :=
  bindO (evP .e (.len false (.c v0))) fun v10 =>
  asI .i64 v10 fun x10 =>
  bindP (callM M.call m0 48 [v0, (.i .i64 x10)]) fun v11 m_1 =>
  bindO (evP .e (.len false (.c v11))) fun v12 =>
  asI .i64 v12 fun x12 =>
  bindO (M.loop (S := Int × Mm) (R := (Mm ⊕ (Int × Bool × Mm))) (fun s => g61_b0 M ro s1 v11 x12 s.1 s.2) (0, m_1)) fun o => match o with
  | (.inl m_4) =>
    finM m0.h.length (tupA [(.i .i64 0), (.b false)]) m_4
  | (.inr (x4, c5, m_5)) =>
    finM m0.h.length (tupA [(.i .i64 x4), (.b c5)]) m_5
theorem g61_ok {ro : List ABlk} {O : Caller} {M : Means} (hM : M.Ok ⟨F, O⟩ ro) {v0 s1 h r} (ho : O 61 [v0, (.s s1)] h = none) (hr : g61 M ro v0 s1 ⟨h, h.length, h.length⟩ = some r) : callX ⟨F, O⟩ ro 61 [v0, (.s s1)] h = some r := by
  refine callX_of (F := ⟨F, O⟩) (fn := fn61) (g := g61 M ro v0 s1) ho rfl rfl hr ?_
  clear ho
  clear hr
  intro m0 t0 ht hr
  have g0 : t0.get 0 = v0 := ht 0
  have g1 : t0.get 1 = (.s s1) := ht 1
  clear ht
  unfold g61 at hr
  refine w_seq (w_ops (wo_step (v := (.i .i64 0)) (s_pure (p_mv rfl)) (wo_step (v := (.b false)) (s_pure (p_mv rfl)) (wo_nil (nx_norm (w_seq (w_seq (w_ops (wo_step (s_pure (p_mv g0)) (wo_step (s_pure (p_mv g0)) ?_))))))))))
  obtain ⟨v10, e10, z1⟩ := bindO_inv hr
  obtain ⟨x10, rfl, z2⟩ := asI_inv z1
  refine wo_step (s_pure (o_len rfl e10)) ?_
  obtain ⟨v11, m_1, e11, z3⟩ := bindP_inv z2
  refine wo_step (s_call (mc rfl (mc rfl mn)) (callM_le hM.call e11)) ?_
  obtain ⟨v12, e12, z4⟩ := bindO_inv z3
  obtain ⟨x12, rfl, z5⟩ := asI_inv z4
  refine wo_step (s_pure (o_len rfl e12)) (wo_step (v := (.i .i64 0)) (s_pure (p_mv rfl)) (wo_nil (nx_norm ?_)))
  refine w_block ?_
  obtain ⟨o, hl, z6⟩ := bindO_inv z5
  obtain ⟨n, hl⟩ := hM.loop _ _ _ hl
  refine jp_mono (w_loop _ (g61_I0 s1 v11 x12) (g61_J0 s1 v11 x12) ?_ n _ _ _ _ hl ⟨rfl, gl rfl, gl g1, gl rfl, gl rfl⟩) ?_
  · clear z6 hl
    intro s mm_2 t_1 o hi hr
    obtain ⟨x13, m_2⟩ := s
    obtain ⟨rfl, g13, g1, g11, g12⟩ := hi
    unfold g61_b0 at hr
    refine w_seq (w_ops ?_)
    obtain ⟨c14, e14, z7⟩ := forceB_inv hr
    refine wo_step (s_pure (p_bin g13 g12 (b_lss.trans (cb e14)))) (wo_nil (nx_norm (w_seq ?_)))
    rcases cond_inv z7 with ⟨rfl, z8⟩ | ⟨rfl, z8⟩
    · refine w_condT rfl ?_
      refine w_skip (nx_norm (w_seq ?_))
      refine w_block ?_
      refine w_seq (w_ops (wo_step (s_pure (p_mv g13)) ?_))
      obtain ⟨v16, e16, z9⟩ := bindO_inv z8
      refine wo_step (s_pure (o_ixS g11 g13 e16)) ?_
      obtain ⟨v17, e17, z10⟩ := bindO_inv z9
      refine wo_step (s_ld rfl e17) (wo_step (v := (.i .i64 x13)) (s_pure (p_mv rfl)) (wo_step (v := v17) (s_pure (p_mv rfl)) (wo_nil (nx_norm (w_seq (w_ops (wo_step (v := v17) (s_pure (p_mv rfl)) (wo_step (s_pure (p_mv g1)) ?_))))))))
      obtain ⟨v20, m_3, e20, z11⟩ := bindP_inv z10
      obtain ⟨x20, rfl, z12⟩ := asI_inv z11
      refine wo_step (s_call (mc rfl (mc rfl mn)) (callM_le hM.call e20)) ?_
      obtain ⟨c21, e21, z13⟩ := forceB_inv z12
      refine wo_step (s_pure (p_bin rfl rfl (b_eql.trans (cb e21)))) (wo_nil (nx_norm ?_))
      rcases cond_inv z13 with ⟨rfl, z14⟩ | ⟨rfl, z14⟩
      · refine w_condT rfl ?_
        refine w_seq (w_ops (wo_step (v := (.i .i64 x13)) (s_pure (p_mv rfl)) (wo_step (v := (.i .i64 x13)) (s_pure (p_mv rfl)) (wo_step (v := (.b true)) (s_pure (p_mv rfl)) (wo_nil (nx_norm ?_))))))
        refine w_ret ?_
        refine bk_ret ?_
        refine nx_ret ?_
        cases z14
        exact ⟨_, _, rfl, ne_norm_ret, rfl, rfl, gl rfl, gl rfl⟩
      · refine w_condF rfl ?_
        refine w_skip ?_
        refine bk_norm ?_
        refine nx_norm (w_ops ?_)
        obtain ⟨x23, e23, z15⟩ := forceI_inv z14
        refine wo_step (s_pure (p_bin g13 rfl (b_add.trans (ci e23)))) (wo_step (v := (.i .i64 x23)) (s_pure (p_mv rfl)) (wo_nil ?_))
        cases z15
        exact ⟨_, _, rfl, rfl, rfl, gl rfl, gl g1, gl g11, gl g12⟩
    · refine w_condF rfl ?_
      refine w_exit ?_
      refine nx_exit ?_
      cases z8
      exact ⟨_, _, rfl, ne_norm_exit, rfl, rfl⟩
  · rcases o with o | o
    · obtain ⟨m_4, ho⟩ : ∃ z, z = o := ⟨_, rfl⟩
      subst ho
      rintro _ mm t_2 ⟨rfl, rfl⟩
      refine bk_hit ?_
      refine nx_norm (w_seq (w_ops (wo_step (v := (.i .i64 0)) (s_pure (p_mv rfl)) (wo_step (v := (.b false)) (s_pure (p_mv rfl)) (wo_nil (nx_norm ?_))))))
      refine w_ret ?_
      exact qf ret_ok (rt rfl (rt rfl rn)) z6
    · obtain ⟨x4, c5, m_5⟩ := o
      rintro _ mm_1 t_3 ⟨rfl, rfl, g4, g5⟩
      refine bk_ret ?_
      refine nx_ret ?_
      exact qf ret_ok (rt g4 (rt g5 rn)) z6
/- dibber/vine.readVine -/
abbrev g71_J0 (v0 : AVal) (m0 : Mm) (o : Bool) (m1 : Mm) (t1 : Tr) : Prop :=
  match o with
  | c14 => m0 = m1 ∧ t1.get 14 = (.b c14) ∧ t1.get 0 = v0
abbrev g71_I1 (v0 : AVal) (x17 : Int) (s : Int × Mm) (m1 : Mm) (t1 : Tr) : Prop :=
  match s with
  | (x18, m_1) => m_1 = m1 ∧ t1.get 18 = (.i .i64 x18) ∧ t1.get 4 = v0 ∧ t1.get 16 = v0 ∧ t1.get 17 = (.i .i64 x17)
abbrev g71_J1 (v0 : AVal) (x17 : Int) (o : (Mm ⊕ (AVal × Int × Mm))) (e : AExit) (m1 : Mm) (t1 : Tr) : Prop :=
  match o with
  | (.inl mo) => e = (.exit 0) ∧ mo = m1 ∧ t1.get 4 = v0
  | (.inr (y2, y3, mo)) => e = .ret ∧ mo = m1 ∧ t1.get 2 = y2 ∧ t1.get 3 = (.i .i64 y3)
abbrev g71_J2 (v0 : AVal) (x17 : Int) (x18 : Int) (o : Bool × Mm) (m1 : Mm) (t1 : Tr) : Prop :=
  match o with
  | (c30, m_2) => m_2 = m1 ∧ t1.get 30 = (.b c30) ∧ t1.get 4 = v0 ∧ t1.get 16 = v0 ∧ t1.get 17 = (.i .i64 x17) ∧ t1.get 18 = (.i .i64 x18)
def g71_b1 (M : Means) (ro : List ABlk) (v0 : AVal) (x17 : Int) (x18 : Int) (m_1 : Mm) : Option ((Int × Mm) ⊕ ((Mm ⊕ (AVal × Int × Mm)))) :=
  forceB (ltI x18 x17) fun c19 =>
  cond c19 (
    bindO (evP .e (.ixS 1 (.c v0) (.c (.i .i64 x18)))) fun v20 =>
    bindO (ldM ro m_1 true 1 v20) fun v21 =>
    asS v21 fun s21 =>
    bindO (evP .e (.len true (.c (.s s21)))) fun v23 =>
    asI .i64 v23 fun x23 =>
    forceB (ltI 8 x23) fun c24 =>
    bindO (cond c24 (
      some (true, m_1)) (
      bindP (callM M.call m_1 92 [v0, (.s s21)]) fun v28 m_3 =>
      asB v28 fun c28 =>
      forceB (!c28) fun c29 =>
      some (c29, m_3))) fun ⟨c30, m_2⟩ =>
    cond c30 (
      some (.inr (.inr (AVal.nsl, 5, m_2)))) (
      forceI (wr .i64 (x18 + 1)) fun x31 =>
      some (.inl (x31, m_2)))) (
    some (.inr (.inl m_1)))
def g71 (M : Means) (ro : List ABlk) (v0 : AVal) (m0 : Mm) : Option (AVal × Heap × Nat × Nat) :=
  bindO (evP .e (.len false (.c v0))) fun v8 =>
  asI .i64 v8 fun x8 =>
  forceB (ltI x8 1) fun c9 =>
  bindO (cond c9 (
    some true) (
    bindO (evP .e (.len false (.c v0))) fun v12 =>
    asI .i64 v12 fun x12 =>
    forceB (ltI 6 x12) fun c13 =>
    some c13)) fun c14 =>
  cond c14 (
    finM m0.h.length (tupA [AVal.nsl, (.i .i64 2)]) m0) (
    bindO (evP .e (.len false (.c v0))) fun v17 =>
    asI .i64 v17 fun x17 =>
    bindO (M.loop (S := Int × Mm) (R := (Mm ⊕ (AVal × Int × Mm))) (fun s => g71_b1 M ro v0 x17 s.1 s.2) (0, m0)) fun o_2 => match o_2 with
    | (.inl m_4) =>
      finM m0.h.length (tupA [v0, (.i .i64 0)]) m_4
    | (.inr (v2, x3, m_5)) =>
      finM m0.h.length (tupA [v2, (.i .i64 x3)]) m_5)
theorem g71_ok {ro : List ABlk} {O : Caller} {M : Means} (hM : M.Ok ⟨F, O⟩ ro) {v0 h r} (ho : O 71 [v0] h = none) (hr : g71 M ro v0 ⟨h, h.length, h.length⟩ = some r) : callX ⟨F, O⟩ ro 71 [v0] h = some r := by
  refine callX_of (F := ⟨F, O⟩) (fn := fn71) (g := g71 M ro v0) ho rfl rfl hr ?_
  clear ho
  clear hr
  intro m0 t0 ht hr
  have g0 : t0.get 0 = v0 := ht 0
  clear ht
  unfold g71 at hr
  refine w_seq (w_ops (wo_step (v := AVal.nsl) (s_pure (p_mv rfl)) (wo_step (v := (.i .i64 0)) (s_pure (p_mv rfl)) (wo_nil (nx_norm (w_seq (w_seq (w_ops (wo_step (s_pure (p_mv g0)) ?_)))))))))
  obtain ⟨v8, e8, z1⟩ := bindO_inv hr
  obtain ⟨x8, rfl, z2⟩ := asI_inv z1
  refine wo_step (s_pure (o_len rfl e8)) ?_
  obtain ⟨c9, e9, z3⟩ := forceB_inv z2
  refine wo_step (s_pure (p_bin rfl rfl (b_lss.trans (cb e9)))) (wo_step (v := (.b c9)) (s_pure (p_mv rfl)) ?_)
  obtain ⟨o, z4, hk⟩ := bindO_inv z3
  refine wo_join 4 (g71_J0 v0 m0 o) ?_ ?_
  · clear hk
    rcases cond_inv z4 with ⟨rfl, z5⟩ | ⟨rfl, z5⟩
    · refine wo_skip (v := (.b true)) rfl rfl (wo_skip (v := (.b true)) rfl rfl (wo_skip (v := (.b true)) rfl rfl (wo_step (v := (.b true)) (s_pure (p_pickT rfl rfl)) (wo_nil ?_))))
      cases z5
      exact ⟨_, _, rfl, rfl, gl rfl, gl g0⟩
    · refine wo_take (v := v0) rfl (s_pure (p_mv g0)) ?_
      obtain ⟨v12, e12, z6⟩ := bindO_inv z5
      obtain ⟨x12, rfl, z7⟩ := asI_inv z6
      refine wo_take (v := (.i .i64 x12)) rfl (s_pure (o_len rfl e12)) ?_
      obtain ⟨c13, e13, z8⟩ := forceB_inv z7
      refine wo_take (v := (.b c13)) rfl (s_pure (p_bin rfl rfl (b_gtr.trans (cb e13)))) (wo_step (v := (.b c13)) (s_pure (p_pickF rfl rfl)) (wo_nil ?_))
      cases z8
      exact ⟨_, _, rfl, rfl, gl rfl, gl g0⟩
  · clear z4
    have hr := hk
    clear hk
    obtain ⟨c14, ho⟩ : ∃ z, z = o := ⟨_, rfl⟩
    subst ho
    rintro mm t_1 ⟨rfl, g14, g0⟩
    refine wo_nil (nx_norm ?_)
    rcases cond_inv hr with ⟨rfl, z9⟩ | ⟨rfl, z9⟩
    · refine w_condT g14 ?_
      refine w_seq (w_ops (wo_step (v := AVal.nsl) (s_pure (p_mv rfl)) (wo_step (v := (.i .i64 2)) (s_pure (p_mv rfl)) (wo_nil (nx_norm ?_)))))
      refine w_ret ?_
      refine nx_ret ?_
      exact qf ret_ok (rt rfl (rt rfl rn)) z9
    · refine w_condF g14 ?_
      refine w_skip (nx_norm (w_seq (w_ops (wo_step (s_pure (p_mv g0)) (wo_step (v := v0) (s_pure (p_mv rfl)) (wo_nil (nx_norm (w_seq (w_seq (w_ops (wo_step (v := v0) (s_pure (p_mv rfl)) ?_)))))))))))
      obtain ⟨v17, e17, z10⟩ := bindO_inv z9
      obtain ⟨x17, rfl, z11⟩ := asI_inv z10
      refine wo_step (s_pure (o_len rfl e17)) (wo_step (v := (.i .i64 0)) (s_pure (p_mv rfl)) (wo_nil (nx_norm ?_)))
      refine w_block ?_
      obtain ⟨o_2, hl, z12⟩ := bindO_inv z11
      obtain ⟨n, hl⟩ := hM.loop _ _ _ hl
      refine jp_mono (w_loop _ (g71_I1 v0 x17) (g71_J1 v0 x17) ?_ n _ _ _ _ hl ⟨rfl, gl rfl, gl rfl, gl rfl, gl rfl⟩) ?_
      · clear z12 hl
        intro s mm_4 t_2 o hi hr
        obtain ⟨x18, m_1⟩ := s
        obtain ⟨rfl, g18, g4, g16, g17⟩ := hi
        unfold g71_b1 at hr
        refine w_seq (w_ops ?_)
        obtain ⟨c19, e19, z13⟩ := forceB_inv hr
        refine wo_step (s_pure (p_bin g18 g17 (b_lss.trans (cb e19)))) (wo_nil (nx_norm (w_seq ?_)))
        rcases cond_inv z13 with ⟨rfl, z14⟩ | ⟨rfl, z14⟩
        · refine w_condT rfl ?_
          refine w_skip (nx_norm (w_seq ?_))
          refine w_block ?_
          refine w_seq (w_ops ?_)
          obtain ⟨v20, e20, z15⟩ := bindO_inv z14
          refine wo_step (s_pure (o_ixS g16 g18 e20)) ?_
          obtain ⟨v21, e21, z16⟩ := bindO_inv z15
          obtain ⟨s21, rfl, z17⟩ := asS_inv z16
          refine wo_step (s_ld rfl e21) (wo_step (v := (.s s21)) (s_pure (p_mv rfl)) (wo_nil (nx_norm (w_seq (w_ops (wo_step (v := (.s s21)) (s_pure (p_mv rfl)) ?_))))))
          obtain ⟨v23, e23, z18⟩ := bindO_inv z17
          obtain ⟨x23, rfl, z19⟩ := asI_inv z18
          refine wo_step (s_pure (o_len rfl e23)) ?_
          obtain ⟨c24, e24, z20⟩ := forceB_inv z19
          refine wo_step (s_pure (p_bin rfl rfl (b_gtr.trans (cb e24)))) (wo_step (v := (.b c24)) (s_pure (p_mv rfl)) ?_)
          obtain ⟨o_1, z21, hk⟩ := bindO_inv z20
          refine wo_join 5 (g71_J2 v0 x17 x18 o_1) ?_ ?_
          · clear hk
            rcases cond_inv z21 with ⟨rfl, z22⟩ | ⟨rfl, z22⟩
            · refine wo_skip (v := (.b true)) rfl rfl (wo_skip (v := (.b true)) rfl rfl (wo_skip (v := (.b true)) rfl rfl (wo_skip (v := (.b true)) rfl rfl (wo_step (v := (.b true)) (s_pure (p_pickT rfl rfl)) (wo_nil ?_)))))
              cases z22
              exact ⟨_, _, rfl, rfl, gl rfl, gl g4, gl g16, gl g17, gl g18⟩
            · refine wo_take (v := v0) rfl (s_pure (p_mv g4)) (wo_take (v := (.s s21)) rfl (s_pure (p_mv rfl)) ?_)
              obtain ⟨v28, m_3, e28, z23⟩ := bindP_inv z22
              obtain ⟨c28, rfl, z24⟩ := asB_inv z23
              refine wo_take (v := (.b c28)) rfl (s_call (mc rfl (mc rfl mn)) (callM_le hM.call e28)) ?_
              obtain ⟨c29, e29, z25⟩ := forceB_inv z24
              refine wo_take (v := (.b c29)) rfl (s_pure ((p_not rfl).trans (cb e29))) (wo_step (v := (.b c29)) (s_pure (p_pickF rfl rfl)) (wo_nil ?_))
              cases z25
              exact ⟨_, _, rfl, rfl, gl rfl, gl g4, gl g16, gl g17, gl g18⟩
          · clear z21
            have hr := hk
            clear hk
            obtain ⟨c30, m_2⟩ := o_1
            rintro mm_1 t_3 ⟨rfl, g30, g4, g16, g17, g18⟩
            refine wo_nil (nx_norm ?_)
            rcases cond_inv hr with ⟨rfl, z26⟩ | ⟨rfl, z26⟩
            · refine w_condT g30 ?_
              refine w_seq (w_ops (wo_step (v := AVal.nsl) (s_pure (p_mv rfl)) (wo_step (v := (.i .i64 5)) (s_pure (p_mv rfl)) (wo_nil (nx_norm ?_)))))
              refine w_ret ?_
              refine bk_ret ?_
              refine nx_ret ?_
              cases z26
              exact ⟨_, _, rfl, ne_norm_ret, rfl, rfl, gl rfl, gl rfl⟩
            · refine w_condF g30 ?_
              refine w_skip ?_
              refine bk_norm ?_
              refine nx_norm (w_ops ?_)
              obtain ⟨x31, e31, z27⟩ := forceI_inv z26
              refine wo_step (s_pure (p_bin g18 rfl (b_add.trans (ci e31)))) (wo_step (v := (.i .i64 x31)) (s_pure (p_mv rfl)) (wo_nil ?_))
              cases z27
              exact ⟨_, _, rfl, rfl, rfl, gl rfl, gl g4, gl g16, gl g17⟩
        · refine w_condF rfl ?_
          refine w_exit ?_
          refine nx_exit ?_
          cases z14
          exact ⟨_, _, rfl, ne_norm_exit, rfl, rfl, gl g4⟩
      · rcases o_2 with o_2 | o_2
        · obtain ⟨m_4, ho⟩ : ∃ z, z = o_2 := ⟨_, rfl⟩
          subst ho
          rintro _ mm_2 t_4 ⟨rfl, rfl, g4⟩
          refine bk_hit ?_
          refine nx_norm (w_seq (w_ops (wo_step (s_pure (p_mv g4)) (wo_step (v := v0) (s_pure (p_mv rfl)) (wo_step (v := (.i .i64 0)) (s_pure (p_mv rfl)) (wo_nil (nx_norm ?_)))))))
          refine w_ret ?_
          exact qf ret_ok (rt rfl (rt rfl rn)) z12
        · obtain ⟨v2, x3, m_5⟩ := o_2
          rintro _ mm_3 t_5 ⟨rfl, rfl, g2, g3⟩
          refine bk_ret ?_
          refine nx_ret ?_
          exact qf ret_ok (rt g2 (rt g3 rn)) z12
/- (dibber/vine.rules).bud -/

def g72 (M : Means) (ro : List ABlk) (v0 : AVal) (x1 : Int) (m0 : Mm) : Option (AVal × Heap × Nat × Nat) :=
  bindO (some (Mm.base m0)) fun m_1 =>
  bindO (evP .e (.ixS 1 (.c v0) (.c (.i .i64 x1)))) fun v12 =>
  bindO (ldA ro m0.h true 1 v12) fun v13 =>
  asS v13 fun s13 =>
  bindP (callM M.call m_1 89 [(.i .i64 x1)]) fun v15 m_2 =>
  asS v15 fun s15 =>
  chk (!Nat.blt m_2.lw m0.h.length) <|
  bindP (callM M.call m_2 97 [(.s s13), (.s s15)]) fun v16 m_3 =>
  bindO (evP .e (.ext 0 (.c v16))) fun v17 =>
  asS v17 fun s17 =>
  bindO (evP .e (.ext 1 (.c v16))) fun v18 =>
  asB v18 fun c18 =>
  bindO (some (Mm.join m0 m_3)) fun m_4 =>
  forceB (!c18) fun c20 =>
  cond c20 (
    finM m0.h.length (tupA [(.b false)]) m_4) (
    bindP (callM M.call m_4 61 [v0, (.s s17)]) fun v24 m_5 =>
    bindO (evP .e (.ext 0 (.c v24))) fun v25 =>
    asI .i64 v25 fun x25 =>
    bindO (evP .e (.ext 1 (.c v24))) fun v26 =>
    asB v26 fun c26 =>
    forceB (!c26) fun c28 =>
    finM m0.h.length (tupA [(.b c28)]) m_5)
theorem g72_ok {ro : List ABlk} {O : Caller} {M : Means} (hM : M.Ok ⟨F, O⟩ ro) {v0 x1 h r} (ho : O 72 [v0, (.i .i64 x1)] h = none) (hr : g72 M ro v0 x1 ⟨h, h.length, h.length⟩ = some r) : callX ⟨F, O⟩ ro 72 [v0, (.i .i64 x1)] h = some r := by
  refine callX_of (F := ⟨F, O⟩) (fn := fn72) (g := g72 M ro v0 x1) ho rfl rfl hr ?_
  clear ho
  clear hr
  intro m0 t0 ht hr
  have g0 : t0.get 0 = v0 := ht 0
  have g1 : t0.get 1 = (.i .i64 x1) := ht 1
  clear ht
  unfold g72 at hr
  refine w_seq (w_ops (wo_step (v := (.b false)) (s_pure (p_mv rfl)) (wo_nil (nx_norm (w_seq ?_)))))
  obtain ⟨m_1, ef, z1⟩ := bindO_inv hr
  refine w_flt (af := true) rfl ef ?_
  refine wf_step (v := v0) (f_P rfl (s_pure (p_mv g0))) ?_
  refine wf_step (v := (.i .i64 x1)) (f_P rfl (s_pure (p_mv g1))) ?_
  obtain ⟨v12, e12, z2⟩ := bindO_inv z1
  refine wf_step (v := v12) (f_P rfl (s_pure (o_ixS rfl rfl e12))) ?_
  obtain ⟨v13, e13, z3⟩ := bindO_inv z2
  obtain ⟨s13, rfl, z4⟩ := asS_inv z3
  refine wf_step (v := (.s s13)) (f_ld rfl e13) ?_
  refine wf_step (v := (.i .i64 x1)) (f_P rfl (s_pure (p_mv g1))) ?_
  obtain ⟨v15, m_2, e15, z5⟩ := bindP_inv z4
  obtain ⟨s15, rfl, z6⟩ := asS_inv z5
  obtain ⟨hc15, z7⟩ := chk_inv z6
  refine wf_step (v := (.s s15)) (f_M hc15 (s_call (mc rfl mn) (callM_le hM.call e15))) ?_
  obtain ⟨v16, m_3, e16, z8⟩ := bindP_inv z7
  refine wf_step (v := v16) (f_F rfl (s_call (mc rfl (mc rfl mn)) (callM_le hM.call e16))) ?_
  refine wf_step (v := v16) (f_P rfl (s_pure (p_mv rfl))) ?_
  obtain ⟨v17, e17, z9⟩ := bindO_inv z8
  obtain ⟨s17, rfl, z10⟩ := asS_inv z9
  refine wf_step (v := (.s s17)) (f_P rfl (s_pure (o_ext rfl e17))) ?_
  obtain ⟨v18, e18, z11⟩ := bindO_inv z10
  obtain ⟨c18, rfl, z12⟩ := asB_inv z11
  refine wf_step (v := (.b c18)) (f_P rfl (s_pure (o_ext rfl e18))) ?_
  refine wf_step (v := (.s s17)) (f_P rfl (s_pure (p_mv rfl))) ?_
  refine wf_step (v := (.b c18)) (f_P rfl (s_pure (p_mv rfl))) ?_
  obtain ⟨m_4, ef_1, z13⟩ := bindO_inv z12
  refine wf_end ef_1 ?_
  refine nx_norm (w_seq (w_seq (w_ops (wo_step (v := (.b c18)) (s_pure (p_mv rfl)) ?_))))
  obtain ⟨c20, e20, z14⟩ := forceB_inv z13
  refine wo_step (s_pure ((p_not rfl).trans (cb e20))) (wo_nil (nx_norm ?_))
  rcases cond_inv z14 with ⟨rfl, z15⟩ | ⟨rfl, z15⟩
  · refine w_condT rfl ?_
    refine w_seq (w_ops (wo_step (v := (.b false)) (s_pure (p_mv rfl)) (wo_nil (nx_norm ?_))))
    refine w_ret ?_
    refine nx_ret ?_
    exact qf ret_ok (rt rfl rn) z15
  · refine w_condF rfl ?_
    refine w_skip (nx_norm (w_seq (w_ops (wo_step (s_pure (p_mv g0)) (wo_step (v := (.s s17)) (s_pure (p_mv rfl)) ?_)))))
    obtain ⟨v24, m_5, e24, z16⟩ := bindP_inv z15
    refine wo_step (s_call (mc rfl (mc rfl mn)) (callM_le hM.call e24)) (wo_step (v := v24) (s_pure (p_mv rfl)) ?_)
    obtain ⟨v25, e25, z17⟩ := bindO_inv z16
    obtain ⟨x25, rfl, z18⟩ := asI_inv z17
    refine wo_step (s_pure (o_ext rfl e25)) ?_
    obtain ⟨v26, e26, z19⟩ := bindO_inv z18
    obtain ⟨c26, rfl, z20⟩ := asB_inv z19
    refine wo_step (s_pure (o_ext rfl e26)) (wo_step (v := (.i .i64 x25)) (s_pure (p_mv rfl)) (wo_step (v := (.b c26)) (s_pure (p_mv rfl)) (wo_nil (nx_norm (w_seq (w_ops (wo_step (v := (.b c26)) (s_pure (p_mv rfl)) ?_)))))))
    obtain ⟨c28, e28, z21⟩ := forceB_inv z20
    refine wo_step (s_pure ((p_not rfl).trans (cb e28))) (wo_step (v := (.b c28)) (s_pure (p_mv rfl)) (wo_nil (nx_norm ?_)))
    refine w_ret ?_
    exact qf ret_ok (rt rfl rn) z21
/- dibber/vine.readBud -/
abbrev g74_J0 (s1 : List UInt8) (v13 : AVal) (o : Bool × Mm) (m1 : Mm) (t1 : Tr) : Prop :=
  match o with
  | (c26, m_2) => m_2 = m1 ∧ t1.get 26 = (.b c26) ∧ t1.get 1 = (.s s1) ∧ t1.get 7 = v13
def g74 (M : Means) (ro : List ABlk) (v0 : AVal) (s1 : List UInt8) (m0 : Mm) : Option (AVal × Heap × Nat × Nat) :=
  bindP (callM M.call m0 71 [v0]) fun v12 m_1 =>
  bindO (evP .e (.ext 0 (.c v12))) fun v13 =>
  bindO (evP .e (.ext 1 (.c v12))) fun v14 =>
  asI .i64 v14 fun x14 =>
  forceB (!eqI x14 0) fun c16 =>
  cond c16 (
    finM m0.h.length (tupA [AVal.nsl, (.i .i64 0), (.i .i64 x14)]) m_1) (
    bindO (evP .e (.len true (.c (.s s1)))) fun v19 =>
    asI .i64 v19 fun x19 =>
    forceB (!eqI x19 1) fun c20 =>
    bindO (cond c20 (
      some (true, m_1)) (
      bindP (callM M.call m_1 92 [v13, (.s s1)]) fun v24 m_3 =>
      asB v24 fun c24 =>
      forceB (!c24) fun c25 =>
      some (c25, m_3))) fun ⟨c26, m_2⟩ =>
    cond c26 (
      finM m0.h.length (tupA [AVal.nsl, (.i .i64 0), (.i .i64 5)]) m_2) (
      bindO (evP .e (.ixStr (.c (.s s1)) (.c (.i .i64 0)))) fun v28 =>
      asI .u8 v28 fun x28 =>
      bindP (callM M.call m_2 54 [(.i .u8 x28)]) fun v29 m_4 =>
      asI .i64 v29 fun x29 =>
      bindP (callM M.call m_4 72 [v13, (.i .i64 x29)]) fun v32 m_5 =>
      asB v32 fun c32 =>
      forceB (!c32) fun c33 =>
      cond c33 (
        finM m0.h.length (tupA [AVal.nsl, (.i .i64 0), (.i .i64 10)]) m_5) (
        finM m0.h.length (tupA [v13, (.i .i64 x29), (.i .i64 0)]) m_5)))
theorem g74_ok {ro : List ABlk} {O : Caller} {M : Means} (hM : M.Ok ⟨F, O⟩ ro) {v0 s1 h r} (ho : O 74 [v0, (.s s1)] h = none) (hr : g74 M ro v0 s1 ⟨h, h.length, h.length⟩ = some r) : callX ⟨F, O⟩ ro 74 [v0, (.s s1)] h = some r := by
  refine callX_of (F := ⟨F, O⟩) (fn := fn74) (g := g74 M ro v0 s1) ho rfl rfl hr ?_
  clear ho
  clear hr
  intro m0 t0 ht hr
  have g0 : t0.get 0 = v0 := ht 0
  have g1 : t0.get 1 = (.s s1) := ht 1
  clear ht
  unfold g74 at hr
  refine w_seq (w_ops (wo_step (v := AVal.nsl) (s_pure (p_mv rfl)) (wo_step (v := (.i .i64 0)) (s_pure (p_mv rfl)) (wo_step (v := (.i .i64 0)) (s_pure (p_mv rfl)) (wo_nil (nx_norm (w_seq (w_ops (wo_step (s_pure (p_mv g0)) ?_)))))))))
  obtain ⟨v12, m_1, e12, z1⟩ := bindP_inv hr
  refine wo_step (s_call (mc rfl mn) (callM_le hM.call e12)) (wo_step (v := v12) (s_pure (p_mv rfl)) ?_)
  obtain ⟨v13, e13, z2⟩ := bindO_inv z1
  refine wo_step (s_pure (o_ext rfl e13)) ?_
  obtain ⟨v14, e14, z3⟩ := bindO_inv z2
  obtain ⟨x14, rfl, z4⟩ := asI_inv z3
  refine wo_step (s_pure (o_ext rfl e14)) (wo_step (v := v13) (s_pure (p_mv rfl)) (wo_step (v := (.i .i64 x14)) (s_pure (p_mv rfl)) (wo_nil (nx_norm (w_seq (w_seq (w_ops (wo_step (v := (.i .i64 x14)) (s_pure (p_mv rfl)) ?_))))))))
  obtain ⟨c16, e16, z5⟩ := forceB_inv z4
  refine wo_step (s_pure (p_bin rfl rfl (b_neq.trans (cb e16)))) (wo_nil (nx_norm ?_))
  rcases cond_inv z5 with ⟨rfl, z6⟩ | ⟨rfl, z6⟩
  · refine w_condT rfl ?_
    refine w_seq (w_ops (wo_step (v := (.i .i64 x14)) (s_pure (p_mv rfl)) (wo_step (v := AVal.nsl) (s_pure (p_mv rfl)) (wo_step (v := (.i .i64 0)) (s_pure (p_mv rfl)) (wo_step (v := (.i .i64 x14)) (s_pure (p_mv rfl)) (wo_nil (nx_norm ?_)))))))
    refine w_ret ?_
    refine nx_ret ?_
    exact qf ret_ok (rt rfl (rt rfl (rt rfl rn))) z6
  · refine w_condF rfl ?_
    refine w_skip (nx_norm (w_seq (w_seq (w_ops (wo_step (s_pure (p_mv g1)) ?_)))))
    obtain ⟨v19, e19, z7⟩ := bindO_inv z6
    obtain ⟨x19, rfl, z8⟩ := asI_inv z7
    refine wo_step (s_pure (o_len rfl e19)) ?_
    obtain ⟨c20, e20, z9⟩ := forceB_inv z8
    refine wo_step (s_pure (p_bin rfl rfl (b_neq.trans (cb e20)))) (wo_step (v := (.b c20)) (s_pure (p_mv rfl)) ?_)
    obtain ⟨o, z10, hk⟩ := bindO_inv z9
    refine wo_join 5 (g74_J0 s1 v13 o) ?_ ?_
    · clear hk
      rcases cond_inv z10 with ⟨rfl, z11⟩ | ⟨rfl, z11⟩
      · refine wo_skip (v := (.b true)) rfl rfl (wo_skip (v := (.b true)) rfl rfl (wo_skip (v := (.b true)) rfl rfl (wo_skip (v := (.b true)) rfl rfl (wo_step (v := (.b true)) (s_pure (p_pickT rfl rfl)) (wo_nil ?_)))))
        cases z11
        exact ⟨_, _, rfl, rfl, gl rfl, gl g1, gl rfl⟩
      · refine wo_take (v := v13) rfl (s_pure (p_mv rfl)) (wo_take (v := (.s s1)) rfl (s_pure (p_mv g1)) ?_)
        obtain ⟨v24, m_3, e24, z12⟩ := bindP_inv z11
        obtain ⟨c24, rfl, z13⟩ := asB_inv z12
        refine wo_take (v := (.b c24)) rfl (s_call (mc rfl (mc rfl mn)) (callM_le hM.call e24)) ?_
        obtain ⟨c25, e25, z14⟩ := forceB_inv z13
        refine wo_take (v := (.b c25)) rfl (s_pure ((p_not rfl).trans (cb e25))) (wo_step (v := (.b c25)) (s_pure (p_pickF rfl rfl)) (wo_nil ?_))
        cases z14
        exact ⟨_, _, rfl, rfl, gl rfl, gl g1, gl rfl⟩
    · clear z10
      have hr := hk
      clear hk
      obtain ⟨c26, m_2⟩ := o
      rintro mm t_1 ⟨rfl, g26, g1, g7⟩
      refine wo_nil (nx_norm ?_)
      rcases cond_inv hr with ⟨rfl, z15⟩ | ⟨rfl, z15⟩
      · refine w_condT g26 ?_
        refine w_seq (w_ops (wo_step (v := AVal.nsl) (s_pure (p_mv rfl)) (wo_step (v := (.i .i64 0)) (s_pure (p_mv rfl)) (wo_step (v := (.i .i64 5)) (s_pure (p_mv rfl)) (wo_nil (nx_norm ?_))))))
        refine w_ret ?_
        refine nx_ret ?_
        exact qf ret_ok (rt rfl (rt rfl (rt rfl rn))) z15
      · refine w_condF g26 ?_
        refine w_skip (nx_norm (w_seq (w_ops (wo_step (s_pure (p_mv g1)) ?_))))
        obtain ⟨v28, e28, z16⟩ := bindO_inv z15
        obtain ⟨x28, rfl, z17⟩ := asI_inv z16
        refine wo_step (s_pure (o_ixStr rfl rfl e28)) ?_
        obtain ⟨v29, m_4, e29, z18⟩ := bindP_inv z17
        obtain ⟨x29, rfl, z19⟩ := asI_inv z18
        refine wo_step (s_call (mc rfl mn) (callM_le hM.call e29)) (wo_step (v := (.i .i64 x29)) (s_pure (p_mv rfl)) (wo_nil (nx_norm (w_seq (w_seq (w_ops (wo_step (s_pure (p_mv g7)) (wo_step (v := (.i .i64 x29)) (s_pure (p_mv rfl)) ?_))))))))
        obtain ⟨v32, m_5, e32, z20⟩ := bindP_inv z19
        obtain ⟨c32, rfl, z21⟩ := asB_inv z20
        refine wo_step (s_call (mc rfl (mc rfl mn)) (callM_le hM.call e32)) ?_
        obtain ⟨c33, e33, z22⟩ := forceB_inv z21
        refine wo_step (s_pure ((p_not rfl).trans (cb e33))) (wo_nil (nx_norm ?_))
        rcases cond_inv z22 with ⟨rfl, z23⟩ | ⟨rfl, z23⟩
        · refine w_condT rfl ?_
          refine w_seq (w_ops (wo_step (v := AVal.nsl) (s_pure (p_mv rfl)) (wo_step (v := (.i .i64 0)) (s_pure (p_mv rfl)) (wo_step (v := (.i .i64 10)) (s_pure (p_mv rfl)) (wo_nil (nx_norm ?_))))))
          refine w_ret ?_
          refine nx_ret ?_
          exact qf ret_ok (rt rfl (rt rfl (rt rfl rn))) z23
        · refine w_condF rfl ?_
          refine w_skip (nx_norm (w_seq (w_ops (wo_step (s_pure (p_mv g7)) (wo_step (v := (.i .i64 x29)) (s_pure (p_mv rfl)) (wo_step (v := v13) (s_pure (p_mv rfl)) (wo_step (v := (.i .i64 x29)) (s_pure (p_mv rfl)) (wo_step (v := (.i .i64 0)) (s_pure (p_mv rfl)) (wo_nil (nx_norm ?_))))))))))
          refine w_ret ?_
          exact qf ret_ok (rt rfl (rt rfl (rt rfl rn))) z23
/- (dibber/vine.rules).endless -/

def g75 (M : Means) (ro : List ABlk) (v0 : AVal) (x1 : Int) (m0 : Mm) : Option (AVal × Heap × Nat × Nat) :=
  bindP (stepM ro m0 (.bx 55 1 (.c v0))) fun v2 m_1 =>
  bindP (stepM ro m_1 (.bx 3 1 (.c (.i .i64 x1)))) fun v3 m_2 =>
  bindO (some (AVal.fn 98 [] [v2, v3])) fun v5 =>
  finM m0.h.length (tupA [v5]) m_2
theorem g75_ok {ro : List ABlk} {O : Caller} {M : Means} (hM : M.Ok ⟨F, O⟩ ro) {v0 x1 h r} (ho : O 75 [v0, (.i .i64 x1)] h = none) (hr : g75 M ro v0 x1 ⟨h, h.length, h.length⟩ = some r) : callX ⟨F, O⟩ ro 75 [v0, (.i .i64 x1)] h = some r := by
  refine callX_of (F := ⟨F, O⟩) (fn := fn75) (g := g75 M ro v0 x1) ho rfl rfl hr ?_
  clear ho
  clear hr
  intro m0 t0 ht hr
  have g0 : t0.get 0 = v0 := ht 0
  have g1 : t0.get 1 = (.i .i64 x1) := ht 1
  clear ht
  unfold g75 at hr
  refine w_seq (w_ops ?_)
  obtain ⟨v2, m_1, e2, z1⟩ := bindP_inv hr
  refine wo_step (s_bx g0 e2) ?_
  obtain ⟨v3, m_2, e3, z2⟩ := bindP_inv z1
  refine wo_step (s_bx g1 e3) (wo_step (v := AVal.nfn) (s_pure (p_mv rfl)) (wo_nil (nx_norm (w_seq (w_ops ?_)))))
  obtain ⟨v5, e5, z3⟩ := bindO_inv z2
  refine wo_step (s_pure (Eq.trans (o_mkfn mn (mc rfl (mc rfl mn))) e5)) (wo_step (v := v5) (s_pure (p_mv rfl)) (wo_nil (nx_norm ?_)))
  refine w_ret ?_
  exact qf ret_ok (rt rfl rn) z3
/- (dibber/vine.many).plus -/

def g86 (M : Means) (ro : List ABlk) (x0 : Int) (x1 : Int) (m0 : Mm) : Option (AVal × Heap × Nat × Nat) :=
  forceI (wr .u64 (9223372036854775808 - x1)) fun x7 =>
  forceB (ltI x7 x0) fun c8 =>
  cond c8 (
    finM m0.h.length (tupA [(.i .u64 9223372036854775808)]) m0) (
    forceI (wr .u64 (x0 + x1)) fun x11 =>
    finM m0.h.length (tupA [(.i .u64 x11)]) m0)
theorem g86_ok {ro : List ABlk} {O : Caller} {M : Means} (hM : M.Ok ⟨F, O⟩ ro) {x0 x1 h r} (ho : O 86 [(.i .u64 x0), (.i .u64 x1)] h = none) (hr : g86 M ro x0 x1 ⟨h, h.length, h.length⟩ = some r) : callX ⟨F, O⟩ ro 86 [(.i .u64 x0), (.i .u64 x1)] h = some r := by
  refine callX_of (F := ⟨F, O⟩) (fn := fn86) (g := g86 M ro x0 x1) ho rfl rfl hr ?_
  clear ho
  clear hr
  intro m0 t0 ht hr
  have g0 : t0.get 0 = (.i .u64 x0) := ht 0
  have g1 : t0.get 1 = (.i .u64 x1) := ht 1
  clear ht
  unfold g86 at hr
  refine w_seq (w_ops (wo_step (v := (.i .u64 0)) (s_pure (p_mv rfl)) (wo_nil (nx_norm (w_seq (w_seq (w_ops (wo_step (s_pure (p_mv g0)) (wo_step (s_pure (p_mv g1)) ?_)))))))))
  obtain ⟨x7, e7, z1⟩ := forceI_inv hr
  refine wo_step (s_pure (p_bin rfl rfl (b_sub.trans (ci e7)))) ?_
  obtain ⟨c8, e8, z2⟩ := forceB_inv z1
  refine wo_step (s_pure (p_bin rfl rfl (b_gtr.trans (cb e8)))) (wo_nil (nx_norm ?_))
  rcases cond_inv z2 with ⟨rfl, z3⟩ | ⟨rfl, z3⟩
  · refine w_condT rfl ?_
    refine w_seq (w_ops (wo_step (v := (.i .u64 9223372036854775808)) (s_pure (p_mv rfl)) (wo_nil (nx_norm ?_))))
    refine w_ret ?_
    refine nx_ret ?_
    exact qf ret_ok (rt rfl rn) z3
  · refine w_condF rfl ?_
    refine w_skip (nx_norm (w_seq (w_ops (wo_step (s_pure (p_mv g0)) (wo_step (s_pure (p_mv g1)) ?_)))))
    obtain ⟨x11, e11, z4⟩ := forceI_inv z3
    refine wo_step (s_pure (p_bin rfl rfl (b_add.trans (ci e11)))) (wo_step (v := (.i .u64 x11)) (s_pure (p_mv rfl)) (wo_nil (nx_norm ?_)))
    refine w_ret ?_
    exact qf ret_ok (rt rfl rn) z4
/- strings.Count -/
abbrev g88_I0 (s1 : List UInt8) (s : List UInt8 × Int × Mm) (m1 : Mm) (t1 : Tr) : Prop :=
  match s with
  | (s0_1, x5, m_3) => m_3 = m1 ∧ t1.get 0 = (.s s0_1) ∧ t1.get 5 = (.i .i64 x5) ∧ t1.get 1 = (.s s1)
abbrev g88_J0 (s1 : List UInt8) (o : (Int × Mm)) (e : AExit) (m1 : Mm) (t1 : Tr) : Prop :=
  match o with
  | (y4, mo) => e = .ret ∧ mo = m1 ∧ t1.get 4 = (.i .i64 y4)
def g88_b0 (M : Means) (ro : List ABlk) (s1 : List UInt8) (s0_1 : List UInt8) (x5 : Int) (m_3 : Mm) : Option ((List UInt8 × Int × Mm) ⊕ ((Int × Mm))) :=
  bindP (callM M.call m_3 101 [(.s s0_1), (.s s1)]) fun v22 m_4 =>
  asI .i64 v22 fun x22 =>
  forceB (eqI x22 (-1)) fun c24 =>
  cond c24 (
    some (.inr (x5, m_4))) (
    forceI (wr .i64 (x5 + 1)) fun x27 =>
    bindO (evP .e (.len true (.c (.s s1)))) fun v31 =>
    asI .i64 v31 fun x31 =>
    forceI (wr .i64 (x22 + x31)) fun x32 =>
    bindO (evP .e (.slStr (.c (.s s0_1)) (some (.c (.i .i64 x32))) none)) fun v33 =>
    asS v33 fun s33 =>
    some (.inl (s33, x27, m_4)))
def g88 (M : Means) (ro : List ABlk) (s0 : List UInt8) (s1 : List UInt8) (m0 : Mm) : Option (AVal × Heap × Nat × Nat) :=
  bindO (evP .e (.len true (.c (.s s1)))) fun v8 =>
  asI .i64 v8 fun x8 =>
  forceB (eqI x8 0) fun c9 =>
  cond c9 (
    bindP (callM M.call m0 99 [(.s s0)]) fun v11 m_1 =>
    asI .i64 v11 fun x11 =>
    forceI (wr .i64 (x11 + 1)) fun x12 =>
    finM m0.h.length (tupA [(.i .i64 x12)]) m_1) (
    bindO (evP .e (.len true (.c (.s s1)))) fun v14 =>
    asI .i64 v14 fun x14 =>
    forceB (eqI x14 1) fun c15 =>
    cond c15 (
      bindO (evP .e (.ixStr (.c (.s s1)) (.c (.i .i64 0)))) fun v18 =>
      asI .u8 v18 fun x18 =>
      bindP (stepM ro m0 (.cnt (.c (.s s0)) (.c (.i .u8 x18)))) fun v19 m_2 =>
      asI .i64 v19 fun x19 =>
      finM m0.h.length (tupA [(.i .i64 x19)]) m_2) (
      bindO (M.loop (S := List UInt8 × Int × Mm) (R := (Int × Mm)) (fun s => g88_b0 M ro s1 s.1 s.2.1 s.2.2) (s0, 0, m0)) fun ⟨x4, m_5⟩ =>
      finM m0.h.length (tupA [(.i .i64 x4)]) m_5))
theorem g88_ok {ro : List ABlk} {O : Caller} {M : Means} (hM : M.Ok ⟨F, O⟩ ro) {s0 s1 h r} (ho : O 88 [(.s s0), (.s s1)] h = none) (hr : g88 M ro s0 s1 ⟨h, h.length, h.length⟩ = some r) : callX ⟨F, O⟩ ro 88 [(.s s0), (.s s1)] h = some r := by
  refine callX_of (F := ⟨F, O⟩) (fn := fn88) (g := g88 M ro s0 s1) ho rfl rfl hr ?_
  clear ho
  clear hr
  intro m0 t0 ht hr
  have g0 : t0.get 0 = (.s s0) := ht 0
  have g1 : t0.get 1 = (.s s1) := ht 1
  clear ht
  unfold g88 at hr
  refine w_seq (w_ops (wo_step (v := (.i .i64 0)) (s_pure (p_mv rfl)) (wo_nil (nx_norm (w_seq (w_seq (w_ops (wo_step (s_pure (p_mv g1)) ?_))))))))
  obtain ⟨v8, e8, z1⟩ := bindO_inv hr
  obtain ⟨x8, rfl, z2⟩ := asI_inv z1
  refine wo_step (s_pure (o_len rfl e8)) ?_
  obtain ⟨c9, e9, z3⟩ := forceB_inv z2
  refine wo_step (s_pure (p_bin rfl rfl (b_eql.trans (cb e9)))) (wo_nil (nx_norm ?_))
  rcases cond_inv z3 with ⟨rfl, z4⟩ | ⟨rfl, z4⟩
  · refine w_condT rfl ?_
    refine w_seq (w_ops (wo_step (s_pure (p_mv g0)) ?_))
    obtain ⟨v11, m_1, e11, z5⟩ := bindP_inv z4
    obtain ⟨x11, rfl, z6⟩ := asI_inv z5
    refine wo_step (s_call (mc rfl mn) (callM_le hM.call e11)) ?_
    obtain ⟨x12, e12, z7⟩ := forceI_inv z6
    refine wo_step (s_pure (p_bin rfl rfl (b_add.trans (ci e12)))) (wo_step (v := (.i .i64 x12)) (s_pure (p_mv rfl)) (wo_nil (nx_norm ?_)))
    refine w_ret ?_
    refine nx_ret ?_
    exact qf ret_ok (rt rfl rn) z7
  · refine w_condF rfl ?_
    refine w_skip (nx_norm (w_seq (w_seq (w_ops (wo_step (s_pure (p_mv g1)) ?_)))))
    obtain ⟨v14, e14, z8⟩ := bindO_inv z4
    obtain ⟨x14, rfl, z9⟩ := asI_inv z8
    refine wo_step (s_pure (o_len rfl e14)) ?_
    obtain ⟨c15, e15, z10⟩ := forceB_inv z9
    refine wo_step (s_pure (p_bin rfl rfl (b_eql.trans (cb e15)))) (wo_nil (nx_norm ?_))
    rcases cond_inv z10 with ⟨rfl, z11⟩ | ⟨rfl, z11⟩
    · refine w_condT rfl ?_
      refine w_seq (w_ops (wo_step (s_pure (p_mv g0)) (wo_step (s_pure (p_mv g1)) ?_)))
      obtain ⟨v18, e18, z12⟩ := bindO_inv z11
      obtain ⟨x18, rfl, z13⟩ := asI_inv z12
      refine wo_step (s_pure (o_ixStr rfl rfl e18)) ?_
      obtain ⟨v19, m_2, e19, z14⟩ := bindP_inv z13
      obtain ⟨x19, rfl, z15⟩ := asI_inv z14
      refine wo_step (s_cnt rfl rfl e19) (wo_step (v := (.i .i64 x19)) (s_pure (p_mv rfl)) (wo_nil (nx_norm ?_)))
      refine w_ret ?_
      refine nx_ret ?_
      exact qf ret_ok (rt rfl rn) z15
    · refine w_condF rfl ?_
      refine w_skip (nx_norm (w_seq (w_ops (wo_step (v := (.i .i64 0)) (s_pure (p_mv rfl)) (wo_nil (nx_norm ?_))))))
      refine w_block ?_
      obtain ⟨o, hl, z16⟩ := bindO_inv z11
      obtain ⟨n, hl⟩ := hM.loop _ _ _ hl
      refine jp_mono (w_loop _ (g88_I0 s1) (g88_J0 s1) ?_ n _ _ _ _ hl ⟨rfl, gl g0, gl rfl, gl g1⟩) ?_
      · clear z16 hl
        intro s mm_1 t_1 o hi hr
        obtain ⟨s0_1, x5, m_3⟩ := s
        obtain ⟨rfl, g0, g5, g1⟩ := hi
        unfold g88_b0 at hr
        refine w_block ?_
        refine w_seq (w_ops (wo_step (s_pure (p_mv g0)) (wo_step (s_pure (p_mv g1)) ?_)))
        obtain ⟨v22, m_4, e22, z17⟩ := bindP_inv hr
        obtain ⟨x22, rfl, z18⟩ := asI_inv z17
        refine wo_step (s_call (mc rfl (mc rfl mn)) (callM_le hM.call e22)) (wo_step (v := (.i .i64 x22)) (s_pure (p_mv rfl)) (wo_nil (nx_norm (w_seq (w_seq (w_ops (wo_step (v := (.i .i64 x22)) (s_pure (p_mv rfl)) ?_)))))))
        obtain ⟨c24, e24, z19⟩ := forceB_inv z18
        refine wo_step (s_pure (p_bin rfl rfl (b_eql.trans (cb e24)))) (wo_nil (nx_norm ?_))
        rcases cond_inv z19 with ⟨rfl, z20⟩ | ⟨rfl, z20⟩
        · refine w_condT rfl ?_
          refine w_seq (w_ops (wo_step (s_pure (p_mv g5)) (wo_step (v := (.i .i64 x5)) (s_pure (p_mv rfl)) (wo_nil (nx_norm ?_)))))
          refine w_ret ?_
          refine nx_ret ?_
          refine bk_ret ?_
          cases z20
          exact ⟨_, _, rfl, ne_norm_ret, rfl, rfl, gl rfl⟩
        · refine w_condF rfl ?_
          refine w_skip (nx_norm (w_seq (w_ops (wo_step (s_pure (p_mv g5)) ?_))))
          obtain ⟨x27, e27, z21⟩ := forceI_inv z20
          refine wo_step (s_pure (p_bin rfl rfl (b_add.trans (ci e27)))) (wo_step (v := (.i .i64 x27)) (s_pure (p_mv rfl)) (wo_nil (nx_norm (w_ops (wo_step (s_pure (p_mv g0)) (wo_step (v := (.i .i64 x22)) (s_pure (p_mv rfl)) (wo_step (s_pure (p_mv g1)) ?_)))))))
          obtain ⟨v31, e31, z22⟩ := bindO_inv z21
          obtain ⟨x31, rfl, z23⟩ := asI_inv z22
          refine wo_step (s_pure (o_len rfl e31)) ?_
          obtain ⟨x32, e32, z24⟩ := forceI_inv z23
          refine wo_step (s_pure (p_bin rfl rfl (b_add.trans (ci e32)))) ?_
          obtain ⟨v33, e33, z25⟩ := bindO_inv z24
          obtain ⟨s33, rfl, z26⟩ := asS_inv z25
          refine wo_step (s_pure (o_slStr rfl (os rfl) on e33)) (wo_step (v := (.s s33)) (s_pure (p_mv rfl)) (wo_nil ?_))
          refine bk_norm ?_
          cases z26
          exact ⟨_, _, rfl, rfl, rfl, gl rfl, gl rfl, gl g1⟩
      · obtain ⟨x4, m_5⟩ := o
        rintro _ mm t_2 ⟨rfl, rfl, g4⟩
        refine bk_ret ?_
        exact qf ret_ok (rt g4 rn) z16
/- dibber/vine.letter -/

def g89 (M : Means) (ro : List ABlk) (x0 : Int) (m0 : Mm) : Option (AVal × Heap × Nat × Nat) :=
  forceI (wr .u8 x0) fun x4 =>
  forceI (wr .u8 (97 + x4)) fun x5 =>
  bindP (stepM ro m0 (.bsl 5 1 [(AVal.i IntKind.u8 0)] 1 [((0, 1), .c (.i .u8 x5))])) fun v6 m_1 =>
  bindO (btsM ro m_1 v6) fun v7 =>
  asS v7 fun s7 =>
  finM m0.h.length (tupA [(.s s7)]) m_1
theorem g89_ok {ro : List ABlk} {O : Caller} {M : Means} (hM : M.Ok ⟨F, O⟩ ro) {x0 h r} (ho : O 89 [(.i .i64 x0)] h = none) (hr : g89 M ro x0 ⟨h, h.length, h.length⟩ = some r) : callX ⟨F, O⟩ ro 89 [(.i .i64 x0)] h = some r := by
  refine callX_of (F := ⟨F, O⟩) (fn := fn89) (g := g89 M ro x0) ho rfl rfl hr ?_
  clear ho
  clear hr
  intro m0 t0 ht hr
  have g0 : t0.get 0 = (.i .i64 x0) := ht 0
  clear ht
  unfold g89 at hr
  refine w_seq (w_ops (wo_step (v := (AVal.s [])) (s_pure (p_mv rfl)) (wo_nil (nx_norm (w_seq (w_ops (wo_step (s_pure (p_mv g0)) ?_)))))))
  obtain ⟨x4, e4, z1⟩ := forceI_inv hr
  refine wo_step (s_pure ((p_conv rfl).trans (ci e4))) ?_
  obtain ⟨x5, e5, z2⟩ := forceI_inv z1
  refine wo_step (s_pure (p_bin rfl rfl (b_add.trans (ci e5)))) ?_
  obtain ⟨v6, m_1, e6, z3⟩ := bindP_inv z2
  refine wo_step (s_bsl (qc rfl qn) e6) ?_
  obtain ⟨v7, e7, z4⟩ := bindO_inv z3
  obtain ⟨s7, rfl, z5⟩ := asS_inv z4
  refine wo_step (s_bts rfl e7) (wo_step (v := (.s s7)) (s_pure (p_mv rfl)) (wo_nil (nx_norm ?_)))
  refine w_ret ?_
  exact qf ret_ok (rt rfl rn) z5
/- (dibber/vine.rules).from-1 -/

def g90 (M : Means) (ro : List ABlk) (v0 : AVal) (v1 : AVal) (v2 : AVal) (v3 : AVal) (v4 : AVal) (m0 : Mm) : Option (AVal × Heap × Nat × Nat) :=
  bindP (stepM ro m0 (.bx 118 1 (.c v0))) fun v5 m_1 =>
  bindO (ldM ro m_1 true 1 v1) fun v8 =>
  asI .u64 v8 fun x8 =>
  bindP (stepM ro m_1 (.al 61 [(AVal.i IntKind.u64 0)])) fun v6 m_2 =>
  bindP (stepM ro m_2 (.st 1 (.c v6) (.c (.i .u64 x8)))) fun vn m_3 =>
  bindP (stepM ro m_3 (.al 119 [AVal.nfn])) fun v7 m_4 =>
  bindO (some (AVal.fn 91 [] [v2, v6, v5, v7, v3])) fun v9 =>
  bindP (stepM ro m_4 (.st 1 (.c v7) (.c v9))) fun vn_1 m_5 =>
  bindO (ldM ro m_5 true 1 v7) fun v10 =>
  bindO (ldM ro m_5 true 1 v4) fun v11 =>
  asS v11 fun s11 =>
  bindO (ldM ro m_5 true 1 v2) fun v12 =>
  bindO (evP .e (.len false (.c v12))) fun v13 =>
  asI .i64 v13 fun x13 =>
  forceI (wr .i64 (x13 - 1)) fun x14 =>
  bindP (callyM M.call M.round m_5 v10 [(.s s11), (.i .i64 x14)]) fun v15 m_6 =>
  asB v15 fun c15 =>
  finM m0.h.length (tupA []) m_6
theorem g90_ok {ro : List ABlk} {O : Caller} {M : Means} (hM : M.Ok ⟨F, O⟩ ro) {v0 v1 v2 v3 v4 h r} (ho : O 90 [v0, v1, v2, v3, v4] h = none) (hr : g90 M ro v0 v1 v2 v3 v4 ⟨h, h.length, h.length⟩ = some r) : callX ⟨F, O⟩ ro 90 [v0, v1, v2, v3, v4] h = some r := by
  refine callX_of (F := ⟨F, O⟩) (fn := fn90) (g := g90 M ro v0 v1 v2 v3 v4) ho rfl rfl hr ?_
  clear ho
  clear hr
  intro m0 t0 ht hr
  have g0 : t0.get 0 = v0 := ht 0
  have g1 : t0.get 1 = v1 := ht 1
  have g2 : t0.get 2 = v2 := ht 2
  have g3 : t0.get 3 = v3 := ht 3
  have g4 : t0.get 4 = v4 := ht 4
  clear ht
  unfold g90 at hr
  refine w_seq (w_ops ?_)
  obtain ⟨v5, m_1, e5, z1⟩ := bindP_inv hr
  refine wo_step (s_bx g0 e5) (wo_nil (nx_norm (w_seq (w_ops ?_))))
  obtain ⟨v8, e8, z2⟩ := bindO_inv z1
  obtain ⟨x8, rfl, z3⟩ := asI_inv z2
  refine wo_step (s_ld g1 e8) ?_
  obtain ⟨v6, m_2, e6, z4⟩ := bindP_inv z3
  refine wo_step (s_al e6) ?_
  obtain ⟨vn, m_3, en, z5⟩ := bindP_inv z4
  refine wo_stepN (s_st rfl rfl en) ?_
  refine wo_nil (nx_norm (w_seq (w_ops ?_)))
  obtain ⟨v7, m_4, e7, z6⟩ := bindP_inv z5
  refine wo_step (s_al e7) (wo_nil (nx_norm (w_seq (w_ops ?_))))
  obtain ⟨v9, e9, z7⟩ := bindO_inv z6
  refine wo_step (s_pure (Eq.trans (o_mkfn mn (mc g2 (mc rfl (mc rfl (mc rfl (mc g3 mn)))))) e9)) ?_
  obtain ⟨vn_1, m_5, en_1, z8⟩ := bindP_inv z7
  refine wo_stepN (s_st rfl rfl en_1) ?_
  refine wo_nil (nx_norm ?_)
  refine w_opsY ?_
  obtain ⟨v10, e10, z9⟩ := bindO_inv z8
  refine wy_step (v := v10) (y_C (s_ld rfl e10)) ?_
  obtain ⟨v11, e11, z10⟩ := bindO_inv z9
  obtain ⟨s11, rfl, z11⟩ := asS_inv z10
  refine wy_step (v := (.s s11)) (y_C (s_ld g4 e11)) ?_
  obtain ⟨v12, e12, z12⟩ := bindO_inv z11
  refine wy_step (v := v12) (y_C (s_ld g2 e12)) ?_
  obtain ⟨v13, e13, z13⟩ := bindO_inv z12
  obtain ⟨x13, rfl, z14⟩ := asI_inv z13
  refine wy_step (v := (.i .i64 x13)) (y_C (s_pure (o_len rfl e13))) ?_
  obtain ⟨x14, e14, z15⟩ := forceI_inv z14
  refine wy_step (v := (.i .i64 x14)) (y_C (s_pure (p_bin rfl rfl (b_sub.trans (ci e14))))) ?_
  obtain ⟨v15, m_6, e15, z16⟩ := bindP_inv z15
  obtain ⟨c15, rfl, z17⟩ := asB_inv z16
  refine wy_step (v := (.b c15)) (y_callv rfl (mc rfl (mc rfl mn)) (callyM_le hM.call hM.round e15)) ?_
  refine wy_nil ?_
  exact qf norm_ok rn z17
/- (dibber/vine.rules).from-1-1 -/
abbrev g91_I0 (s0 : List UInt8) (x1 : Int) (v2 : AVal) (v3 : AVal) (v4 : AVal) (v5 : AVal) (v6 : AVal) (x14 : Int) (s : Int × Mm) (m1 : Mm) (t1 : Tr) : Prop :=
  match s with
  | (x15, m_1) => m_1 = m1 ∧ t1.get 15 = (.i .i64 x15) ∧ t1.get 0 = (.s s0) ∧ t1.get 1 = (.i .i64 x1) ∧ t1.get 2 = v2 ∧ t1.get 3 = v3 ∧ t1.get 4 = v4 ∧ t1.get 5 = v5 ∧ t1.get 6 = v6 ∧ t1.get 14 = (.i .i64 x14)
abbrev g91_J0 (s0 : List UInt8) (x1 : Int) (v2 : AVal) (v3 : AVal) (v4 : AVal) (v5 : AVal) (v6 : AVal) (x14 : Int) (o : (Mm ⊕ (Bool × Mm))) (e : AExit) (m1 : Mm) (t1 : Tr) : Prop :=
  match o with
  | (.inl mo) => e = (.exit 0) ∧ mo = m1
  | (.inr (y9, mo)) => e = .ret ∧ mo = m1 ∧ t1.get 9 = (.b y9)
abbrev g91_J1 (s0 : List UInt8) (x1 : Int) (v2 : AVal) (v3 : AVal) (v4 : AVal) (v5 : AVal) (v6 : AVal) (x14 : Int) (x15 : Int) (o : (Mm ⊕ (Bool × Mm))) (e : AExit) (m1 : Mm) (t1 : Tr) : Prop :=
  match o with
  | (.inl mo) => e = .norm ∧ mo = m1 ∧ t1.get 0 = (.s s0) ∧ t1.get 1 = (.i .i64 x1) ∧ t1.get 2 = v2 ∧ t1.get 3 = v3 ∧ t1.get 4 = v4 ∧ t1.get 5 = v5 ∧ t1.get 6 = v6 ∧ t1.get 14 = (.i .i64 x14) ∧ t1.get 15 = (.i .i64 x15)
  | (.inr (y9, mo)) => e = .ret ∧ mo = m1 ∧ t1.get 9 = (.b y9)
abbrev g91_J2 (s0 : List UInt8) (x1 : Int) (v2 : AVal) (v3 : AVal) (v4 : AVal) (v5 : AVal) (v6 : AVal) (x14 : Int) (x15 : Int) (o : (Mm ⊕ (Bool × Mm))) (e : AExit) (m1 : Mm) (t1 : Tr) : Prop :=
  match o with
  | (.inl mo) => e = .norm ∧ mo = m1 ∧ t1.get 0 = (.s s0) ∧ t1.get 1 = (.i .i64 x1) ∧ t1.get 2 = v2 ∧ t1.get 3 = v3 ∧ t1.get 4 = v4 ∧ t1.get 5 = v5 ∧ t1.get 6 = v6 ∧ t1.get 14 = (.i .i64 x14) ∧ t1.get 15 = (.i .i64 x15)
  | (.inr (y9, mo)) => e = .ret ∧ mo = m1 ∧ t1.get 9 = (.b y9)
def g91_b0 (M : Means) (ro : List ABlk) (s0 : List UInt8) (x1 : Int) (v2 : AVal) (v3 : AVal) (v4 : AVal) (v5 : AVal) (v6 : AVal) (x14 : Int) (x15 : Int) (m_1 : Mm) : Option ((Int × Mm) ⊕ ((Mm ⊕ (Bool × Mm)))) :=
  forceB (ltI x15 x14) fun c16 =>
  cond c16 (
    bindO (evP .e (.ixStr (.c (.s s0)) (.c (.i .i64 x15)))) fun v20 =>
    asI .u8 v20 fun x20 =>
    bindP (callM M.call m_1 54 [(.i .u8 x20)]) fun v21 m_2 =>
    asI .i64 v21 fun x21 =>
    bindO (ldM ro m_2 true 1 v2) fun v22 =>
    bindO (evP .e (.ixS 1 (.c v22) (.c (.i .i64 x1)))) fun v24 =>
    bindO (ldM ro m_2 true 1 v24) fun v25 =>
    bindO (evP .e (.ixS 1 (.c v25) (.c (.i .i64 x21)))) fun v27 =>
    bindO (ldM ro m_2 true 1 v27) fun v28 =>
    asI .u64 v28 fun x28 =>
    bindO (ldM ro m_2 true 1 v3) fun v30 =>
    asI .u64 v30 fun x30 =>
    forceB (!ltI x30 x28) fun c31 =>
    bindO (α := (Mm ⊕ (Bool × Mm))) (
      cond c31 (
        bindO (ldM ro m_2 true 1 v3) fun v32 =>
        asI .u64 v32 fun x32 =>
        forceI (wr .u64 (x32 - x28)) fun x34 =>
        bindP (stepM ro m_2 (.st 1 (.c v3) (.c (.i .u64 x34)))) fun vn m_3 =>
        some (.inl m_3)) (
        forceB (eqI x1 0) fun c36 =>
        bindO (α := (Mm ⊕ (Bool × Mm))) (
          cond c36 (
            bindO (evP .e (.ixStr (.c (.s s0)) (.c (.i .i64 x15)))) fun v40 =>
            asI .u8 v40 fun x40 =>
            bindO (ldM ro m_2 true 1 v4) fun v37 =>
            bindP (callyM M.call M.round m_2 v37 [(.i .u8 x40)]) fun v41 m_4 =>
            asB v41 fun c41 =>
            forceB (!c41) fun c42 =>
            cond c42 (
              some (.inr (false, m_4))) (
              some (.inl m_4))) (
            bindO (some (Mm.base m_2)) fun m_5 =>
            bindO (ldM ro m_5 true 1 v5) fun v43 =>
            bindO (ldM ro m_5 true 1 v6) fun v44 =>
            bindO (evP .e (.ixS 1 (.c v44) (.c (.i .i64 x21)))) fun v46 =>
            bindO (ldM ro m_5 true 1 v46) fun v47 =>
            asS v47 fun s47 =>
            forceI (wr .i64 (x1 - 1)) fun x49 =>
            bindP (callvM M.call m_5 v43 [(.s s47), (.i .i64 x49)]) fun v50 m_6 =>
            asB v50 fun c50 =>
            forceB (!c50) fun c51 =>
            bindO (some (Mm.join m_2 m_6)) fun m_7 =>
            cond c51 (
              some (.inr (false, m_7))) (
              some (.inl m_7)))) fun o_1 => match o_1 with
        | (.inl m_8) =>
          some (.inl m_8)
        | (.inr (c9, m_9)) =>
          some (.inr (c9, m_9)))) fun o => match o with
    | (.inl m_10) =>
      forceI (wr .i64 (x15 + 1)) fun x52 =>
      some (.inl (x52, m_10))
    | (.inr (c9_1, m_11)) =>
      some (.inr (.inr (c9_1, m_11)))) (
    some (.inr (.inl m_1)))
def g91 (M : Means) (ro : List ABlk) (s0 : List UInt8) (x1 : Int) (v2 : AVal) (v3 : AVal) (v4 : AVal) (v5 : AVal) (v6 : AVal) (m0 : Mm) : Option (AVal × Heap × Nat × Nat) :=
  bindO (evP .e (.len true (.c (.s s0)))) fun v14 =>
  asI .i64 v14 fun x14 =>
  bindO (M.loop (S := Int × Mm) (R := (Mm ⊕ (Bool × Mm))) (fun s => g91_b0 M ro s0 x1 v2 v3 v4 v5 v6 x14 s.1 s.2) (0, m0)) fun o_2 => match o_2 with
  | (.inl m_12) =>
    finM m0.h.length (tupA [(.b true)]) m_12
  | (.inr (c9_2, m_13)) =>
    finM m0.h.length (tupA [(.b c9_2)]) m_13
theorem g91_ok {ro : List ABlk} {O : Caller} {M : Means} (hM : M.Ok ⟨F, O⟩ ro) {s0 x1 v2 v3 v4 v5 v6 h r} (ho : O 91 [(.s s0), (.i .i64 x1), v2, v3, v4, v5, v6] h = none) (hr : g91 M ro s0 x1 v2 v3 v4 v5 v6 ⟨h, h.length, h.length⟩ = some r) : callX ⟨F, O⟩ ro 91 [(.s s0), (.i .i64 x1), v2, v3, v4, v5, v6] h = some r := by
  refine callX_of (F := ⟨F, O⟩) (fn := fn91) (g := g91 M ro s0 x1 v2 v3 v4 v5 v6) ho rfl rfl hr ?_
  clear ho
  clear hr
  intro m0 t0 ht hr
  have g0 : t0.get 0 = (.s s0) := ht 0
  have g1 : t0.get 1 = (.i .i64 x1) := ht 1
  have g2 : t0.get 2 = v2 := ht 2
  have g3 : t0.get 3 = v3 := ht 3
  have g4 : t0.get 4 = v4 := ht 4
  have g5 : t0.get 5 = v5 := ht 5
  have g6 : t0.get 6 = v6 := ht 6
  clear ht
  unfold g91 at hr
  refine w_seq (w_ops (wo_step (v := (.b false)) (s_pure (p_mv rfl)) (wo_nil (nx_norm (w_seq (w_seq (w_ops (wo_step (s_pure (p_mv g0)) ?_))))))))
  obtain ⟨v14, e14, z1⟩ := bindO_inv hr
  obtain ⟨x14, rfl, z2⟩ := asI_inv z1
  refine wo_step (s_pure (o_len rfl e14)) (wo_step (v := (.i .i64 0)) (s_pure (p_mv rfl)) (wo_nil (nx_norm ?_)))
  refine w_block ?_
  obtain ⟨o_2, hl, z3⟩ := bindO_inv z2
  obtain ⟨n, hl⟩ := hM.loop _ _ _ hl
  refine jp_mono (w_loop _ (g91_I0 s0 x1 v2 v3 v4 v5 v6 x14) (g91_J0 s0 x1 v2 v3 v4 v5 v6 x14) ?_ n _ _ _ _ hl ⟨rfl, gl rfl, gl g0, gl g1, gl g2, gl g3, gl g4, gl g5, gl g6, gl rfl⟩) ?_
  · clear z3 hl
    intro s mm_6 t_1 o hi hr
    obtain ⟨x15, m_1⟩ := s
    obtain ⟨rfl, g15, g0, g1, g2, g3, g4, g5, g6, g14⟩ := hi
    unfold g91_b0 at hr
    refine w_seq (w_ops ?_)
    obtain ⟨c16, e16, z4⟩ := forceB_inv hr
    refine wo_step (s_pure (p_bin g15 g14 (b_lss.trans (cb e16)))) (wo_nil (nx_norm (w_seq ?_)))
    rcases cond_inv z4 with ⟨rfl, z5⟩ | ⟨rfl, z5⟩
    · refine w_condT rfl ?_
      refine w_skip (nx_norm (w_seq ?_))
      refine w_block ?_
      refine w_seq (w_ops (wo_step (s_pure (p_mv g15)) (wo_step (v := (.i .i64 x15)) (s_pure (p_mv rfl)) (wo_nil (nx_norm (w_seq (w_ops (wo_step (s_pure (p_mv g0)) (wo_step (v := (.i .i64 x15)) (s_pure (p_mv rfl)) ?_)))))))))
      obtain ⟨v20, e20, z6⟩ := bindO_inv z5
      obtain ⟨x20, rfl, z7⟩ := asI_inv z6
      refine wo_step (s_pure (o_ixStr rfl rfl e20)) ?_
      obtain ⟨v21, m_2, e21, z8⟩ := bindP_inv z7
      obtain ⟨x21, rfl, z9⟩ := asI_inv z8
      refine wo_step (s_call (mc rfl mn) (callM_le hM.call e21)) (wo_step (v := (.i .i64 x21)) (s_pure (p_mv rfl)) (wo_nil (nx_norm (w_seq (w_ops ?_)))))
      obtain ⟨v22, e22, z10⟩ := bindO_inv z9
      refine wo_step (s_ld g2 e22) (wo_step (s_pure (p_mv g1)) ?_)
      obtain ⟨v24, e24, z11⟩ := bindO_inv z10
      refine wo_step (s_pure (o_ixS rfl rfl e24)) ?_
      obtain ⟨v25, e25, z12⟩ := bindO_inv z11
      refine wo_step (s_ld rfl e25) (wo_step (v := (.i .i64 x21)) (s_pure (p_mv rfl)) ?_)
      obtain ⟨v27, e27, z13⟩ := bindO_inv z12
      refine wo_step (s_pure (o_ixS rfl rfl e27)) ?_
      obtain ⟨v28, e28, z14⟩ := bindO_inv z13
      obtain ⟨x28, rfl, z15⟩ := asI_inv z14
      refine wo_step (s_ld rfl e28) (wo_step (v := (.i .u64 x28)) (s_pure (p_mv rfl)) (wo_nil (nx_norm (w_seq (w_ops (wo_step (v := (.i .u64 x28)) (s_pure (p_mv rfl)) ?_))))))
      obtain ⟨v30, e30, z16⟩ := bindO_inv z15
      obtain ⟨x30, rfl, z17⟩ := asI_inv z16
      refine wo_step (s_ld g3 e30) ?_
      obtain ⟨c31, e31, z18⟩ := forceB_inv z17
      refine wo_step (s_pure (p_bin rfl rfl (b_leq.trans (cb e31)))) (wo_nil (nx_norm ?_))
      obtain ⟨o, z19, hk⟩ := bindO_inv z18
      refine jp_mono (J := g91_J1 s0 x1 v2 v3 v4 v5 v6 x14 x15 o) ?_ ?_
      · clear hk
        rcases cond_inv z19 with ⟨rfl, z20⟩ | ⟨rfl, z20⟩
        · refine w_condT rfl ?_
          refine w_ops ?_
          obtain ⟨v32, e32, z21⟩ := bindO_inv z20
          obtain ⟨x32, rfl, z22⟩ := asI_inv z21
          refine wo_step (s_ld g3 e32) (wo_step (v := (.i .u64 x28)) (s_pure (p_mv rfl)) ?_)
          obtain ⟨x34, e34, z23⟩ := forceI_inv z22
          refine wo_step (s_pure (p_bin rfl rfl (b_sub.trans (ci e34)))) ?_
          obtain ⟨vn, m_3, en, z24⟩ := bindP_inv z23
          refine wo_stepN (s_st g3 rfl en) ?_
          refine wo_nil ?_
          cases z24
          exact ⟨_, _, rfl, rfl, rfl, gl g0, gl g1, gl g2, gl g3, gl g4, gl g5, gl g6, gl g14, gl g15⟩
        · refine w_condF rfl ?_
          refine w_seq (w_ops (wo_step (s_pure (p_mv g1)) ?_))
          obtain ⟨c36, e36, z25⟩ := forceB_inv z20
          refine wo_step (s_pure (p_bin rfl rfl (b_eql.trans (cb e36)))) (wo_nil (nx_norm ?_))
          obtain ⟨o_1, z26, hk⟩ := bindO_inv z25
          refine jp_mono (J := g91_J2 s0 x1 v2 v3 v4 v5 v6 x14 x15 o_1) ?_ ?_
          · clear hk
            rcases cond_inv z26 with ⟨rfl, z27⟩ | ⟨rfl, z27⟩
            · refine w_condT rfl ?_
              refine w_seq ?_
              refine w_opsY ?_
              refine wy_step (v := (.s s0)) (y_C (s_pure (p_mv g0))) ?_
              refine wy_step (v := (.i .i64 x15)) (y_C (s_pure (p_mv rfl))) ?_
              obtain ⟨v40, e40, z28⟩ := bindO_inv z27
              obtain ⟨x40, rfl, z29⟩ := asI_inv z28
              refine wy_step (v := (.i .u8 x40)) (y_C (s_pure (o_ixStr rfl rfl e40))) ?_
              obtain ⟨v37, e37, z30⟩ := bindO_inv z29
              refine wy_step (v := v37) (y_C (s_ld g4 e37)) ?_
              obtain ⟨v41, m_4, e41, z31⟩ := bindP_inv z30
              obtain ⟨c41, rfl, z32⟩ := asB_inv z31
              refine wy_step (v := (.b c41)) (y_callv rfl (mc rfl mn) (callyM_le hM.call hM.round e41)) ?_
              obtain ⟨c42, e42, z33⟩ := forceB_inv z32
              refine wy_step (v := (.b c42)) (y_C (s_pure ((p_not rfl).trans (cb e42)))) ?_
              refine wy_nil ?_
              refine nx_norm ?_
              rcases cond_inv z33 with ⟨rfl, z34⟩ | ⟨rfl, z34⟩
              · refine w_condT rfl ?_
                refine w_seq (w_ops (wo_step (v := (.b false)) (s_pure (p_mv rfl)) (wo_nil (nx_norm ?_))))
                refine w_ret ?_
                cases z34
                exact ⟨_, _, rfl, rfl, rfl, gl rfl⟩
              · refine w_condF rfl ?_
                refine w_skip ?_
                cases z34
                exact ⟨_, _, rfl, rfl, rfl, gl g0, gl g1, gl g2, gl g3, gl g4, gl g5, gl g6, gl g14, gl g15⟩
            · refine w_condF rfl ?_
              refine w_seq ?_
              obtain ⟨m_5, ef, z35⟩ := bindO_inv z27
              refine w_flt (af := false) rfl ef ?_
              obtain ⟨v43, e43, z36⟩ := bindO_inv z35
              refine wf_step (v := v43) (f_P rfl (s_ld g5 e43)) ?_
              obtain ⟨v44, e44, z37⟩ := bindO_inv z36
              refine wf_step (v := v44) (f_P rfl (s_ld g6 e44)) ?_
              refine wf_step (v := (.i .i64 x21)) (f_P rfl (s_pure (p_mv rfl))) ?_
              obtain ⟨v46, e46, z38⟩ := bindO_inv z37
              refine wf_step (v := v46) (f_P rfl (s_pure (o_ixS rfl rfl e46))) ?_
              obtain ⟨v47, e47, z39⟩ := bindO_inv z38
              obtain ⟨s47, rfl, z40⟩ := asS_inv z39
              refine wf_step (v := (.s s47)) (f_P rfl (s_ld rfl e47)) ?_
              refine wf_step (v := (.i .i64 x1)) (f_P rfl (s_pure (p_mv g1))) ?_
              obtain ⟨x49, e49, z41⟩ := forceI_inv z40
              refine wf_step (v := (.i .i64 x49)) (f_P rfl (s_pure (p_bin rfl rfl (b_sub.trans (ci e49))))) ?_
              obtain ⟨v50, m_6, e50, z42⟩ := bindP_inv z41
              obtain ⟨c50, rfl, z43⟩ := asB_inv z42
              refine wf_step (v := (.b c50)) (f_N (s_callv rfl (mc rfl (mc rfl mn)) (callvM_le hM.call e50))) ?_
              obtain ⟨c51, e51, z44⟩ := forceB_inv z43
              refine wf_step (v := (.b c51)) (f_P rfl (s_pure ((p_not rfl).trans (cb e51)))) ?_
              obtain ⟨m_7, ef_1, z45⟩ := bindO_inv z44
              refine wf_end ef_1 ?_
              refine nx_norm ?_
              rcases cond_inv z45 with ⟨rfl, z46⟩ | ⟨rfl, z46⟩
              · refine w_condT rfl ?_
                refine w_seq (w_ops (wo_step (v := (.b false)) (s_pure (p_mv rfl)) (wo_nil (nx_norm ?_))))
                refine w_ret ?_
                cases z46
                exact ⟨_, _, rfl, rfl, rfl, gl rfl⟩
              · refine w_condF rfl ?_
                refine w_skip ?_
                cases z46
                exact ⟨_, _, rfl, rfl, rfl, gl g0, gl g1, gl g2, gl g3, gl g4, gl g5, gl g6, gl g14, gl g15⟩
          · clear z26
            have hr := hk
            clear hk
            rcases o_1 with o_1 | o_1
            · obtain ⟨m_8, ho⟩ : ∃ z, z = o_1 := ⟨_, rfl⟩
              subst ho
              rintro _ mm t_2 ⟨rfl, rfl, g0, g1, g2, g3, g4, g5, g6, g14, g15⟩
              cases hr
              exact ⟨_, _, rfl, rfl, rfl, gl g0, gl g1, gl g2, gl g3, gl g4, gl g5, gl g6, gl g14, gl g15⟩
            · obtain ⟨c9, m_9⟩ := o_1
              rintro _ mm_1 t_3 ⟨rfl, rfl, g9⟩
              cases hr
              exact ⟨_, _, rfl, rfl, rfl, gl g9⟩
      · clear z19
        have hr := hk
        clear hk
        rcases o with o | o
        · obtain ⟨m_10, ho⟩ : ∃ z, z = o := ⟨_, rfl⟩
          subst ho
          rintro _ mm_2 t_4 ⟨rfl, rfl, g0, g1, g2, g3, g4, g5, g6, g14, g15⟩
          refine bk_norm ?_
          refine nx_norm (w_ops ?_)
          obtain ⟨x52, e52, z47⟩ := forceI_inv hr
          refine wo_step (s_pure (p_bin g15 rfl (b_add.trans (ci e52)))) (wo_step (v := (.i .i64 x52)) (s_pure (p_mv rfl)) (wo_nil ?_))
          cases z47
          exact ⟨_, _, rfl, rfl, rfl, gl rfl, gl g0, gl g1, gl g2, gl g3, gl g4, gl g5, gl g6, gl g14⟩
        · obtain ⟨c9_1, m_11⟩ := o
          rintro _ mm_3 t_5 ⟨rfl, rfl, g9⟩
          refine bk_ret ?_
          refine nx_ret ?_
          cases hr
          exact ⟨_, _, rfl, ne_norm_ret, rfl, rfl, gl g9⟩
    · refine w_condF rfl ?_
      refine w_exit ?_
      refine nx_exit ?_
      cases z5
      exact ⟨_, _, rfl, ne_norm_exit, rfl, rfl⟩
  · rcases o_2 with o_2 | o_2
    · obtain ⟨m_12, ho⟩ : ∃ z, z = o_2 := ⟨_, rfl⟩
      subst ho
      rintro _ mm_4 t_6 ⟨rfl, rfl⟩
      refine bk_hit ?_
      refine nx_norm (w_seq (w_ops (wo_step (v := (.b true)) (s_pure (p_mv rfl)) (wo_nil (nx_norm ?_)))))
      refine w_ret ?_
      exact qf ret_ok (rt rfl rn) z3
    · obtain ⟨c9_2, m_13⟩ := o_2
      rintro _ mm_5 t_7 ⟨rfl, rfl, g9⟩
      refine bk_ret ?_
      refine nx_ret ?_
      exact qf ret_ok (rt g9 rn) z3
/- (dibber/vine.rules).has -/
abbrev g92_I0 (v0 : AVal) (s1 : List UInt8) (x8 : Int) (s : Int × Mm) (m1 : Mm) (t1 : Tr) : Prop :=
  match s with
  | (x9, m_1) => m_1 = m1 ∧ t1.get 9 = (.i .i64 x9) ∧ t1.get 0 = v0 ∧ t1.get 1 = (.s s1) ∧ t1.get 8 = (.i .i64 x8)
abbrev g92_J0 (v0 : AVal) (s1 : List UInt8) (x8 : Int) (o : (Mm ⊕ (Bool × Mm))) (e : AExit) (m1 : Mm) (t1 : Tr) : Prop :=
  match o with
  | (.inl mo) => e = (.exit 0) ∧ mo = m1
  | (.inr (y4, mo)) => e = .ret ∧ mo = m1 ∧ t1.get 4 = (.b y4)
abbrev g92_J1 (v0 : AVal) (s1 : List UInt8) (x8 : Int) (x9 : Int) (m_2 : Mm) (o : Bool) (m1 : Mm) (t1 : Tr) : Prop :=
  match o with
  | c23 => m_2 = m1 ∧ t1.get 23 = (.b c23) ∧ t1.get 0 = v0 ∧ t1.get 1 = (.s s1) ∧ t1.get 8 = (.i .i64 x8) ∧ t1.get 9 = (.i .i64 x9)
def g92_b0 (M : Means) (ro : List ABlk) (v0 : AVal) (s1 : List UInt8) (x8 : Int) (x9 : Int) (m_1 : Mm) : Option ((Int × Mm) ⊕ ((Mm ⊕ (Bool × Mm)))) :=
  forceB (ltI x9 x8) fun c10 =>
  cond c10 (
    bindO (evP .e (.ixStr (.c (.s s1)) (.c (.i .i64 x9)))) fun v14 =>
    asI .u8 v14 fun x14 =>
    bindP (callM M.call m_1 54 [(.i .u8 x14)]) fun v15 m_2 =>
    asI .i64 v15 fun x15 =>
    forceB (ltI x15 0) fun c17 =>
    bindO (cond c17 (
      some true) (
      bindO (evP .e (.len false (.c v0))) fun v21 =>
      asI .i64 v21 fun x21 =>
      forceB (!ltI x15 x21) fun c22 =>
      some c22)) fun c23 =>
    cond c23 (
      some (.inr (.inr (false, m_2)))) (
      forceI (wr .i64 (x9 + 1)) fun x24 =>
      some (.inl (x24, m_2)))) (
    some (.inr (.inl m_1)))
def g92 (M : Means) (ro : List ABlk) (v0 : AVal) (s1 : List UInt8) (m0 : Mm) : Option (AVal × Heap × Nat × Nat) :=
  bindO (evP .e (.len true (.c (.s s1)))) fun v8 =>
  asI .i64 v8 fun x8 =>
  bindO (M.loop (S := Int × Mm) (R := (Mm ⊕ (Bool × Mm))) (fun s => g92_b0 M ro v0 s1 x8 s.1 s.2) (0, m0)) fun o_1 => match o_1 with
  | (.inl m_3) =>
    finM m0.h.length (tupA [(.b true)]) m_3
  | (.inr (c4, m_4)) =>
    finM m0.h.length (tupA [(.b c4)]) m_4
theorem g92_ok {ro : List ABlk} {O : Caller} {M : Means} (hM : M.Ok ⟨F, O⟩ ro) {v0 s1 h r} (ho : O 92 [v0, (.s s1)] h = none) (hr : g92 M ro v0 s1 ⟨h, h.length, h.length⟩ = some r) : callX ⟨F, O⟩ ro 92 [v0, (.s s1)] h = some r := by
  refine callX_of (F := ⟨F, O⟩) (fn := fn92) (g := g92 M ro v0 s1) ho rfl rfl hr ?_
  clear ho
  clear hr
  intro m0 t0 ht hr
  have g0 : t0.get 0 = v0 := ht 0
  have g1 : t0.get 1 = (.s s1) := ht 1
  clear ht
  unfold g92 at hr
  refine w_seq (w_ops (wo_step (v := (.b false)) (s_pure (p_mv rfl)) (wo_nil (nx_norm (w_seq (w_seq (w_ops (wo_step (s_pure (p_mv g1)) ?_))))))))
  obtain ⟨v8, e8, z1⟩ := bindO_inv hr
  obtain ⟨x8, rfl, z2⟩ := asI_inv z1
  refine wo_step (s_pure (o_len rfl e8)) (wo_step (v := (.i .i64 0)) (s_pure (p_mv rfl)) (wo_nil (nx_norm ?_)))
  refine w_block ?_
  obtain ⟨o_1, hl, z3⟩ := bindO_inv z2
  obtain ⟨n, hl⟩ := hM.loop _ _ _ hl
  refine jp_mono (w_loop _ (g92_I0 v0 s1 x8) (g92_J0 v0 s1 x8) ?_ n _ _ _ _ hl ⟨rfl, gl rfl, gl g0, gl g1, gl rfl⟩) ?_
  · clear z3 hl
    intro s mm_3 t_1 o hi hr
    obtain ⟨x9, m_1⟩ := s
    obtain ⟨rfl, g9, g0, g1, g8⟩ := hi
    unfold g92_b0 at hr
    refine w_seq (w_ops ?_)
    obtain ⟨c10, e10, z4⟩ := forceB_inv hr
    refine wo_step (s_pure (p_bin g9 g8 (b_lss.trans (cb e10)))) (wo_nil (nx_norm (w_seq ?_)))
    rcases cond_inv z4 with ⟨rfl, z5⟩ | ⟨rfl, z5⟩
    · refine w_condT rfl ?_
      refine w_skip (nx_norm (w_seq ?_))
      refine w_block ?_
      refine w_seq (w_ops (wo_step (s_pure (p_mv g9)) (wo_step (v := (.i .i64 x9)) (s_pure (p_mv rfl)) (wo_nil (nx_norm (w_seq (w_ops (wo_step (s_pure (p_mv g1)) (wo_step (v := (.i .i64 x9)) (s_pure (p_mv rfl)) ?_)))))))))
      obtain ⟨v14, e14, z6⟩ := bindO_inv z5
      obtain ⟨x14, rfl, z7⟩ := asI_inv z6
      refine wo_step (s_pure (o_ixStr rfl rfl e14)) ?_
      obtain ⟨v15, m_2, e15, z8⟩ := bindP_inv z7
      obtain ⟨x15, rfl, z9⟩ := asI_inv z8
      refine wo_step (s_call (mc rfl mn) (callM_le hM.call e15)) (wo_step (v := (.i .i64 x15)) (s_pure (p_mv rfl)) (wo_nil (nx_norm (w_seq (w_ops (wo_step (v := (.i .i64 x15)) (s_pure (p_mv rfl)) ?_))))))
      obtain ⟨c17, e17, z10⟩ := forceB_inv z9
      refine wo_step (s_pure (p_bin rfl rfl (b_lss.trans (cb e17)))) (wo_step (v := (.b c17)) (s_pure (p_mv rfl)) ?_)
      obtain ⟨o, z11, hk⟩ := bindO_inv z10
      refine wo_join 5 (g92_J1 v0 s1 x8 x9 m_2 o) ?_ ?_
      · clear hk
        rcases cond_inv z11 with ⟨rfl, z12⟩ | ⟨rfl, z12⟩
        · refine wo_skip (v := (.b true)) rfl rfl (wo_skip (v := (.b true)) rfl rfl (wo_skip (v := (.b true)) rfl rfl (wo_skip (v := (.b true)) rfl rfl (wo_step (v := (.b true)) (s_pure (p_pickT rfl rfl)) (wo_nil ?_)))))
          cases z12
          exact ⟨_, _, rfl, rfl, gl rfl, gl g0, gl g1, gl g8, gl g9⟩
        · refine wo_take (v := (.i .i64 x15)) rfl (s_pure (p_mv rfl)) (wo_take (v := v0) rfl (s_pure (p_mv g0)) ?_)
          obtain ⟨v21, e21, z13⟩ := bindO_inv z12
          obtain ⟨x21, rfl, z14⟩ := asI_inv z13
          refine wo_take (v := (.i .i64 x21)) rfl (s_pure (o_len rfl e21)) ?_
          obtain ⟨c22, e22, z15⟩ := forceB_inv z14
          refine wo_take (v := (.b c22)) rfl (s_pure (p_bin rfl rfl (b_geq.trans (cb e22)))) (wo_step (v := (.b c22)) (s_pure (p_pickF rfl rfl)) (wo_nil ?_))
          cases z15
          exact ⟨_, _, rfl, rfl, gl rfl, gl g0, gl g1, gl g8, gl g9⟩
      · clear z11
        have hr := hk
        clear hk
        obtain ⟨c23, ho⟩ : ∃ z, z = o := ⟨_, rfl⟩
        subst ho
        rintro mm t_2 ⟨rfl, g23, g0, g1, g8, g9⟩
        refine wo_nil (nx_norm ?_)
        rcases cond_inv hr with ⟨rfl, z16⟩ | ⟨rfl, z16⟩
        · refine w_condT g23 ?_
          refine w_seq (w_ops (wo_step (v := (.b false)) (s_pure (p_mv rfl)) (wo_nil (nx_norm ?_))))
          refine w_ret ?_
          refine bk_ret ?_
          refine nx_ret ?_
          cases z16
          exact ⟨_, _, rfl, ne_norm_ret, rfl, rfl, gl rfl⟩
        · refine w_condF g23 ?_
          refine w_skip ?_
          refine bk_norm ?_
          refine nx_norm (w_ops ?_)
          obtain ⟨x24, e24, z17⟩ := forceI_inv z16
          refine wo_step (s_pure (p_bin g9 rfl (b_add.trans (ci e24)))) (wo_step (v := (.i .i64 x24)) (s_pure (p_mv rfl)) (wo_nil ?_))
          cases z17
          exact ⟨_, _, rfl, rfl, rfl, gl rfl, gl g0, gl g1, gl g8⟩
    · refine w_condF rfl ?_
      refine w_exit ?_
      refine nx_exit ?_
      cases z5
      exact ⟨_, _, rfl, ne_norm_exit, rfl, rfl⟩
  · rcases o_1 with o_1 | o_1
    · obtain ⟨m_3, ho⟩ : ∃ z, z = o_1 := ⟨_, rfl⟩
      subst ho
      rintro _ mm_1 t_3 ⟨rfl, rfl⟩
      refine bk_hit ?_
      refine nx_norm (w_seq (w_ops (wo_step (v := (.b true)) (s_pure (p_mv rfl)) (wo_nil (nx_norm ?_)))))
      refine w_ret ?_
      exact qf ret_ok (rt rfl rn) z3
    · obtain ⟨c4, m_4⟩ := o_1
      rintro _ mm_2 t_4 ⟨rfl, rfl, g4⟩
      refine bk_ret ?_
      refine nx_ret ?_
      exact qf ret_ok (rt g4 rn) z3
/- strings.CutPrefix -/

def g97 (M : Means) (ro : List ABlk) (s0 : List UInt8) (s1 : List UInt8) (m0 : Mm) : Option (AVal × Heap × Nat × Nat) :=
  bindP (callM M.call m0 102 [(.s s0), (.s s1)]) fun v8 m_1 =>
  bindO (evP .e (.ext 0 (.c v8))) fun v9 =>
  asS v9 fun s9 =>
  bindO (evP .e (.ext 1 (.c v8))) fun v10 =>
  asB v10 fun c10 =>
  finM m0.h.length (tupA [(.s s9), (.b c10)]) m_1
theorem g97_ok {ro : List ABlk} {O : Caller} {M : Means} (hM : M.Ok ⟨F, O⟩ ro) {s0 s1 h r} (ho : O 97 [(.s s0), (.s s1)] h = none) (hr : g97 M ro s0 s1 ⟨h, h.length, h.length⟩ = some r) : callX ⟨F, O⟩ ro 97 [(.s s0), (.s s1)] h = some r := by
  refine callX_of (F := ⟨F, O⟩) (fn := fn97) (g := g97 M ro s0 s1) ho rfl rfl hr ?_
  clear ho
  clear hr
  intro m0 t0 ht hr
  have g0 : t0.get 0 = (.s s0) := ht 0
  have g1 : t0.get 1 = (.s s1) := ht 1
  clear ht
  unfold g97 at hr
  refine w_seq (w_ops (wo_step (v := (AVal.s [])) (s_pure (p_mv rfl)) (wo_step (v := (.b false)) (s_pure (p_mv rfl)) (wo_nil (nx_norm (w_seq (w_ops (wo_step (s_pure (p_mv g0)) (wo_step (s_pure (p_mv g1)) ?_)))))))))
  obtain ⟨v8, m_1, e8, z1⟩ := bindP_inv hr
  refine wo_step (s_call (mc rfl (mc rfl mn)) (callM_le hM.call e8)) ?_
  obtain ⟨v9, e9, z2⟩ := bindO_inv z1
  obtain ⟨s9, rfl, z3⟩ := asS_inv z2
  refine wo_step (s_pure (o_ext rfl e9)) ?_
  obtain ⟨v10, e10, z4⟩ := bindO_inv z3
  obtain ⟨c10, rfl, z5⟩ := asB_inv z4
  refine wo_step (s_pure (o_ext rfl e10)) (wo_step (v := (.s s9)) (s_pure (p_mv rfl)) (wo_step (v := (.b c10)) (s_pure (p_mv rfl)) (wo_nil (nx_norm ?_))))
  refine w_ret ?_
  exact qf ret_ok (rt rfl (rt rfl rn)) z5
/- (dibber/vine.rules).endless-1 -/
abbrev g98_I0 (v0 : AVal) (v1 : AVal) (s : AVal × Int × Mm) (m1 : Mm) (t1 : Tr) : Prop :=
  match s with
  | (v4, x5, m_2) => m_2 = m1 ∧ t1.get 4 = v4 ∧ t1.get 5 = (.i .i64 x5) ∧ t1.get 0 = v0 ∧ t1.get 1 = v1
abbrev g98_J0 (v0 : AVal) (v1 : AVal) (o : (Mm ⊕ Mm)) (e : AExit) (m1 : Mm) (t1 : Tr) : Prop :=
  match o with
  | (.inl mo) => e = (.exit 0) ∧ mo = m1
  | (.inr mo) => e = .ret ∧ mo = m1
abbrev g98_J1 (v0 : AVal) (v1 : AVal) (x5 : Int) (o : (AVal × Mm)) (e : AExit) (m1 : Mm) (t1 : Tr) : Prop :=
  match o with
  | (y4, mo) => e = .norm ∧ mo = m1 ∧ t1.get 4 = y4 ∧ t1.get 0 = v0 ∧ t1.get 1 = v1 ∧ t1.get 5 = (.i .i64 x5)
def g98_b0 (M : Means) (ro : List ABlk) (v0 : AVal) (v1 : AVal) (v4 : AVal) (x5 : Int) (m_2 : Mm) : Option ((AVal × Int × Mm) ⊕ ((Mm ⊕ Mm))) :=
  forceB (ltI x5 100000) fun c12 =>
  cond c12 (
    forceB (ltI 0 x5) fun c16 =>
    bindO (α := (AVal × Mm)) (
      cond c16 (
        bindO (some (Mm.base m_2)) fun m_3 =>
        bindO (ldA ro m_2.h true 1 v1) fun v18 =>
        bindO (evP .e (.ixS 1 (.c v4) (.c (.i .i64 x5)))) fun v21 =>
        bindO (ldM ro m_3 true 1 v21) fun v22 =>
        asI .u8 v22 fun x22 =>
        bindP (callM M.call m_3 54 [(.i .u8 x22)]) fun v23 m_4 =>
        asI .i64 v23 fun x23 =>
        chk (!Nat.blt m_4.lw m_2.h.length) <|
        bindO (evP .e (.ixS 1 (.c v18) (.c (.i .i64 x23)))) fun v24 =>
        bindO (ldM ro m_4 true 1 v24) fun v25 =>
        asS v25 fun s25 =>
        bindP (stepM ro m_4 (.app 5 1 1 [(AVal.i IntKind.u8 0)] (.c v4) (.c (.s s25)))) fun v26 m_5 =>
        bindO (some (Mm.join m_2 m_5)) fun m_6 =>
        some (v26, m_6)) (
        some (v4, m_2))) fun ⟨v4_1, m_7⟩ =>
    bindO (evP .e (.ixS 1 (.c v4_1) (.c (.i .i64 x5)))) fun v31 =>
    bindO (ldM ro m_7 true 1 v31) fun v32 =>
    asI .u8 v32 fun x32 =>
    bindP (callyM M.call M.round m_7 v0 [(.i .i64 x5), (.i .u8 x32)]) fun v33 m_8 =>
    asB v33 fun c33 =>
    forceB (!c33) fun c34 =>
    cond c34 (
      some (.inr (.inr m_8))) (
      forceI (wr .i64 (x5 + 1)) fun x14 =>
      some (.inl (v4_1, x14, m_8)))) (
    some (.inr (.inl m_2)))
def g98 (M : Means) (ro : List ABlk) (v0 : AVal) (v1 : AVal) (v2 : AVal) (m0 : Mm) : Option (AVal × Heap × Nat × Nat) :=
  bindO (ldM ro m0 true 1 v1) fun v6 =>
  bindO (ldM ro m0 true 1 v2) fun v7 =>
  asI .i64 v7 fun x7 =>
  bindO (evP .e (.ixS 1 (.c v6) (.c (.i .i64 x7)))) fun v8 =>
  bindO (ldM ro m0 true 1 v8) fun v9 =>
  asS v9 fun s9 =>
  bindP (stepM ro m0 (.stb 5 (.c (.s s9)))) fun v10 m_1 =>
  bindO (M.loop (S := AVal × Int × Mm) (R := (Mm ⊕ Mm)) (fun s => g98_b0 M ro v0 v1 s.1 s.2.1 s.2.2) (v10, 0, m_1)) fun o_1 => match o_1 with
  | (.inl m_9) =>
    finM m0.h.length (tupA []) m_9
  | (.inr m_10) =>
    finM m0.h.length (tupA []) m_10
theorem g98_ok {ro : List ABlk} {O : Caller} {M : Means} (hM : M.Ok ⟨F, O⟩ ro) {v0 v1 v2 h r} (ho : O 98 [v0, v1, v2] h = none) (hr : g98 M ro v0 v1 v2 ⟨h, h.length, h.length⟩ = some r) : callX ⟨F, O⟩ ro 98 [v0, v1, v2] h = some r := by
  refine callX_of (F := ⟨F, O⟩) (fn := fn98) (g := g98 M ro v0 v1 v2) ho rfl rfl hr ?_
  clear ho
  clear hr
  intro m0 t0 ht hr
  have g0 : t0.get 0 = v0 := ht 0
  have g1 : t0.get 1 = v1 := ht 1
  have g2 : t0.get 2 = v2 := ht 2
  clear ht
  unfold g98 at hr
  refine w_seq (w_ops ?_)
  obtain ⟨v6, e6, z1⟩ := bindO_inv hr
  refine wo_step (s_ld g1 e6) ?_
  obtain ⟨v7, e7, z2⟩ := bindO_inv z1
  obtain ⟨x7, rfl, z3⟩ := asI_inv z2
  refine wo_step (s_ld g2 e7) ?_
  obtain ⟨v8, e8, z4⟩ := bindO_inv z3
  refine wo_step (s_pure (o_ixS rfl rfl e8)) ?_
  obtain ⟨v9, e9, z5⟩ := bindO_inv z4
  obtain ⟨s9, rfl, z6⟩ := asS_inv z5
  refine wo_step (s_ld rfl e9) ?_
  obtain ⟨v10, m_1, e10, z7⟩ := bindP_inv z6
  refine wo_step (s_stb rfl e10) (wo_step (v := v10) (s_pure (p_mv rfl)) (wo_nil (nx_norm (w_seq (w_ops (wo_step (v := (.i .i64 0)) (s_pure (p_mv rfl)) (wo_nil (nx_norm ?_))))))))
  refine w_block ?_
  obtain ⟨o_1, hl, z8⟩ := bindO_inv z7
  obtain ⟨n, hl⟩ := hM.loop _ _ _ hl
  refine jp_mono (w_loop _ (g98_I0 v0 v1) (g98_J0 v0 v1) ?_ n _ _ _ _ hl ⟨rfl, gl rfl, gl rfl, gl g0, gl g1⟩) ?_
  · clear z8 hl
    intro s mm_3 t_1 o hi hr
    obtain ⟨v4, x5, m_2⟩ := s
    obtain ⟨rfl, g4, g5, g0, g1⟩ := hi
    unfold g98_b0 at hr
    refine w_seq (w_seq (w_ops (wo_step (s_pure (p_mv g5)) ?_)))
    obtain ⟨c12, e12, z9⟩ := forceB_inv hr
    refine wo_step (s_pure (p_bin rfl rfl (b_lss.trans (cb e12)))) (wo_nil (nx_norm ?_))
    rcases cond_inv z9 with ⟨rfl, z10⟩ | ⟨rfl, z10⟩
    · refine w_condT rfl ?_
      refine w_skip (nx_norm (w_seq ?_))
      refine w_block ?_
      refine w_seq (w_seq (w_ops (wo_step (s_pure (p_mv g5)) ?_)))
      obtain ⟨c16, e16, z11⟩ := forceB_inv z10
      refine wo_step (s_pure (p_bin rfl rfl (b_gtr.trans (cb e16)))) (wo_nil (nx_norm ?_))
      obtain ⟨o, z12, hk⟩ := bindO_inv z11
      refine jp_mono (J := g98_J1 v0 v1 x5 o) ?_ ?_
      · clear hk
        rcases cond_inv z12 with ⟨rfl, z13⟩ | ⟨rfl, z13⟩
        · refine w_condT rfl ?_
          obtain ⟨m_3, ef, z14⟩ := bindO_inv z13
          refine w_flt (af := true) rfl ef ?_
          refine wf_step (v := v4) (f_P rfl (s_pure (p_mv g4))) ?_
          obtain ⟨v18, e18, z15⟩ := bindO_inv z14
          refine wf_step (v := v18) (f_ld g1 e18) ?_
          refine wf_step (v := v4) (f_P rfl (s_pure (p_mv g4))) ?_
          refine wf_step (v := (.i .i64 x5)) (f_P rfl (s_pure (p_mv g5))) ?_
          obtain ⟨v21, e21, z16⟩ := bindO_inv z15
          refine wf_step (v := v21) (f_P rfl (s_pure (o_ixS rfl rfl e21))) ?_
          obtain ⟨v22, e22, z17⟩ := bindO_inv z16
          obtain ⟨x22, rfl, z18⟩ := asI_inv z17
          refine wf_step (v := (.i .u8 x22)) (f_P rfl (s_ld rfl e22)) ?_
          obtain ⟨v23, m_4, e23, z19⟩ := bindP_inv z18
          obtain ⟨x23, rfl, z20⟩ := asI_inv z19
          obtain ⟨hc23, z21⟩ := chk_inv z20
          refine wf_step (v := (.i .i64 x23)) (f_M hc23 (s_call (mc rfl mn) (callM_le hM.call e23))) ?_
          obtain ⟨v24, e24, z22⟩ := bindO_inv z21
          refine wf_step (v := v24) (f_P rfl (s_pure (o_ixS rfl rfl e24))) ?_
          obtain ⟨v25, e25, z23⟩ := bindO_inv z22
          obtain ⟨s25, rfl, z24⟩ := asS_inv z23
          refine wf_step (v := (.s s25)) (f_P rfl (s_ld rfl e25)) ?_
          obtain ⟨v26, m_5, e26, z25⟩ := bindP_inv z24
          refine wf_step (v := v26) (f_F rfl (s_app rfl rfl e26)) ?_
          refine wf_step (v := v26) (f_P rfl (s_pure (p_mv rfl))) ?_
          obtain ⟨m_6, ef_1, z26⟩ := bindO_inv z25
          refine wf_end ef_1 ?_
          cases z26
          exact ⟨_, _, rfl, rfl, rfl, gl rfl, gl g0, gl g1, gl g5⟩
        · refine w_condF rfl ?_
          refine w_skip ?_
          cases z13
          exact ⟨_, _, rfl, rfl, rfl, gl g4, gl g0, gl g1, gl g5⟩
      · clear z12
        have hr := hk
        clear hk
        obtain ⟨v4_1, m_7⟩ := o
        rintro _ mm t_2 ⟨rfl, rfl, g4, g0, g1, g5⟩
        refine nx_norm (w_seq ?_)
        refine w_opsY ?_
        refine wy_step (v := v0) (y_C (s_pure (p_mv g0))) ?_
        refine wy_step (v := (.i .i64 x5)) (y_C (s_pure (p_mv g5))) ?_
        refine wy_step (v := v4_1) (y_C (s_pure (p_mv g4))) ?_
        refine wy_step (v := (.i .i64 x5)) (y_C (s_pure (p_mv g5))) ?_
        obtain ⟨v31, e31, z27⟩ := bindO_inv hr
        refine wy_step (v := v31) (y_C (s_pure (o_ixS rfl rfl e31))) ?_
        obtain ⟨v32, e32, z28⟩ := bindO_inv z27
        obtain ⟨x32, rfl, z29⟩ := asI_inv z28
        refine wy_step (v := (.i .u8 x32)) (y_C (s_ld rfl e32)) ?_
        obtain ⟨v33, m_8, e33, z30⟩ := bindP_inv z29
        obtain ⟨c33, rfl, z31⟩ := asB_inv z30
        refine wy_step (v := (.b c33)) (y_callv rfl (mc rfl (mc rfl mn)) (callyM_le hM.call hM.round e33)) ?_
        obtain ⟨c34, e34, z32⟩ := forceB_inv z31
        refine wy_step (v := (.b c34)) (y_C (s_pure ((p_not rfl).trans (cb e34)))) ?_
        refine wy_nil ?_
        refine nx_norm ?_
        rcases cond_inv z32 with ⟨rfl, z33⟩ | ⟨rfl, z33⟩
        · refine w_condT rfl ?_
          refine w_ret ?_
          refine bk_ret ?_
          refine nx_ret ?_
          cases z33
          exact ⟨_, _, rfl, ne_norm_ret, rfl, rfl⟩
        · refine w_condF rfl ?_
          refine w_skip ?_
          refine bk_norm ?_
          refine nx_norm (w_ops (wo_step (s_pure (p_mv g5)) ?_))
          obtain ⟨x14, e14, z34⟩ := forceI_inv z33
          refine wo_step (s_pure (p_bin rfl rfl (b_add.trans (ci e14)))) (wo_step (v := (.i .i64 x14)) (s_pure (p_mv rfl)) (wo_nil ?_))
          cases z34
          exact ⟨_, _, rfl, rfl, rfl, gl g4, gl rfl, gl g0, gl g1⟩
    · refine w_condF rfl ?_
      refine w_exit ?_
      refine nx_exit ?_
      cases z10
      exact ⟨_, _, rfl, ne_norm_exit, rfl, rfl⟩
  · rcases o_1 with o_1 | o_1
    · obtain ⟨m_9, ho⟩ : ∃ z, z = o_1 := ⟨_, rfl⟩
      subst ho
      rintro _ mm_1 t_3 ⟨rfl, rfl⟩
      refine bk_hit ?_
      exact qf norm_ok rn z8
    · obtain ⟨m_10, ho⟩ : ∃ z, z = o_1 := ⟨_, rfl⟩
      subst ho
      rintro _ mm_2 t_4 ⟨rfl, rfl⟩
      refine bk_ret ?_
      exact qf ret_ok rn z8
/- internal/stringslite.CutPrefix -/

def g102 (M : Means) (ro : List ABlk) (s0 : List UInt8) (s1 : List UInt8) (m0 : Mm) : Option (AVal × Heap × Nat × Nat) :=
  bindP (callM M.call m0 104 [(.s s0), (.s s1)]) fun v8 m_1 =>
  asB v8 fun c8 =>
  forceB (!c8) fun c9 =>
  cond c9 (
    finM m0.h.length (tupA [(.s s0), (.b false)]) m_1) (
    bindO (evP .e (.len true (.c (.s s1)))) fun v13 =>
    asI .i64 v13 fun x13 =>
    bindO (evP .e (.slStr (.c (.s s0)) (some (.c (.i .i64 x13))) none)) fun v14 =>
    asS v14 fun s14 =>
    finM m0.h.length (tupA [(.s s14), (.b true)]) m_1)
theorem g102_ok {ro : List ABlk} {O : Caller} {M : Means} (hM : M.Ok ⟨F, O⟩ ro) {s0 s1 h r} (ho : O 102 [(.s s0), (.s s1)] h = none) (hr : g102 M ro s0 s1 ⟨h, h.length, h.length⟩ = some r) : callX ⟨F, O⟩ ro 102 [(.s s0), (.s s1)] h = some r := by
  refine callX_of (F := ⟨F, O⟩) (fn := fn102) (g := g102 M ro s0 s1) ho rfl rfl hr ?_
  clear ho
  clear hr
  intro m0 t0 ht hr
  have g0 : t0.get 0 = (.s s0) := ht 0
  have g1 : t0.get 1 = (.s s1) := ht 1
  clear ht
  unfold g102 at hr
  refine w_seq (w_ops (wo_step (v := (AVal.s [])) (s_pure (p_mv rfl)) (wo_step (v := (.b false)) (s_pure (p_mv rfl)) (wo_nil (nx_norm (w_seq (w_seq (w_ops (wo_step (s_pure (p_mv g0)) (wo_step (s_pure (p_mv g1)) ?_))))))))))
  obtain ⟨v8, m_1, e8, z1⟩ := bindP_inv hr
  obtain ⟨c8, rfl, z2⟩ := asB_inv z1
  refine wo_step (s_call (mc rfl (mc rfl mn)) (callM_le hM.call e8)) ?_
  obtain ⟨c9, e9, z3⟩ := forceB_inv z2
  refine wo_step (s_pure ((p_not rfl).trans (cb e9))) (wo_nil (nx_norm ?_))
  rcases cond_inv z3 with ⟨rfl, z4⟩ | ⟨rfl, z4⟩
  · refine w_condT rfl ?_
    refine w_seq (w_ops (wo_step (s_pure (p_mv g0)) (wo_step (v := (.s s0)) (s_pure (p_mv rfl)) (wo_step (v := (.b false)) (s_pure (p_mv rfl)) (wo_nil (nx_norm ?_))))))
    refine w_ret ?_
    refine nx_ret ?_
    exact qf ret_ok (rt rfl (rt rfl rn)) z4
  · refine w_condF rfl ?_
    refine w_skip (nx_norm (w_seq (w_ops (wo_step (s_pure (p_mv g0)) (wo_step (s_pure (p_mv g1)) ?_)))))
    obtain ⟨v13, e13, z5⟩ := bindO_inv z4
    obtain ⟨x13, rfl, z6⟩ := asI_inv z5
    refine wo_step (s_pure (o_len rfl e13)) ?_
    obtain ⟨v14, e14, z7⟩ := bindO_inv z6
    obtain ⟨s14, rfl, z8⟩ := asS_inv z7
    refine wo_step (s_pure (o_slStr rfl (os rfl) on e14)) (wo_step (v := (.s s14)) (s_pure (p_mv rfl)) (wo_step (v := (.b true)) (s_pure (p_mv rfl)) (wo_nil (nx_norm ?_))))
    refine w_ret ?_
    exact qf ret_ok (rt rfl (rt rfl rn)) z8
/- internal/stringslite.HasPrefix -/
abbrev g104_J0 (m0 : Mm) (o : Bool) (m1 : Mm) (t1 : Tr) : Prop :=
  match o with
  | c17 => m0 = m1 ∧ t1.get 17 = (.b c17)
def g104 (M : Means) (ro : List ABlk) (s0 : List UInt8) (s1 : List UInt8) (m0 : Mm) : Option (AVal × Heap × Nat × Nat) :=
  bindO (evP .e (.len true (.c (.s s0)))) fun v6 =>
  asI .i64 v6 fun x6 =>
  bindO (evP .e (.len true (.c (.s s1)))) fun v8 =>
  asI .i64 v8 fun x8 =>
  forceB (!ltI x6 x8) fun c9 =>
  bindO (cond c9 (
    bindO (evP .e (.len true (.c (.s s1)))) fun v13 =>
    asI .i64 v13 fun x13 =>
    bindO (evP .e (.slStr (.c (.s s0)) none (some (.c (.i .i64 x13))))) fun v14 =>
    asS v14 fun s14 =>
    bindO (evP .e (.sbin BinOp.eql (.c (.s s14)) (.c (.s s1)))) fun v16 =>
    asB v16 fun c16 =>
    some c16) (
    some false)) fun c17 =>
  finM m0.h.length (tupA [(.b c17)]) m0
theorem g104_ok {ro : List ABlk} {O : Caller} {M : Means} (hM : M.Ok ⟨F, O⟩ ro) {s0 s1 h r} (ho : O 104 [(.s s0), (.s s1)] h = none) (hr : g104 M ro s0 s1 ⟨h, h.length, h.length⟩ = some r) : callX ⟨F, O⟩ ro 104 [(.s s0), (.s s1)] h = some r := by
  refine callX_of (F := ⟨F, O⟩) (fn := fn104) (g := g104 M ro s0 s1) ho rfl rfl hr ?_
  clear ho
  clear hr
  intro m0 t0 ht hr
  have g0 : t0.get 0 = (.s s0) := ht 0
  have g1 : t0.get 1 = (.s s1) := ht 1
  clear ht
  unfold g104 at hr
  refine w_seq (w_ops (wo_step (v := (.b false)) (s_pure (p_mv rfl)) (wo_nil (nx_norm (w_seq (w_ops (wo_step (s_pure (p_mv g0)) ?_)))))))
  obtain ⟨v6, e6, z1⟩ := bindO_inv hr
  obtain ⟨x6, rfl, z2⟩ := asI_inv z1
  refine wo_step (s_pure (o_len rfl e6)) (wo_step (s_pure (p_mv g1)) ?_)
  obtain ⟨v8, e8, z3⟩ := bindO_inv z2
  obtain ⟨x8, rfl, z4⟩ := asI_inv z3
  refine wo_step (s_pure (o_len rfl e8)) ?_
  obtain ⟨c9, e9, z5⟩ := forceB_inv z4
  refine wo_step (s_pure (p_bin rfl rfl (b_geq.trans (cb e9)))) (wo_step (v := (.b c9)) (s_pure (p_mv rfl)) ?_)
  obtain ⟨o, z6, hk⟩ := bindO_inv z5
  refine wo_join 7 (g104_J0 m0 o) ?_ ?_
  · clear hk
    rcases cond_inv z6 with ⟨rfl, z7⟩ | ⟨rfl, z7⟩
    · refine wo_take (v := (.s s0)) rfl (s_pure (p_mv g0)) (wo_take (v := (.s s1)) rfl (s_pure (p_mv g1)) ?_)
      obtain ⟨v13, e13, z8⟩ := bindO_inv z7
      obtain ⟨x13, rfl, z9⟩ := asI_inv z8
      refine wo_take (v := (.i .i64 x13)) rfl (s_pure (o_len rfl e13)) ?_
      obtain ⟨v14, e14, z10⟩ := bindO_inv z9
      obtain ⟨s14, rfl, z11⟩ := asS_inv z10
      refine wo_take (v := (.s s14)) rfl (s_pure (o_slStr rfl on (os rfl) e14)) (wo_take (v := (.s s1)) rfl (s_pure (p_mv g1)) ?_)
      obtain ⟨v16, e16, z12⟩ := bindO_inv z11
      obtain ⟨c16, rfl, z13⟩ := asB_inv z12
      refine wo_take (v := (.b c16)) rfl (s_pure (o_sbin rfl rfl e16)) (wo_step (v := (.b c16)) (s_pure (p_pickT rfl rfl)) (wo_nil ?_))
      cases z13
      exact ⟨_, _, rfl, rfl, gl rfl⟩
    · refine wo_skip (v := (.b false)) rfl rfl (wo_skip (v := (.b false)) rfl rfl (wo_skip (v := (.b false)) rfl rfl (wo_skip (v := (.b false)) rfl rfl (wo_skip (v := (.b false)) rfl rfl (wo_skip (v := (.b false)) rfl rfl (wo_step (v := (.b false)) (s_pure (p_pickF rfl rfl)) (wo_nil ?_)))))))
      cases z7
      exact ⟨_, _, rfl, rfl, gl rfl⟩
  · clear z6
    have hr := hk
    clear hk
    obtain ⟨c17, ho⟩ : ∃ z, z = o := ⟨_, rfl⟩
    subst ho
    rintro mm t_1 ⟨rfl, g17⟩
    refine wo_step (s_pure (p_mv g17)) (wo_nil (nx_norm ?_))
    refine w_ret ?_
    exact qf ret_ok (rt rfl rn) hr
/- (dibber/vine.many).times -/

def g126 (M : Means) (ro : List ABlk) (x0 : Int) (x1 : Int) (m0 : Mm) : Option (AVal × Heap × Nat × Nat) :=
  bindP (callM M.call m0 127 [(.i .u64 x0), (.i .u64 x1)]) fun v10 m_1 =>
  bindO (evP .e (.ext 0 (.c v10))) fun v11 =>
  asI .u64 v11 fun x11 =>
  bindO (evP .e (.ext 1 (.c v10))) fun v12 =>
  asI .u64 v12 fun x12 =>
  forceB (ltI 0 x11) fun c14 =>
  cond c14 (
    finM m0.h.length (tupA [(.i .u64 9223372036854775808)]) m_1) (
    forceI (mxV false x12 9223372036854775808) fun x16 =>
    finM m0.h.length (tupA [(.i .u64 x16)]) m_1)
theorem g126_ok {ro : List ABlk} {O : Caller} {M : Means} (hM : M.Ok ⟨F, O⟩ ro) {x0 x1 h r} (ho : O 126 [(.i .u64 x0), (.i .u64 x1)] h = none) (hr : g126 M ro x0 x1 ⟨h, h.length, h.length⟩ = some r) : callX ⟨F, O⟩ ro 126 [(.i .u64 x0), (.i .u64 x1)] h = some r := by
  refine callX_of (F := ⟨F, O⟩) (fn := fn126) (g := g126 M ro x0 x1) ho rfl rfl hr ?_
  clear ho
  clear hr
  intro m0 t0 ht hr
  have g0 : t0.get 0 = (.i .u64 x0) := ht 0
  have g1 : t0.get 1 = (.i .u64 x1) := ht 1
  clear ht
  unfold g126 at hr
  refine w_seq (w_ops (wo_step (v := (.i .u64 0)) (s_pure (p_mv rfl)) (wo_nil (nx_norm (w_seq (w_ops (wo_step (s_pure (p_mv g0)) (wo_step (s_pure (p_mv g1)) ?_))))))))
  obtain ⟨v10, m_1, e10, z1⟩ := bindP_inv hr
  refine wo_step (s_call (mc rfl (mc rfl mn)) (callM_le hM.call e10)) (wo_step (v := v10) (s_pure (p_mv rfl)) ?_)
  obtain ⟨v11, e11, z2⟩ := bindO_inv z1
  obtain ⟨x11, rfl, z3⟩ := asI_inv z2
  refine wo_step (s_pure (o_ext rfl e11)) ?_
  obtain ⟨v12, e12, z4⟩ := bindO_inv z3
  obtain ⟨x12, rfl, z5⟩ := asI_inv z4
  refine wo_step (s_pure (o_ext rfl e12)) (wo_step (v := (.i .u64 x11)) (s_pure (p_mv rfl)) (wo_step (v := (.i .u64 x12)) (s_pure (p_mv rfl)) (wo_nil (nx_norm (w_seq (w_seq (w_ops (wo_step (v := (.i .u64 x11)) (s_pure (p_mv rfl)) ?_))))))))
  obtain ⟨c14, e14, z6⟩ := forceB_inv z5
  refine wo_step (s_pure (p_bin rfl rfl (b_gtr.trans (cb e14)))) (wo_nil (nx_norm ?_))
  rcases cond_inv z6 with ⟨rfl, z7⟩ | ⟨rfl, z7⟩
  · refine w_condT rfl ?_
    refine w_seq (w_ops (wo_step (v := (.i .u64 9223372036854775808)) (s_pure (p_mv rfl)) (wo_nil (nx_norm ?_))))
    refine w_ret ?_
    refine nx_ret ?_
    exact qf ret_ok (rt rfl rn) z7
  · refine w_condF rfl ?_
    refine w_skip (nx_norm (w_seq (w_ops (wo_step (v := (.i .u64 x12)) (s_pure (p_mv rfl)) ?_))))
    obtain ⟨x16, e16, z8⟩ := forceI_inv z7
    refine wo_step (s_pure ((p_mx rfl rfl).trans (ci e16))) (wo_step (v := (.i .u64 x16)) (s_pure (p_mv rfl)) (wo_nil (nx_norm ?_)))
    refine w_ret ?_
    exact qf ret_ok (rt rfl rn) z8
/- math/bits.Mul64 -/

def g127 (M : Means) (ro : List ABlk) (x0 : Int) (x1 : Int) (m0 : Mm) : Option (AVal × Heap × Nat × Nat) :=
  forceI (bitV .and .u64 x0 4294967295) fun x15 =>
  forceI (shrV .u64 x0 32) fun x17 =>
  forceI (bitV .and .u64 x1 4294967295) fun x19 =>
  forceI (shrV .u64 x1 32) fun x21 =>
  forceI (wr .u64 (x15 * x19)) fun x24 =>
  forceI (wr .u64 (x17 * x19)) fun x27 =>
  forceI (shrV .u64 x24 32) fun x29 =>
  forceI (wr .u64 (x27 + x29)) fun x30 =>
  forceI (bitV .and .u64 x30 4294967295) fun x32 =>
  forceI (shrV .u64 x30 32) fun x34 =>
  forceI (wr .u64 (x15 * x21)) fun x38 =>
  forceI (wr .u64 (x32 + x38)) fun x39 =>
  forceI (wr .u64 (x17 * x21)) fun x42 =>
  forceI (wr .u64 (x42 + x34)) fun x44 =>
  forceI (shrV .u64 x39 32) fun x46 =>
  forceI (wr .u64 (x44 + x46)) fun x47 =>
  forceI (wr .u64 (x0 * x1)) fun x50 =>
  finM m0.h.length (tupA [(.i .u64 x47), (.i .u64 x50)]) m0
theorem g127_ok {ro : List ABlk} {O : Caller} {M : Means} (hM : M.Ok ⟨F, O⟩ ro) {x0 x1 h r} (ho : O 127 [(.i .u64 x0), (.i .u64 x1)] h = none) (hr : g127 M ro x0 x1 ⟨h, h.length, h.length⟩ = some r) : callX ⟨F, O⟩ ro 127 [(.i .u64 x0), (.i .u64 x1)] h = some r := by
  refine callX_of (F := ⟨F, O⟩) (fn := fn127) (g := g127 M ro x0 x1) ho rfl rfl hr ?_
  clear ho
  clear hr
  intro m0 t0 ht hr
  have g0 : t0.get 0 = (.i .u64 x0) := ht 0
  have g1 : t0.get 1 = (.i .u64 x1) := ht 1
  clear ht
  unfold g127 at hr
  refine w_seq (w_ops (wo_step (v := (.i .u64 0)) (s_pure (p_mv rfl)) (wo_step (v := (.i .u64 0)) (s_pure (p_mv rfl)) (wo_nil (nx_norm (w_seq (w_ops (wo_step (s_pure (p_mv g0)) ?_))))))))
  obtain ⟨x15, e15, z1⟩ := forceI_inv hr
  refine wo_step (s_pure (p_bin rfl rfl (b_and.trans (ci e15)))) (wo_step (v := (.i .u64 x15)) (s_pure (p_mv rfl)) (wo_nil (nx_norm (w_seq (w_ops (wo_step (s_pure (p_mv g0)) ?_))))))
  obtain ⟨x17, e17, z2⟩ := forceI_inv z1
  refine wo_step (s_pure (p_bin rfl rfl ((b_shr rfl).trans (ci e17)))) (wo_step (v := (.i .u64 x17)) (s_pure (p_mv rfl)) (wo_nil (nx_norm (w_seq (w_ops (wo_step (s_pure (p_mv g1)) ?_))))))
  obtain ⟨x19, e19, z3⟩ := forceI_inv z2
  refine wo_step (s_pure (p_bin rfl rfl (b_and.trans (ci e19)))) (wo_step (v := (.i .u64 x19)) (s_pure (p_mv rfl)) (wo_nil (nx_norm (w_seq (w_ops (wo_step (s_pure (p_mv g1)) ?_))))))
  obtain ⟨x21, e21, z4⟩ := forceI_inv z3
  refine wo_step (s_pure (p_bin rfl rfl ((b_shr rfl).trans (ci e21)))) (wo_step (v := (.i .u64 x21)) (s_pure (p_mv rfl)) (wo_nil (nx_norm (w_seq (w_ops (wo_step (v := (.i .u64 x15)) (s_pure (p_mv rfl)) (wo_step (v := (.i .u64 x19)) (s_pure (p_mv rfl)) ?_)))))))
  obtain ⟨x24, e24, z5⟩ := forceI_inv z4
  refine wo_step (s_pure (p_bin rfl rfl (b_mul.trans (ci e24)))) (wo_step (v := (.i .u64 x24)) (s_pure (p_mv rfl)) (wo_nil (nx_norm (w_seq (w_ops (wo_step (v := (.i .u64 x17)) (s_pure (p_mv rfl)) (wo_step (v := (.i .u64 x19)) (s_pure (p_mv rfl)) ?_)))))))
  obtain ⟨x27, e27, z6⟩ := forceI_inv z5
  refine wo_step (s_pure (p_bin rfl rfl (b_mul.trans (ci e27)))) (wo_step (v := (.i .u64 x24)) (s_pure (p_mv rfl)) ?_)
  obtain ⟨x29, e29, z7⟩ := forceI_inv z6
  refine wo_step (s_pure (p_bin rfl rfl ((b_shr rfl).trans (ci e29)))) ?_
  obtain ⟨x30, e30, z8⟩ := forceI_inv z7
  refine wo_step (s_pure (p_bin rfl rfl (b_add.trans (ci e30)))) (wo_step (v := (.i .u64 x30)) (s_pure (p_mv rfl)) (wo_nil (nx_norm (w_seq (w_ops (wo_step (v := (.i .u64 x30)) (s_pure (p_mv rfl)) ?_))))))
  obtain ⟨x32, e32, z9⟩ := forceI_inv z8
  refine wo_step (s_pure (p_bin rfl rfl (b_and.trans (ci e32)))) (wo_step (v := (.i .u64 x32)) (s_pure (p_mv rfl)) (wo_nil (nx_norm (w_seq (w_ops (wo_step (v := (.i .u64 x30)) (s_pure (p_mv rfl)) ?_))))))
  obtain ⟨x34, e34, z10⟩ := forceI_inv z9
  refine wo_step (s_pure (p_bin rfl rfl ((b_shr rfl).trans (ci e34)))) (wo_step (v := (.i .u64 x34)) (s_pure (p_mv rfl)) (wo_nil (nx_norm (w_seq (w_ops (wo_step (v := (.i .u64 x32)) (s_pure (p_mv rfl)) (wo_step (v := (.i .u64 x15)) (s_pure (p_mv rfl)) (wo_step (v := (.i .u64 x21)) (s_pure (p_mv rfl)) ?_))))))))
  obtain ⟨x38, e38, z11⟩ := forceI_inv z10
  refine wo_step (s_pure (p_bin rfl rfl (b_mul.trans (ci e38)))) ?_
  obtain ⟨x39, e39, z12⟩ := forceI_inv z11
  refine wo_step (s_pure (p_bin rfl rfl (b_add.trans (ci e39)))) (wo_step (v := (.i .u64 x39)) (s_pure (p_mv rfl)) (wo_nil (nx_norm (w_seq (w_ops (wo_step (v := (.i .u64 x17)) (s_pure (p_mv rfl)) (wo_step (v := (.i .u64 x21)) (s_pure (p_mv rfl)) ?_)))))))
  obtain ⟨x42, e42, z13⟩ := forceI_inv z12
  refine wo_step (s_pure (p_bin rfl rfl (b_mul.trans (ci e42)))) (wo_step (v := (.i .u64 x34)) (s_pure (p_mv rfl)) ?_)
  obtain ⟨x44, e44, z14⟩ := forceI_inv z13
  refine wo_step (s_pure (p_bin rfl rfl (b_add.trans (ci e44)))) (wo_step (v := (.i .u64 x39)) (s_pure (p_mv rfl)) ?_)
  obtain ⟨x46, e46, z15⟩ := forceI_inv z14
  refine wo_step (s_pure (p_bin rfl rfl ((b_shr rfl).trans (ci e46)))) ?_
  obtain ⟨x47, e47, z16⟩ := forceI_inv z15
  refine wo_step (s_pure (p_bin rfl rfl (b_add.trans (ci e47)))) (wo_step (v := (.i .u64 x47)) (s_pure (p_mv rfl)) (wo_nil (nx_norm (w_seq (w_ops (wo_step (s_pure (p_mv g0)) (wo_step (s_pure (p_mv g1)) ?_)))))))
  obtain ⟨x50, e50, z17⟩ := forceI_inv z16
  refine wo_step (s_pure (p_bin rfl rfl (b_mul.trans (ci e50)))) (wo_step (v := (.i .u64 x50)) (s_pure (p_mv rfl)) (wo_nil (nx_norm ?_)))
  refine w_ret ?_
  exact qf ret_ok (rt rfl (rt rfl rn)) z17
end Go.Proofs.Ytfohppnelbbepaa.T

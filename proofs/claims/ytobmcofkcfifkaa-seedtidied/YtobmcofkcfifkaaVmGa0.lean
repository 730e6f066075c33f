/- Plain functions, and that the small machine answers as they do. -/
import Derived.Test.YtobmcofkcfifkaaVmP
import Derived.Test.YtobmcofkcfifkaaVmAE
open Go.Vm
set_option linter.unusedVariables false
namespace Go.Proofs.Ytobmcofkcfifkaa.T
open Go
/- dibber/dibberlaw09.SeedTidied -/
abbrev g11_J0 (v0 : AVal) (v1 : AVal) (m0 : Mm) (o : Bool) (m1 : Mm) (t1 : Tr) : Prop :=
  match o with
  | c32 => m0 = m1 ∧ t1.get 32 = (.b c32) ∧ t1.get 0 = v0 ∧ t1.get 1 = v1
abbrev g11_J1 (v0 : AVal) (v1 : AVal) (m0 : Mm) (o : Bool) (m1 : Mm) (t1 : Tr) : Prop :=
  match o with
  | c37 => m0 = m1 ∧ t1.get 37 = (.b c37) ∧ t1.get 0 = v0 ∧ t1.get 1 = v1
abbrev g11_I2 (v0 : AVal) (v1 : AVal) (m0 : Mm) (s : List UInt8 × List UInt8 × List UInt8 × Int) (m1 : Mm) (t1 : Tr) : Prop :=
  match s with
  | (s5, s6, s7, x8) => m0 = m1 ∧ t1.get 5 = (.s s5) ∧ t1.get 6 = (.s s6) ∧ t1.get 7 = (.s s7) ∧ t1.get 8 = (.i .i64 x8) ∧ t1.get 0 = v0 ∧ t1.get 1 = v1
abbrev g11_J2 (v0 : AVal) (v1 : AVal) (m0 : Mm) (o : (List UInt8 × List UInt8 × List UInt8)) (e : AExit) (m1 : Mm) (t1 : Tr) : Prop :=
  match o with
  | (y5, y6, y7) => e = (.exit 0) ∧ m0 = m1 ∧ t1.get 5 = (.s y5) ∧ t1.get 6 = (.s y6) ∧ t1.get 7 = (.s y7)
def g11_b2 (M : Means) (ro : List ABlk) (v0 : AVal) (v1 : AVal) (m0 : Mm) (s5 : List UInt8) (s6 : List UInt8) (s7 : List UInt8) (x8 : Int) : Option ((List UInt8 × List UInt8 × List UInt8 × Int) ⊕ ((List UInt8 × List UInt8 × List UInt8))) :=
  bindO (evP .e (.len false (.c v0))) fun v41 =>
  asI .i64 v41 fun x41 =>
  forceB (ltI x8 x41) fun c42 =>
  cond c42 (
    bindO (evP .e (.ixS 1 (.c v0) (.c (.i .i64 x8)))) fun v47 =>
    bindO (ldA ro m0.h true 1 v47) fun v48 =>
    asI .u8 v48 fun x48 =>
    forceI (Int.tmod x48 5) fun x49 =>
    forceI (wr .i64 x49) fun x50 =>
    bindO (evP .e (.ixS 1 (.c v1) (.c (.i .i64 x8)))) fun v53 =>
    bindO (ldA ro m0.h true 1 v53) fun v54 =>
    asI .u8 v54 fun x54 =>
    forceI (Int.tmod x54 5) fun x55 =>
    forceI (wr .i64 x55) fun x56 =>
    forceI (wr .i64 (x50 + 1)) fun x60 =>
    bindO (evP .e (.slStr (.c (AVal.s [48, 49, 50, 51, 52, 53, 54, 55, 56, 57])) (some (.c (.i .i64 x50))) (some (.c (.i .i64 x60))))) fun v61 =>
    asS v61 fun s61 =>
    bindO (evP .e (.sbin BinOp.add (.c (.s s5)) (.c (.s s61)))) fun v62 =>
    asS v62 fun s62 =>
    forceI (wr .i64 (x56 + 1)) fun x66 =>
    bindO (evP .e (.slStr (.c (AVal.s [48, 49, 50, 51, 52, 53, 54, 55, 56, 57])) (some (.c (.i .i64 x56))) (some (.c (.i .i64 x66))))) fun v67 =>
    asS v67 fun s67 =>
    bindO (evP .e (.sbin BinOp.add (.c (.s s6)) (.c (.s s67)))) fun v68 =>
    asS v68 fun s68 =>
    forceI (wr .i64 (x50 + x56)) fun x72 =>
    forceI (wr .i64 (x50 + x56)) fun x75 =>
    forceI (wr .i64 (x75 + 1)) fun x76 =>
    bindO (evP .e (.slStr (.c (AVal.s [48, 49, 50, 51, 52, 53, 54, 55, 56, 57])) (some (.c (.i .i64 x72))) (some (.c (.i .i64 x76))))) fun v77 =>
    asS v77 fun s77 =>
    bindO (evP .e (.sbin BinOp.add (.c (.s s7)) (.c (.s s77)))) fun v78 =>
    asS v78 fun s78 =>
    forceI (wr .i64 (x8 + 1)) fun x44 =>
    some (.inl (s62, s68, s78, x44))) (
    some (.inr (s5, s6, s7)))
abbrev g11_J3 (s82 : List UInt8) (x83 : Int) (s87 : List UInt8) (x88 : Int) (s92 : List UInt8) (x93 : Int) (m_4 : Mm) (o : Bool) (m1 : Mm) (t1 : Tr) : Prop :=
  match o with
  | c99 => m_4 = m1 ∧ t1.get 99 = (.b c99) ∧ t1.get 11 = (.s s82) ∧ t1.get 12 = (.i .i64 x83) ∧ t1.get 13 = (.s s87) ∧ t1.get 14 = (.i .i64 x88) ∧ t1.get 15 = (.s s92) ∧ t1.get 16 = (.i .i64 x93)
abbrev g11_J4 (x88 : Int) (x93 : Int) (m_4 : Mm) (o : Bool) (m1 : Mm) (t1 : Tr) : Prop :=
  match o with
  | c105 => m_4 = m1 ∧ t1.get 105 = (.b c105) ∧ t1.get 14 = (.i .i64 x88) ∧ t1.get 16 = (.i .i64 x93)
abbrev g11_J5 (x93 : Int) (m_4 : Mm) (o : Bool) (m1 : Mm) (t1 : Tr) : Prop :=
  match o with
  | c113 => m_4 = m1 ∧ t1.get 113 = (.b c113) ∧ t1.get 16 = (.i .i64 x93)
abbrev g11_J6 (x93 : Int) (m_4 : Mm) (o : Bool) (m1 : Mm) (t1 : Tr) : Prop :=
  match o with
  | c113_1 => m_4 = m1 ∧ t1.get 113 = (.b c113_1) ∧ t1.get 16 = (.i .i64 x93)
abbrev g11_J7 (m_4 : Mm) (o : Bool) (m1 : Mm) (t1 : Tr) : Prop :=
  match o with
  | c117 => m_4 = m1 ∧ t1.get 117 = (.b c117)
abbrev g11_J8  (o : Bool × Mm) (m1 : Mm) (t1 : Tr) : Prop :=
  match o with
  | (c120, m_5) => m_5 = m1 ∧ t1.get 120 = (.b c120)
abbrev g11_J9 (s82 : List UInt8) (s92 : List UInt8) (x93 : Int) (x124 : Int) (x129 : Int) (m_8 : Mm) (o : Bool) (m1 : Mm) (t1 : Tr) : Prop :=
  match o with
  | c136 => m_8 = m1 ∧ t1.get 136 = (.b c136) ∧ t1.get 11 = (.s s82) ∧ t1.get 15 = (.s s92) ∧ t1.get 16 = (.i .i64 x93) ∧ t1.get 17 = (.i .i64 x124) ∧ t1.get 18 = (.i .i64 x129)
abbrev g11_J10 (m_8 : Mm) (o : Bool) (m1 : Mm) (t1 : Tr) : Prop :=
  match o with
  | c146 => m_8 = m1 ∧ t1.get 146 = (.b c146)
abbrev g11_J11  (o : Bool × Mm) (m1 : Mm) (t1 : Tr) : Prop :=
  match o with
  | (c149, m_9) => m_9 = m1 ∧ t1.get 149 = (.b c149)
abbrev g11_J12 (s82 : List UInt8) (x124 : Int) (x129 : Int) (x153 : Int) (s158 : List UInt8) (x159 : Int) (m_12 : Mm) (o : Bool) (m1 : Mm) (t1 : Tr) : Prop :=
  match o with
  | c165 => m_12 = m1 ∧ t1.get 165 = (.b c165) ∧ t1.get 11 = (.s s82) ∧ t1.get 17 = (.i .i64 x124) ∧ t1.get 18 = (.i .i64 x129) ∧ t1.get 19 = (.i .i64 x153) ∧ t1.get 21 = (.s s158) ∧ t1.get 22 = (.i .i64 x159)
abbrev g11_J13 (s82 : List UInt8) (s158 : List UInt8) (x159 : Int) (m_12 : Mm) (o : Bool) (m1 : Mm) (t1 : Tr) : Prop :=
  match o with
  | c172 => m_12 = m1 ∧ t1.get 172 = (.b c172) ∧ t1.get 11 = (.s s82) ∧ t1.get 21 = (.s s158) ∧ t1.get 22 = (.i .i64 x159)
abbrev g11_J14 (m_12 : Mm) (o : Bool) (m1 : Mm) (t1 : Tr) : Prop :=
  match o with
  | c186 => m_12 = m1 ∧ t1.get 186 = (.b c186)
abbrev g11_J15 (m_12 : Mm) (o : Bool) (m1 : Mm) (t1 : Tr) : Prop :=
  match o with
  | c186_1 => m_12 = m1 ∧ t1.get 186 = (.b c186_1)
abbrev g11_J16 (m_12 : Mm) (o : Bool) (m1 : Mm) (t1 : Tr) : Prop :=
  match o with
  | c186_2 => m_12 = m1 ∧ t1.get 186 = (.b c186_2)
abbrev g11_J17  (o : Bool × Mm) (m1 : Mm) (t1 : Tr) : Prop :=
  match o with
  | (c189, m_13) => m_13 = m1 ∧ t1.get 189 = (.b c189)
def g11 (M : Means) (ro : List ABlk) (v0 : AVal) (v1 : AVal) (m0 : Mm) : Option (AVal × Heap × Nat × Nat) :=
  bindO (evP .e (.len false (.c v0))) fun v24 =>
  asI .i64 v24 fun x24 =>
  forceB (eqI x24 0) fun c25 =>
  bindO (cond c25 (
    some true) (
    bindO (evP .e (.len false (.c v0))) fun v28 =>
    asI .i64 v28 fun x28 =>
    bindO (evP .e (.len false (.c v1))) fun v30 =>
    asI .i64 v30 fun x30 =>
    forceB (!eqI x28 x30) fun c31 =>
    some c31)) fun c32 =>
  bindO (cond c32 (
    some true) (
    bindO (evP .e (.len false (.c v0))) fun v35 =>
    asI .i64 v35 fun x35 =>
    forceB (ltI 100 x35) fun c36 =>
    some c36)) fun c37 =>
  cond c37 (
    bindP (callM M.call m0 18 []) fun v38 m_1 =>
    asB v38 fun c38 =>
    finM m0.h.length (tupA [(.b c38)]) m_1) (
    bindO (M.loop (S := List UInt8 × List UInt8 × List UInt8 × Int) (R := (List UInt8 × List UInt8 × List UInt8)) (fun s => g11_b2 M ro v0 v1 m0 s.1 s.2.1 s.2.2.1 s.2.2.2) ([], [], [], 0)) fun ⟨s5_1, s6_1, s7_1⟩ =>
    bindP (callM M.call m0 23 [(.s s5_1)]) fun v81 m_2 =>
    bindO (evP .e (.ext 0 (.c v81))) fun v82 =>
    asS v82 fun s82 =>
    bindO (evP .e (.ext 1 (.c v81))) fun v83 =>
    asI .i64 v83 fun x83 =>
    bindP (callM M.call m_2 23 [(.s s6_1)]) fun v86 m_3 =>
    bindO (evP .e (.ext 0 (.c v86))) fun v87 =>
    asS v87 fun s87 =>
    bindO (evP .e (.ext 1 (.c v86))) fun v88 =>
    asI .i64 v88 fun x88 =>
    bindP (callM M.call m_3 23 [(.s s7_1)]) fun v91 m_4 =>
    bindO (evP .e (.ext 0 (.c v91))) fun v92 =>
    asS v92 fun s92 =>
    bindO (evP .e (.ext 1 (.c v91))) fun v93 =>
    asI .i64 v93 fun x93 =>
    forceB (!eqI x83 0) fun c95 =>
    bindO (cond c95 (
      some true) (
      forceB (!eqI x88 0) fun c98 =>
      some c98)) fun c99 =>
    cond c99 (
      forceB (eqI x83 0) fun c101 =>
      bindO (cond c101 (
        some true) (
        forceB (eqI x83 4) fun c104 =>
        some c104)) fun c105 =>
      bindO (cond c105 (
        forceB (eqI x88 0) fun c108 =>
        bindO (cond c108 (
          some true) (
          forceB (eqI x88 4) fun c111 =>
          some c111)) fun c113_1 =>
        some c113_1) (
        some false)) fun c113 =>
      bindO (cond c113 (
        forceB (eqI x93 4) fun c116 =>
        some c116) (
        some false)) fun c117 =>
      bindO (cond c117 (
        bindP (callM M.call m_4 18 []) fun v119 m_6 =>
        asB v119 fun c119 =>
        some (c119, m_6)) (
        some (false, m_4))) fun ⟨c120, m_5⟩ =>
      finM m0.h.length (tupA [(.b c120)]) m_5) (
      bindP (callM M.call m_4 21 [(.s s82)]) fun v123 m_7 =>
      bindO (evP .e (.ext 0 (.c v123))) fun v124 =>
      asI .i64 v124 fun x124 =>
      bindO (evP .e (.ext 1 (.c v123))) fun v125 =>
      asI .i64 v125 fun x125 =>
      bindP (callM M.call m_7 21 [(.s s87)]) fun v128 m_8 =>
      bindO (evP .e (.ext 0 (.c v128))) fun v129 =>
      asI .i64 v129 fun x129 =>
      bindO (evP .e (.ext 1 (.c v128))) fun v130 =>
      asI .i64 v130 fun x130 =>
      forceB (!eqI x125 0) fun c132 =>
      bindO (cond c132 (
        some true) (
        forceB (!eqI x130 0) fun c135 =>
        some c135)) fun c136 =>
      cond c136 (
        finM m0.h.length (tupA [(.b false)]) m_8) (
        forceI (wr .i64 (x124 + x129)) fun x139 =>
        forceB (ltI 1152921504606846976 x139) fun c140 =>
        cond c140 (
          forceB (eqI x93 4) fun c142 =>
          bindO (cond c142 (
            bindO (evP .e (.sbin BinOp.eql (.c (.s s92)) (.c (AVal.s [])))) fun v145 =>
            asB v145 fun c145 =>
            some c145) (
            some false)) fun c146 =>
          bindO (cond c146 (
            bindP (callM M.call m_8 18 []) fun v148 m_10 =>
            asB v148 fun c148 =>
            some (c148, m_10)) (
            some (false, m_8))) fun ⟨c149, m_9⟩ =>
          finM m0.h.length (tupA [(.b c149)]) m_9) (
          bindP (callM M.call m_8 21 [(.s s92)]) fun v152 m_11 =>
          bindO (evP .e (.ext 0 (.c v152))) fun v153 =>
          asI .i64 v153 fun x153 =>
          bindO (evP .e (.ext 1 (.c v152))) fun v154 =>
          asI .i64 v154 fun x154 =>
          bindP (callM M.call m_11 23 [(.s s82)]) fun v157 m_12 =>
          bindO (evP .e (.ext 0 (.c v157))) fun v158 =>
          asS v158 fun s158 =>
          bindO (evP .e (.ext 1 (.c v157))) fun v159 =>
          asI .i64 v159 fun x159 =>
          forceB (eqI x93 0) fun c161 =>
          bindO (cond c161 (
            forceB (eqI x154 0) fun c164 =>
            some c164) (
            some false)) fun c165 =>
          bindO (cond c165 (
            forceI (wr .i64 (x124 + x129)) fun x170 =>
            forceB (eqI x153 x170) fun c171 =>
            some c171) (
            some false)) fun c172 =>
          bindO (cond c172 (
            forceB (eqI x159 0) fun c175 =>
            bindO (cond c175 (
              bindO (evP .e (.sbin BinOp.eql (.c (.s s158)) (.c (.s s82)))) fun v179 =>
              asB v179 fun c179 =>
              bindO (cond c179 (
                some true) (
                bindO (evP .e (.len true (.c (.s s82)))) fun v183 =>
                asI .i64 v183 fun x183 =>
                forceB (ltI 100 x183) fun c184 =>
                some c184)) fun c186_2 =>
              some c186_2) (
              bindO (evP .e (.len true (.c (.s s82)))) fun v183_1 =>
              asI .i64 v183_1 fun x183_1 =>
              forceB (ltI 100 x183_1) fun c184_1 =>
              some c184_1)) fun c186_1 =>
            some c186_1) (
            some false)) fun c186 =>
          bindO (cond c186 (
            bindP (callM M.call m_12 18 []) fun v188 m_14 =>
            asB v188 fun c188 =>
            some (c188, m_14)) (
            some (false, m_12))) fun ⟨c189, m_13⟩ =>
          finM m0.h.length (tupA [(.b c189)]) m_13))))

theorem g11_ok {ro : List ABlk} {O : Caller} {M : Means} (hM : M.Ok ⟨F, O⟩ ro) {v0 v1 h r} (ho : O 11 [v0, v1] h = none) (hr : g11 M ro v0 v1 ⟨h, h.length, h.length⟩ = some r) : callX ⟨F, O⟩ ro 11 [v0, v1] h = some r := by
  refine callX_of (F := ⟨F, O⟩) (fn := fn11) (g := g11 M ro v0 v1) ho rfl rfl hr ?_
  clear ho
  clear hr
  intro m0 t0 ht hr
  have g0 : t0.get 0 = v0 := ht 0
  have g1 : t0.get 1 = v1 := ht 1
  clear ht
  unfold g11 at hr
  refine w_seq ?_
  refine w_ops ?_
  refine wo_step (v := (.b false)) (s_pure (p_mv rfl)) ?_
  refine wo_nil ?_
  refine nx_norm ?_
  refine w_seq ?_
  refine w_seq ?_
  refine w_ops ?_
  refine wo_step (v := v0) (s_pure (p_mv g0)) ?_
  have hq := bindO_inv hr
  clear hr
  obtain ⟨v24, e24, hr⟩ := hq
  have hq := asI_inv hr
  clear hr
  obtain ⟨x24, rfl, hr⟩ := hq
  refine wo_step (v := (.i .i64 x24)) (s_pure (o_len rfl e24)) ?_
  have hq := forceB_inv hr
  clear hr
  obtain ⟨c25, e25, hr⟩ := hq
  refine wo_step (v := (.b c25)) (s_pure (p_bin rfl rfl (b_eql.trans (cb e25)))) ?_
  refine wo_step (v := (.b c25)) (s_pure (p_mv rfl)) ?_
  have hq := bindO_inv hr
  clear hr
  obtain ⟨o, hr, hk⟩ := hq
  refine wo_join 6 (g11_J0 v0 v1 m0 o) ?_ ?_
  · clear hk
    have hq := cond_inv hr
    clear hr
    rcases hq with ⟨rfl, hr⟩ | ⟨rfl, hr⟩
    · refine wo_skip (v := (.b true)) rfl rfl ?_
      refine wo_skip (v := (.b true)) rfl rfl ?_
      refine wo_skip (v := (.b true)) rfl rfl ?_
      refine wo_skip (v := (.b true)) rfl rfl ?_
      refine wo_skip (v := (.b true)) rfl rfl ?_
      refine wo_step (v := (.b true)) (s_pure (p_pickT rfl rfl)) ?_
      refine wo_nil ?_
      cases hr
      exact ⟨_, _, rfl, rfl, gl rfl, gl g0, gl g1⟩
    · refine wo_take (v := v0) rfl (s_pure (p_mv g0)) ?_
      have hq := bindO_inv hr
      clear hr
      obtain ⟨v28, e28, hr⟩ := hq
      have hq := asI_inv hr
      clear hr
      obtain ⟨x28, rfl, hr⟩ := hq
      refine wo_take (v := (.i .i64 x28)) rfl (s_pure (o_len rfl e28)) ?_
      refine wo_take (v := v1) rfl (s_pure (p_mv g1)) ?_
      have hq := bindO_inv hr
      clear hr
      obtain ⟨v30, e30, hr⟩ := hq
      have hq := asI_inv hr
      clear hr
      obtain ⟨x30, rfl, hr⟩ := hq
      refine wo_take (v := (.i .i64 x30)) rfl (s_pure (o_len rfl e30)) ?_
      have hq := forceB_inv hr
      clear hr
      obtain ⟨c31, e31, hr⟩ := hq
      refine wo_take (v := (.b c31)) rfl (s_pure (p_bin rfl rfl (b_neq.trans (cb e31)))) ?_
      refine wo_step (v := (.b c31)) (s_pure (p_pickF rfl rfl)) ?_
      refine wo_nil ?_
      cases hr
      exact ⟨_, _, rfl, rfl, gl rfl, gl g0, gl g1⟩
  · clear hr
    have hr := hk
    clear hk
    obtain ⟨c32, ho⟩ : ∃ z, z = o := ⟨_, rfl⟩
    subst ho
    rintro mm t_1 ⟨rfl, g32, g0, g1⟩
    refine wo_step (v := (.b c32)) (s_pure (p_mv g32)) ?_
    have hq := bindO_inv hr
    clear hr
    obtain ⟨o_1, hr, hk⟩ := hq
    refine wo_join 4 (g11_J1 v0 v1 m0 o_1) ?_ ?_
    · clear hk
      have hq := cond_inv hr
      clear hr
      rcases hq with ⟨rfl, hr⟩ | ⟨rfl, hr⟩
      · refine wo_skip (v := (.b true)) rfl rfl ?_
        refine wo_skip (v := (.b true)) rfl rfl ?_
        refine wo_skip (v := (.b true)) rfl rfl ?_
        refine wo_step (v := (.b true)) (s_pure (p_pickT rfl rfl)) ?_
        refine wo_nil ?_
        cases hr
        exact ⟨_, _, rfl, rfl, gl rfl, gl g0, gl g1⟩
      · refine wo_take (v := v0) rfl (s_pure (p_mv g0)) ?_
        have hq := bindO_inv hr
        clear hr
        obtain ⟨v35, e35, hr⟩ := hq
        have hq := asI_inv hr
        clear hr
        obtain ⟨x35, rfl, hr⟩ := hq
        refine wo_take (v := (.i .i64 x35)) rfl (s_pure (o_len rfl e35)) ?_
        have hq := forceB_inv hr
        clear hr
        obtain ⟨c36, e36, hr⟩ := hq
        refine wo_take (v := (.b c36)) rfl (s_pure (p_bin rfl rfl (b_gtr.trans (cb e36)))) ?_
        refine wo_step (v := (.b c36)) (s_pure (p_pickF rfl rfl)) ?_
        refine wo_nil ?_
        cases hr
        exact ⟨_, _, rfl, rfl, gl rfl, gl g0, gl g1⟩
    · clear hr
      have hr := hk
      clear hk
      obtain ⟨c37, ho⟩ : ∃ z, z = o_1 := ⟨_, rfl⟩
      subst ho
      rintro mm_1 t_2 ⟨rfl, g37, g0, g1⟩
      refine wo_nil ?_
      refine nx_norm ?_
      have hq := cond_inv hr
      clear hr
      rcases hq with ⟨rfl, hr⟩ | ⟨rfl, hr⟩
      · refine w_condT g37 ?_
        refine w_seq ?_
        refine w_ops ?_
        have hq := bindP_inv hr
        clear hr
        obtain ⟨v38, m_1, e38, hr⟩ := hq
        have hq := asB_inv hr
        clear hr
        obtain ⟨c38, rfl, hr⟩ := hq
        refine wo_step (v := (.b c38)) (s_call mn (callM_le hM.call e38)) ?_
        refine wo_step (v := (.b c38)) (s_pure (p_mv rfl)) ?_
        refine wo_nil ?_
        refine nx_norm ?_
        refine w_ret ?_
        refine nx_ret ?_
        exact qf ret_ok (rt rfl rn) hr
      · refine w_condF g37 ?_
        refine w_skip ?_
        refine nx_norm ?_
        refine w_seq ?_
        refine w_ops ?_
        refine wo_step (v := (AVal.s [])) (s_pure (p_mv rfl)) ?_
        refine wo_step (v := (AVal.s [])) (s_pure (p_mv rfl)) ?_
        refine wo_step (v := (AVal.s [])) (s_pure (p_mv rfl)) ?_
        refine wo_nil ?_
        refine nx_norm ?_
        refine w_seq ?_
        refine w_seq ?_
        refine w_ops ?_
        refine wo_step (v := (.i .i64 0)) (s_pure (p_mv rfl)) ?_
        refine wo_nil ?_
        refine nx_norm ?_
        refine w_block ?_
        have hq := bindO_inv hr
        clear hr
        obtain ⟨o_2, hl, hr⟩ := hq
        obtain ⟨n, hl⟩ := hM.loop _ _ _ hl
        refine jp_mono (w_loop _ (g11_I2 v0 v1 m0) (g11_J2 v0 v1 m0) ?_ n _ _ _ _ hl ⟨rfl, gl rfl, gl rfl, gl rfl, gl rfl, gl g0, gl g1⟩) ?_
        · clear hr hl
          intro s mm_18 t_3 o hi hr
          obtain ⟨s5, s6, s7, x8⟩ := s
          obtain ⟨rfl, g5, g6, g7, g8, g0, g1⟩ := hi
          unfold g11_b2 at hr
          refine w_seq ?_
          refine w_seq ?_
          refine w_ops ?_
          refine wo_step (v := (.i .i64 x8)) (s_pure (p_mv g8)) ?_
          refine wo_step (v := v0) (s_pure (p_mv g0)) ?_
          have hq := bindO_inv hr
          clear hr
          obtain ⟨v41, e41, hr⟩ := hq
          have hq := asI_inv hr
          clear hr
          obtain ⟨x41, rfl, hr⟩ := hq
          refine wo_step (v := (.i .i64 x41)) (s_pure (o_len rfl e41)) ?_
          have hq := forceB_inv hr
          clear hr
          obtain ⟨c42, e42, hr⟩ := hq
          refine wo_step (v := (.b c42)) (s_pure (p_bin rfl rfl (b_lss.trans (cb e42)))) ?_
          refine wo_nil ?_
          refine nx_norm ?_
          have hq := cond_inv hr
          clear hr
          rcases hq with ⟨rfl, hr⟩ | ⟨rfl, hr⟩
          · refine w_condT rfl ?_
            refine w_skip ?_
            refine nx_norm ?_
            refine w_seq ?_
            refine w_block ?_
            refine w_seq ?_
            refine w_any ?_
            refine wa_step (v := v0) (a_pure (p_mv g0)) ?_
            refine wa_step (v := (.i .i64 x8)) (a_pure (p_mv g8)) ?_
            have hq := bindO_inv hr
            clear hr
            obtain ⟨v47, e47, hr⟩ := hq
            refine wa_step (v := v47) (a_pure (o_ixS rfl rfl e47)) ?_
            have hq := bindO_inv hr
            clear hr
            obtain ⟨v48, e48, hr⟩ := hq
            have hq := asI_inv hr
            clear hr
            obtain ⟨x48, rfl, hr⟩ := hq
            refine wa_step (v := (.i .u8 x48)) (a_ld rfl e48) ?_
            have hq := forceI_inv hr
            clear hr
            obtain ⟨x49, e49, hr⟩ := hq
            refine wa_step (v := (.i .u8 x49)) (a_pure (p_bin rfl rfl ((b_rem rfl).trans (ci e49)))) ?_
            have hq := forceI_inv hr
            clear hr
            obtain ⟨x50, e50, hr⟩ := hq
            refine wa_step (v := (.i .i64 x50)) (a_pure ((p_conv rfl).trans (ci e50))) ?_
            refine wa_step (v := v1) (a_pure (p_mv g1)) ?_
            refine wa_step (v := (.i .i64 x8)) (a_pure (p_mv g8)) ?_
            have hq := bindO_inv hr
            clear hr
            obtain ⟨v53, e53, hr⟩ := hq
            refine wa_step (v := v53) (a_pure (o_ixS rfl rfl e53)) ?_
            have hq := bindO_inv hr
            clear hr
            obtain ⟨v54, e54, hr⟩ := hq
            have hq := asI_inv hr
            clear hr
            obtain ⟨x54, rfl, hr⟩ := hq
            refine wa_step (v := (.i .u8 x54)) (a_ld rfl e54) ?_
            have hq := forceI_inv hr
            clear hr
            obtain ⟨x55, e55, hr⟩ := hq
            refine wa_step (v := (.i .u8 x55)) (a_pure (p_bin rfl rfl ((b_rem rfl).trans (ci e55)))) ?_
            have hq := forceI_inv hr
            clear hr
            obtain ⟨x56, e56, hr⟩ := hq
            refine wa_step (v := (.i .i64 x56)) (a_pure ((p_conv rfl).trans (ci e56))) ?_
            refine wa_step (v := (.i .i64 x50)) (a_pure (p_mv rfl)) ?_
            refine wa_step (v := (.i .i64 x56)) (a_pure (p_mv rfl)) ?_
            refine wa_nil ?_
            refine ⟨m0, wM2_nil rfl, ?_⟩
            refine nx_norm ?_
            refine w_seq ?_
            refine w_ops ?_
            refine wo_step (v := (.s s5)) (s_pure (p_mv g5)) ?_
            refine wo_step (v := (.i .i64 x50)) (s_pure (p_mv rfl)) ?_
            refine wo_step (v := (.i .i64 x50)) (s_pure (p_mv rfl)) ?_
            have hq := forceI_inv hr
            clear hr
            obtain ⟨x60, e60, hr⟩ := hq
            refine wo_step (v := (.i .i64 x60)) (s_pure (p_bin rfl rfl (b_add.trans (ci e60)))) ?_
            have hq := bindO_inv hr
            clear hr
            obtain ⟨v61, e61, hr⟩ := hq
            have hq := asS_inv hr
            clear hr
            obtain ⟨s61, rfl, hr⟩ := hq
            refine wo_step (v := (.s s61)) (s_pure (o_slStr rfl (os rfl) (os rfl) e61)) ?_
            have hq := bindO_inv hr
            clear hr
            obtain ⟨v62, e62, hr⟩ := hq
            have hq := asS_inv hr
            clear hr
            obtain ⟨s62, rfl, hr⟩ := hq
            refine wo_step (v := (.s s62)) (s_pure (o_sbin rfl rfl e62)) ?_
            refine wo_step (v := (.s s62)) (s_pure (p_mv rfl)) ?_
            refine wo_nil ?_
            refine nx_norm ?_
            refine w_seq ?_
            refine w_ops ?_
            refine wo_step (v := (.s s6)) (s_pure (p_mv g6)) ?_
            refine wo_step (v := (.i .i64 x56)) (s_pure (p_mv rfl)) ?_
            refine wo_step (v := (.i .i64 x56)) (s_pure (p_mv rfl)) ?_
            have hq := forceI_inv hr
            clear hr
            obtain ⟨x66, e66, hr⟩ := hq
            refine wo_step (v := (.i .i64 x66)) (s_pure (p_bin rfl rfl (b_add.trans (ci e66)))) ?_
            have hq := bindO_inv hr
            clear hr
            obtain ⟨v67, e67, hr⟩ := hq
            have hq := asS_inv hr
            clear hr
            obtain ⟨s67, rfl, hr⟩ := hq
            refine wo_step (v := (.s s67)) (s_pure (o_slStr rfl (os rfl) (os rfl) e67)) ?_
            have hq := bindO_inv hr
            clear hr
            obtain ⟨v68, e68, hr⟩ := hq
            have hq := asS_inv hr
            clear hr
            obtain ⟨s68, rfl, hr⟩ := hq
            refine wo_step (v := (.s s68)) (s_pure (o_sbin rfl rfl e68)) ?_
            refine wo_step (v := (.s s68)) (s_pure (p_mv rfl)) ?_
            refine wo_nil ?_
            refine nx_norm ?_
            refine w_ops ?_
            refine wo_step (v := (.s s7)) (s_pure (p_mv g7)) ?_
            refine wo_step (v := (.i .i64 x50)) (s_pure (p_mv rfl)) ?_
            refine wo_step (v := (.i .i64 x56)) (s_pure (p_mv rfl)) ?_
            have hq := forceI_inv hr
            clear hr
            obtain ⟨x72, e72, hr⟩ := hq
            refine wo_step (v := (.i .i64 x72)) (s_pure (p_bin rfl rfl (b_add.trans (ci e72)))) ?_
            refine wo_step (v := (.i .i64 x50)) (s_pure (p_mv rfl)) ?_
            refine wo_step (v := (.i .i64 x56)) (s_pure (p_mv rfl)) ?_
            have hq := forceI_inv hr
            clear hr
            obtain ⟨x75, e75, hr⟩ := hq
            refine wo_step (v := (.i .i64 x75)) (s_pure (p_bin rfl rfl (b_add.trans (ci e75)))) ?_
            have hq := forceI_inv hr
            clear hr
            obtain ⟨x76, e76, hr⟩ := hq
            refine wo_step (v := (.i .i64 x76)) (s_pure (p_bin rfl rfl (b_add.trans (ci e76)))) ?_
            have hq := bindO_inv hr
            clear hr
            obtain ⟨v77, e77, hr⟩ := hq
            have hq := asS_inv hr
            clear hr
            obtain ⟨s77, rfl, hr⟩ := hq
            refine wo_step (v := (.s s77)) (s_pure (o_slStr rfl (os rfl) (os rfl) e77)) ?_
            have hq := bindO_inv hr
            clear hr
            obtain ⟨v78, e78, hr⟩ := hq
            have hq := asS_inv hr
            clear hr
            obtain ⟨s78, rfl, hr⟩ := hq
            refine wo_step (v := (.s s78)) (s_pure (o_sbin rfl rfl e78)) ?_
            refine wo_step (v := (.s s78)) (s_pure (p_mv rfl)) ?_
            refine wo_nil ?_
            refine bk_norm ?_
            refine nx_norm ?_
            refine w_ops ?_
            refine wo_step (v := (.i .i64 x8)) (s_pure (p_mv g8)) ?_
            have hq := forceI_inv hr
            clear hr
            obtain ⟨x44, e44, hr⟩ := hq
            refine wo_step (v := (.i .i64 x44)) (s_pure (p_bin rfl rfl (b_add.trans (ci e44)))) ?_
            refine wo_step (v := (.i .i64 x44)) (s_pure (p_mv rfl)) ?_
            refine wo_nil ?_
            cases hr
            exact ⟨_, _, rfl, rfl, rfl, gl rfl, gl rfl, gl rfl, gl rfl, gl g0, gl g1⟩
          · refine w_condF rfl ?_
            refine w_exit ?_
            refine nx_exit ?_
            cases hr
            exact ⟨_, _, rfl, ne_norm_exit, rfl, rfl, gl g5, gl g6, gl g7⟩
        · obtain ⟨s5_1, s6_1, s7_1⟩ := o_2
          rintro _ mm_17 t_4 ⟨rfl, rfl, g5, g6, g7⟩
          refine bk_hit ?_
          refine nx_norm ?_
          refine w_seq ?_
          refine w_ops ?_
          refine wo_step (v := (.s s5_1)) (s_pure (p_mv g5)) ?_
          have hq := bindP_inv hr
          clear hr
          obtain ⟨v81, m_2, e81, hr⟩ := hq
          refine wo_step (v := v81) (s_call (mc rfl mn) (callM_le hM.call e81)) ?_
          refine wo_step (v := v81) (s_pure (p_mv rfl)) ?_
          have hq := bindO_inv hr
          clear hr
          obtain ⟨v82, e82, hr⟩ := hq
          have hq := asS_inv hr
          clear hr
          obtain ⟨s82, rfl, hr⟩ := hq
          refine wo_step (v := (.s s82)) (s_pure (o_ext rfl e82)) ?_
          have hq := bindO_inv hr
          clear hr
          obtain ⟨v83, e83, hr⟩ := hq
          have hq := asI_inv hr
          clear hr
          obtain ⟨x83, rfl, hr⟩ := hq
          refine wo_step (v := (.i .i64 x83)) (s_pure (o_ext rfl e83)) ?_
          refine wo_step (v := (.s s82)) (s_pure (p_mv rfl)) ?_
          refine wo_step (v := (.i .i64 x83)) (s_pure (p_mv rfl)) ?_
          refine wo_nil ?_
          refine nx_norm ?_
          refine w_seq ?_
          refine w_ops ?_
          refine wo_step (v := (.s s6_1)) (s_pure (p_mv g6)) ?_
          have hq := bindP_inv hr
          clear hr
          obtain ⟨v86, m_3, e86, hr⟩ := hq
          refine wo_step (v := v86) (s_call (mc rfl mn) (callM_le hM.call e86)) ?_
          refine wo_step (v := v86) (s_pure (p_mv rfl)) ?_
          have hq := bindO_inv hr
          clear hr
          obtain ⟨v87, e87, hr⟩ := hq
          have hq := asS_inv hr
          clear hr
          obtain ⟨s87, rfl, hr⟩ := hq
          refine wo_step (v := (.s s87)) (s_pure (o_ext rfl e87)) ?_
          have hq := bindO_inv hr
          clear hr
          obtain ⟨v88, e88, hr⟩ := hq
          have hq := asI_inv hr
          clear hr
          obtain ⟨x88, rfl, hr⟩ := hq
          refine wo_step (v := (.i .i64 x88)) (s_pure (o_ext rfl e88)) ?_
          refine wo_step (v := (.s s87)) (s_pure (p_mv rfl)) ?_
          refine wo_step (v := (.i .i64 x88)) (s_pure (p_mv rfl)) ?_
          refine wo_nil ?_
          refine nx_norm ?_
          refine w_seq ?_
          refine w_ops ?_
          refine wo_step (v := (.s s7_1)) (s_pure (p_mv g7)) ?_
          have hq := bindP_inv hr
          clear hr
          obtain ⟨v91, m_4, e91, hr⟩ := hq
          refine wo_step (v := v91) (s_call (mc rfl mn) (callM_le hM.call e91)) ?_
          refine wo_step (v := v91) (s_pure (p_mv rfl)) ?_
          have hq := bindO_inv hr
          clear hr
          obtain ⟨v92, e92, hr⟩ := hq
          have hq := asS_inv hr
          clear hr
          obtain ⟨s92, rfl, hr⟩ := hq
          refine wo_step (v := (.s s92)) (s_pure (o_ext rfl e92)) ?_
          have hq := bindO_inv hr
          clear hr
          obtain ⟨v93, e93, hr⟩ := hq
          have hq := asI_inv hr
          clear hr
          obtain ⟨x93, rfl, hr⟩ := hq
          refine wo_step (v := (.i .i64 x93)) (s_pure (o_ext rfl e93)) ?_
          refine wo_step (v := (.s s92)) (s_pure (p_mv rfl)) ?_
          refine wo_step (v := (.i .i64 x93)) (s_pure (p_mv rfl)) ?_
          refine wo_nil ?_
          refine nx_norm ?_
          refine w_seq ?_
          refine w_seq ?_
          refine w_ops ?_
          refine wo_step (v := (.i .i64 x83)) (s_pure (p_mv rfl)) ?_
          have hq := forceB_inv hr
          clear hr
          obtain ⟨c95, e95, hr⟩ := hq
          refine wo_step (v := (.b c95)) (s_pure (p_bin rfl rfl (b_neq.trans (cb e95)))) ?_
          refine wo_step (v := (.b c95)) (s_pure (p_mv rfl)) ?_
          have hq := bindO_inv hr
          clear hr
          obtain ⟨o_3, hr, hk⟩ := hq
          refine wo_join 3 (g11_J3 s82 x83 s87 x88 s92 x93 m_4 o_3) ?_ ?_
          · clear hk
            have hq := cond_inv hr
            clear hr
            rcases hq with ⟨rfl, hr⟩ | ⟨rfl, hr⟩
            · refine wo_skip (v := (.b true)) rfl rfl ?_
              refine wo_skip (v := (.b true)) rfl rfl ?_
              refine wo_step (v := (.b true)) (s_pure (p_pickT rfl rfl)) ?_
              refine wo_nil ?_
              cases hr
              exact ⟨_, _, rfl, rfl, gl rfl, gl rfl, gl rfl, gl rfl, gl rfl, gl rfl, gl rfl⟩
            · refine wo_take (v := (.i .i64 x88)) rfl (s_pure (p_mv rfl)) ?_
              have hq := forceB_inv hr
              clear hr
              obtain ⟨c98, e98, hr⟩ := hq
              refine wo_take (v := (.b c98)) rfl (s_pure (p_bin rfl rfl (b_neq.trans (cb e98)))) ?_
              refine wo_step (v := (.b c98)) (s_pure (p_pickF rfl rfl)) ?_
              refine wo_nil ?_
              cases hr
              exact ⟨_, _, rfl, rfl, gl rfl, gl rfl, gl rfl, gl rfl, gl rfl, gl rfl, gl rfl⟩
          · clear hr
            have hr := hk
            clear hk
            obtain ⟨c99, ho⟩ : ∃ z, z = o_3 := ⟨_, rfl⟩
            subst ho
            rintro mm_2 t_5 ⟨rfl, g99, g11, g12, g13, g14, g15, g16⟩
            refine wo_nil ?_
            refine nx_norm ?_
            have hq := cond_inv hr
            clear hr
            rcases hq with ⟨rfl, hr⟩ | ⟨rfl, hr⟩
            · refine w_condT g99 ?_
              refine w_seq ?_
              refine w_ops ?_
              refine wo_step (v := (.i .i64 x83)) (s_pure (p_mv g12)) ?_
              have hq := forceB_inv hr
              clear hr
              obtain ⟨c101, e101, hr⟩ := hq
              refine wo_step (v := (.b c101)) (s_pure (p_bin rfl rfl (b_eql.trans (cb e101)))) ?_
              refine wo_step (v := (.b c101)) (s_pure (p_mv rfl)) ?_
              have hq := bindO_inv hr
              clear hr
              obtain ⟨o_4, hr, hk⟩ := hq
              refine wo_join 3 (g11_J4 x88 x93 m_4 o_4) ?_ ?_
              · clear hk
                have hq := cond_inv hr
                clear hr
                rcases hq with ⟨rfl, hr⟩ | ⟨rfl, hr⟩
                · refine wo_skip (v := (.b true)) rfl rfl ?_
                  refine wo_skip (v := (.b true)) rfl rfl ?_
                  refine wo_step (v := (.b true)) (s_pure (p_pickT rfl rfl)) ?_
                  refine wo_nil ?_
                  cases hr
                  exact ⟨_, _, rfl, rfl, gl rfl, gl g14, gl g16⟩
                · refine wo_take (v := (.i .i64 x83)) rfl (s_pure (p_mv g12)) ?_
                  have hq := forceB_inv hr
                  clear hr
                  obtain ⟨c104, e104, hr⟩ := hq
                  refine wo_take (v := (.b c104)) rfl (s_pure (p_bin rfl rfl (b_eql.trans (cb e104)))) ?_
                  refine wo_step (v := (.b c104)) (s_pure (p_pickF rfl rfl)) ?_
                  refine wo_nil ?_
                  cases hr
                  exact ⟨_, _, rfl, rfl, gl rfl, gl g14, gl g16⟩
              · clear hr
                have hr := hk
                clear hk
                obtain ⟨c105, ho⟩ : ∃ z, z = o_4 := ⟨_, rfl⟩
                subst ho
                rintro mm_3 t_6 ⟨rfl, g105, g14, g16⟩
                refine wo_step (v := (.b c105)) (s_pure (p_mv g105)) ?_
                have hq := bindO_inv hr
                clear hr
                obtain ⟨o_5, hr, hk⟩ := hq
                refine wo_join 7 (g11_J5 x93 m_4 o_5) ?_ ?_
                · clear hk
                  have hq := cond_inv hr
                  clear hr
                  rcases hq with ⟨rfl, hr⟩ | ⟨rfl, hr⟩
                  · refine wo_take (v := (.i .i64 x88)) rfl (s_pure (p_mv g14)) ?_
                    have hq := forceB_inv hr
                    clear hr
                    obtain ⟨c108, e108, hr⟩ := hq
                    refine wo_take (v := (.b c108)) rfl (s_pure (p_bin rfl rfl (b_eql.trans (cb e108)))) ?_
                    refine wo_take (v := (.b c108)) rfl (s_pure (p_mv rfl)) ?_
                    have hq := bindO_inv hr
                    clear hr
                    obtain ⟨o_6, hr, hk⟩ := hq
                    refine wo_join 4 (g11_J6 x93 m_4 o_6) ?_ ?_
                    · clear hk
                      have hq := cond_inv hr
                      clear hr
                      rcases hq with ⟨rfl, hr⟩ | ⟨rfl, hr⟩
                      · refine wo_skip (v := (.b true)) rfl rfl ?_
                        refine wo_skip (v := (.b true)) rfl rfl ?_
                        refine wo_take (v := (.b true)) rfl (s_pure (p_pickT rfl rfl)) ?_
                        refine wo_step (v := (.b true)) (s_pure (p_pickT rfl rfl)) ?_
                        refine wo_nil ?_
                        cases hr
                        exact ⟨_, _, rfl, rfl, gl rfl, gl g16⟩
                      · refine wo_take (v := (.i .i64 x88)) rfl (s_pure (p_mv g14)) ?_
                        have hq := forceB_inv hr
                        clear hr
                        obtain ⟨c111, e111, hr⟩ := hq
                        refine wo_take (v := (.b c111)) rfl (s_pure (p_bin rfl rfl (b_eql.trans (cb e111)))) ?_
                        refine wo_take (v := (.b c111)) rfl (s_pure (p_pickF rfl rfl)) ?_
                        refine wo_step (v := (.b c111)) (s_pure (p_pickT rfl rfl)) ?_
                        refine wo_nil ?_
                        cases hr
                        exact ⟨_, _, rfl, rfl, gl rfl, gl g16⟩
                    · clear hr
                      have hr := hk
                      clear hk
                      obtain ⟨c113_1, ho⟩ : ∃ z, z = o_6 := ⟨_, rfl⟩
                      subst ho
                      rintro mm_4 t_7 ⟨rfl, g113, g16⟩
                      refine wo_nil ?_
                      cases hr
                      exact ⟨_, _, rfl, rfl, gl g113, gl g16⟩
                  · refine wo_skip (v := (.b false)) rfl rfl ?_
                    refine wo_skip (v := (.b false)) rfl rfl ?_
                    refine wo_skip (v := (.b false)) rfl rfl ?_
                    refine wo_skip (v := und) rfl rfl ?_
                    refine wo_skip (v := und) rfl rfl ?_
                    refine wo_skip (v := (.b false)) rfl rfl ?_
                    refine wo_step (v := (.b false)) (s_pure (p_pickF rfl rfl)) ?_
                    refine wo_nil ?_
                    cases hr
                    exact ⟨_, _, rfl, rfl, gl rfl, gl g16⟩
                · clear hr
                  have hr := hk
                  clear hk
                  obtain ⟨c113, ho⟩ : ∃ z, z = o_5 := ⟨_, rfl⟩
                  subst ho
                  rintro mm_5 t_8 ⟨rfl, g113, g16⟩
                  refine wo_step (v := (.b c113)) (s_pure (p_mv g113)) ?_
                  have hq := bindO_inv hr
                  clear hr
                  obtain ⟨o_7, hr, hk⟩ := hq
                  refine wo_join 3 (g11_J7 m_4 o_7) ?_ ?_
                  · clear hk
                    have hq := cond_inv hr
                    clear hr
                    rcases hq with ⟨rfl, hr⟩ | ⟨rfl, hr⟩
                    · refine wo_take (v := (.i .i64 x93)) rfl (s_pure (p_mv g16)) ?_
                      have hq := forceB_inv hr
                      clear hr
                      obtain ⟨c116, e116, hr⟩ := hq
                      refine wo_take (v := (.b c116)) rfl (s_pure (p_bin rfl rfl (b_eql.trans (cb e116)))) ?_
                      refine wo_step (v := (.b c116)) (s_pure (p_pickT rfl rfl)) ?_
                      refine wo_nil ?_
                      cases hr
                      exact ⟨_, _, rfl, rfl, gl rfl⟩
                    · refine wo_skip (v := (.b false)) rfl rfl ?_
                      refine wo_skip (v := (.b false)) rfl rfl ?_
                      refine wo_step (v := (.b false)) (s_pure (p_pickF rfl rfl)) ?_
                      refine wo_nil ?_
                      cases hr
                      exact ⟨_, _, rfl, rfl, gl rfl⟩
                  · clear hr
                    have hr := hk
                    clear hk
                    obtain ⟨c117, ho⟩ : ∃ z, z = o_7 := ⟨_, rfl⟩
                    subst ho
                    rintro mm_6 t_9 ⟨rfl, g117⟩
                    refine wo_step (v := (.b c117)) (s_pure (p_mv g117)) ?_
                    have hq := bindO_inv hr
                    clear hr
                    obtain ⟨o_8, hr, hk⟩ := hq
                    refine wo_join 2 (g11_J8  o_8) ?_ ?_
                    · clear hk
                      have hq := cond_inv hr
                      clear hr
                      rcases hq with ⟨rfl, hr⟩ | ⟨rfl, hr⟩
                      · have hq := bindP_inv hr
                        clear hr
                        obtain ⟨v119, m_6, e119, hr⟩ := hq
                        have hq := asB_inv hr
                        clear hr
                        obtain ⟨c119, rfl, hr⟩ := hq
                        refine wo_take (v := (.b c119)) rfl (s_call mn (callM_le hM.call e119)) ?_
                        refine wo_step (v := (.b c119)) (s_pure (p_pickT rfl rfl)) ?_
                        refine wo_nil ?_
                        cases hr
                        exact ⟨_, _, rfl, rfl, gl rfl⟩
                      · refine wo_skip (v := (.b false)) rfl rfl ?_
                        refine wo_step (v := (.b false)) (s_pure (p_pickF rfl rfl)) ?_
                        refine wo_nil ?_
                        cases hr
                        exact ⟨_, _, rfl, rfl, gl rfl⟩
                    · clear hr
                      have hr := hk
                      clear hk
                      obtain ⟨c120, m_5⟩ := o_8
                      rintro mm_7 t_10 ⟨rfl, g120⟩
                      refine wo_step (v := (.b c120)) (s_pure (p_mv g120)) ?_
                      refine wo_nil ?_
                      refine nx_norm ?_
                      refine w_ret ?_
                      refine nx_ret ?_
                      exact qf ret_ok (rt rfl rn) hr
            · refine w_condF g99 ?_
              refine w_skip ?_
              refine nx_norm ?_
              refine w_seq ?_
              refine w_ops ?_
              refine wo_step (v := (.s s82)) (s_pure (p_mv g11)) ?_
              have hq := bindP_inv hr
              clear hr
              obtain ⟨v123, m_7, e123, hr⟩ := hq
              refine wo_step (v := v123) (s_call (mc rfl mn) (callM_le hM.call e123)) ?_
              refine wo_step (v := v123) (s_pure (p_mv rfl)) ?_
              have hq := bindO_inv hr
              clear hr
              obtain ⟨v124, e124, hr⟩ := hq
              have hq := asI_inv hr
              clear hr
              obtain ⟨x124, rfl, hr⟩ := hq
              refine wo_step (v := (.i .i64 x124)) (s_pure (o_ext rfl e124)) ?_
              have hq := bindO_inv hr
              clear hr
              obtain ⟨v125, e125, hr⟩ := hq
              have hq := asI_inv hr
              clear hr
              obtain ⟨x125, rfl, hr⟩ := hq
              refine wo_step (v := (.i .i64 x125)) (s_pure (o_ext rfl e125)) ?_
              refine wo_step (v := (.i .i64 x124)) (s_pure (p_mv rfl)) ?_
              refine wo_step (v := (.i .i64 x125)) (s_pure (p_mv rfl)) ?_
              refine wo_nil ?_
              refine nx_norm ?_
              refine w_seq ?_
              refine w_ops ?_
              refine wo_step (v := (.s s87)) (s_pure (p_mv g13)) ?_
              have hq := bindP_inv hr
              clear hr
              obtain ⟨v128, m_8, e128, hr⟩ := hq
              refine wo_step (v := v128) (s_call (mc rfl mn) (callM_le hM.call e128)) ?_
              refine wo_step (v := v128) (s_pure (p_mv rfl)) ?_
              have hq := bindO_inv hr
              clear hr
              obtain ⟨v129, e129, hr⟩ := hq
              have hq := asI_inv hr
              clear hr
              obtain ⟨x129, rfl, hr⟩ := hq
              refine wo_step (v := (.i .i64 x129)) (s_pure (o_ext rfl e129)) ?_
              have hq := bindO_inv hr
              clear hr
              obtain ⟨v130, e130, hr⟩ := hq
              have hq := asI_inv hr
              clear hr
              obtain ⟨x130, rfl, hr⟩ := hq
              refine wo_step (v := (.i .i64 x130)) (s_pure (o_ext rfl e130)) ?_
              refine wo_step (v := (.i .i64 x129)) (s_pure (p_mv rfl)) ?_
              refine wo_step (v := (.i .i64 x130)) (s_pure (p_mv rfl)) ?_
              refine wo_nil ?_
              refine nx_norm ?_
              refine w_seq ?_
              refine w_seq ?_
              refine w_ops ?_
              refine wo_step (v := (.i .i64 x125)) (s_pure (p_mv rfl)) ?_
              have hq := forceB_inv hr
              clear hr
              obtain ⟨c132, e132, hr⟩ := hq
              refine wo_step (v := (.b c132)) (s_pure (p_bin rfl rfl (b_neq.trans (cb e132)))) ?_
              refine wo_step (v := (.b c132)) (s_pure (p_mv rfl)) ?_
              have hq := bindO_inv hr
              clear hr
              obtain ⟨o_9, hr, hk⟩ := hq
              refine wo_join 3 (g11_J9 s82 s92 x93 x124 x129 m_8 o_9) ?_ ?_
              · clear hk
                have hq := cond_inv hr
                clear hr
                rcases hq with ⟨rfl, hr⟩ | ⟨rfl, hr⟩
                · refine wo_skip (v := (.b true)) rfl rfl ?_
                  refine wo_skip (v := (.b true)) rfl rfl ?_
                  refine wo_step (v := (.b true)) (s_pure (p_pickT rfl rfl)) ?_
                  refine wo_nil ?_
                  cases hr
                  exact ⟨_, _, rfl, rfl, gl rfl, gl g11, gl g15, gl g16, gl rfl, gl rfl⟩
                · refine wo_take (v := (.i .i64 x130)) rfl (s_pure (p_mv rfl)) ?_
                  have hq := forceB_inv hr
                  clear hr
                  obtain ⟨c135, e135, hr⟩ := hq
                  refine wo_take (v := (.b c135)) rfl (s_pure (p_bin rfl rfl (b_neq.trans (cb e135)))) ?_
                  refine wo_step (v := (.b c135)) (s_pure (p_pickF rfl rfl)) ?_
                  refine wo_nil ?_
                  cases hr
                  exact ⟨_, _, rfl, rfl, gl rfl, gl g11, gl g15, gl g16, gl rfl, gl rfl⟩
              · clear hr
                have hr := hk
                clear hk
                obtain ⟨c136, ho⟩ : ∃ z, z = o_9 := ⟨_, rfl⟩
                subst ho
                rintro mm_8 t_11 ⟨rfl, g136, g11, g15, g16, g17, g18⟩
                refine wo_nil ?_
                refine nx_norm ?_
                have hq := cond_inv hr
                clear hr
                rcases hq with ⟨rfl, hr⟩ | ⟨rfl, hr⟩
                · refine w_condT g136 ?_
                  refine w_seq ?_
                  refine w_ops ?_
                  refine wo_step (v := (.b false)) (s_pure (p_mv rfl)) ?_
                  refine wo_nil ?_
                  refine nx_norm ?_
                  refine w_ret ?_
                  refine nx_ret ?_
                  exact qf ret_ok (rt rfl rn) hr
                · refine w_condF g136 ?_
                  refine w_skip ?_
                  refine nx_norm ?_
                  refine w_seq ?_
                  refine w_seq ?_
                  refine w_ops ?_
                  refine wo_step (v := (.i .i64 x124)) (s_pure (p_mv g17)) ?_
                  refine wo_step (v := (.i .i64 x129)) (s_pure (p_mv g18)) ?_
                  have hq := forceI_inv hr
                  clear hr
                  obtain ⟨x139, e139, hr⟩ := hq
                  refine wo_step (v := (.i .i64 x139)) (s_pure (p_bin rfl rfl (b_add.trans (ci e139)))) ?_
                  have hq := forceB_inv hr
                  clear hr
                  obtain ⟨c140, e140, hr⟩ := hq
                  refine wo_step (v := (.b c140)) (s_pure (p_bin rfl rfl (b_gtr.trans (cb e140)))) ?_
                  refine wo_nil ?_
                  refine nx_norm ?_
                  have hq := cond_inv hr
                  clear hr
                  rcases hq with ⟨rfl, hr⟩ | ⟨rfl, hr⟩
                  · refine w_condT rfl ?_
                    refine w_seq ?_
                    refine w_ops ?_
                    refine wo_step (v := (.i .i64 x93)) (s_pure (p_mv g16)) ?_
                    have hq := forceB_inv hr
                    clear hr
                    obtain ⟨c142, e142, hr⟩ := hq
                    refine wo_step (v := (.b c142)) (s_pure (p_bin rfl rfl (b_eql.trans (cb e142)))) ?_
                    refine wo_step (v := (.b c142)) (s_pure (p_mv rfl)) ?_
                    have hq := bindO_inv hr
                    clear hr
                    obtain ⟨o_10, hr, hk⟩ := hq
                    refine wo_join 3 (g11_J10 m_8 o_10) ?_ ?_
                    · clear hk
                      have hq := cond_inv hr
                      clear hr
                      rcases hq with ⟨rfl, hr⟩ | ⟨rfl, hr⟩
                      · refine wo_take (v := (.s s92)) rfl (s_pure (p_mv g15)) ?_
                        have hq := bindO_inv hr
                        clear hr
                        obtain ⟨v145, e145, hr⟩ := hq
                        have hq := asB_inv hr
                        clear hr
                        obtain ⟨c145, rfl, hr⟩ := hq
                        refine wo_take (v := (.b c145)) rfl (s_pure (o_sbin rfl rfl e145)) ?_
                        refine wo_step (v := (.b c145)) (s_pure (p_pickT rfl rfl)) ?_
                        refine wo_nil ?_
                        cases hr
                        exact ⟨_, _, rfl, rfl, gl rfl⟩
                      · refine wo_skip (v := (.b false)) rfl rfl ?_
                        refine wo_skip (v := (.b false)) rfl rfl ?_
                        refine wo_step (v := (.b false)) (s_pure (p_pickF rfl rfl)) ?_
                        refine wo_nil ?_
                        cases hr
                        exact ⟨_, _, rfl, rfl, gl rfl⟩
                    · clear hr
                      have hr := hk
                      clear hk
                      obtain ⟨c146, ho⟩ : ∃ z, z = o_10 := ⟨_, rfl⟩
                      subst ho
                      rintro mm_9 t_12 ⟨rfl, g146⟩
                      refine wo_step (v := (.b c146)) (s_pure (p_mv g146)) ?_
                      have hq := bindO_inv hr
                      clear hr
                      obtain ⟨o_11, hr, hk⟩ := hq
                      refine wo_join 2 (g11_J11  o_11) ?_ ?_
                      · clear hk
                        have hq := cond_inv hr
                        clear hr
                        rcases hq with ⟨rfl, hr⟩ | ⟨rfl, hr⟩
                        · have hq := bindP_inv hr
                          clear hr
                          obtain ⟨v148, m_10, e148, hr⟩ := hq
                          have hq := asB_inv hr
                          clear hr
                          obtain ⟨c148, rfl, hr⟩ := hq
                          refine wo_take (v := (.b c148)) rfl (s_call mn (callM_le hM.call e148)) ?_
                          refine wo_step (v := (.b c148)) (s_pure (p_pickT rfl rfl)) ?_
                          refine wo_nil ?_
                          cases hr
                          exact ⟨_, _, rfl, rfl, gl rfl⟩
                        · refine wo_skip (v := (.b false)) rfl rfl ?_
                          refine wo_step (v := (.b false)) (s_pure (p_pickF rfl rfl)) ?_
                          refine wo_nil ?_
                          cases hr
                          exact ⟨_, _, rfl, rfl, gl rfl⟩
                      · clear hr
                        have hr := hk
                        clear hk
                        obtain ⟨c149, m_9⟩ := o_11
                        rintro mm_10 t_13 ⟨rfl, g149⟩
                        refine wo_step (v := (.b c149)) (s_pure (p_mv g149)) ?_
                        refine wo_nil ?_
                        refine nx_norm ?_
                        refine w_ret ?_
                        refine nx_ret ?_
                        exact qf ret_ok (rt rfl rn) hr
                  · refine w_condF rfl ?_
                    refine w_skip ?_
                    refine nx_norm ?_
                    refine w_seq ?_
                    refine w_ops ?_
                    refine wo_step (v := (.s s92)) (s_pure (p_mv g15)) ?_
                    have hq := bindP_inv hr
                    clear hr
                    obtain ⟨v152, m_11, e152, hr⟩ := hq
                    refine wo_step (v := v152) (s_call (mc rfl mn) (callM_le hM.call e152)) ?_
                    refine wo_step (v := v152) (s_pure (p_mv rfl)) ?_
                    have hq := bindO_inv hr
                    clear hr
                    obtain ⟨v153, e153, hr⟩ := hq
                    have hq := asI_inv hr
                    clear hr
                    obtain ⟨x153, rfl, hr⟩ := hq
                    refine wo_step (v := (.i .i64 x153)) (s_pure (o_ext rfl e153)) ?_
                    have hq := bindO_inv hr
                    clear hr
                    obtain ⟨v154, e154, hr⟩ := hq
                    have hq := asI_inv hr
                    clear hr
                    obtain ⟨x154, rfl, hr⟩ := hq
                    refine wo_step (v := (.i .i64 x154)) (s_pure (o_ext rfl e154)) ?_
                    refine wo_step (v := (.i .i64 x153)) (s_pure (p_mv rfl)) ?_
                    refine wo_step (v := (.i .i64 x154)) (s_pure (p_mv rfl)) ?_
                    refine wo_nil ?_
                    refine nx_norm ?_
                    refine w_seq ?_
                    refine w_ops ?_
                    refine wo_step (v := (.s s82)) (s_pure (p_mv g11)) ?_
                    have hq := bindP_inv hr
                    clear hr
                    obtain ⟨v157, m_12, e157, hr⟩ := hq
                    refine wo_step (v := v157) (s_call (mc rfl mn) (callM_le hM.call e157)) ?_
                    refine wo_step (v := v157) (s_pure (p_mv rfl)) ?_
                    have hq := bindO_inv hr
                    clear hr
                    obtain ⟨v158, e158, hr⟩ := hq
                    have hq := asS_inv hr
                    clear hr
                    obtain ⟨s158, rfl, hr⟩ := hq
                    refine wo_step (v := (.s s158)) (s_pure (o_ext rfl e158)) ?_
                    have hq := bindO_inv hr
                    clear hr
                    obtain ⟨v159, e159, hr⟩ := hq
                    have hq := asI_inv hr
                    clear hr
                    obtain ⟨x159, rfl, hr⟩ := hq
                    refine wo_step (v := (.i .i64 x159)) (s_pure (o_ext rfl e159)) ?_
                    refine wo_step (v := (.s s158)) (s_pure (p_mv rfl)) ?_
                    refine wo_step (v := (.i .i64 x159)) (s_pure (p_mv rfl)) ?_
                    refine wo_nil ?_
                    refine nx_norm ?_
                    refine w_seq ?_
                    refine w_ops ?_
                    refine wo_step (v := (.i .i64 x93)) (s_pure (p_mv g16)) ?_
                    have hq := forceB_inv hr
                    clear hr
                    obtain ⟨c161, e161, hr⟩ := hq
                    refine wo_step (v := (.b c161)) (s_pure (p_bin rfl rfl (b_eql.trans (cb e161)))) ?_
                    refine wo_step (v := (.b c161)) (s_pure (p_mv rfl)) ?_
                    have hq := bindO_inv hr
                    clear hr
                    obtain ⟨o_12, hr, hk⟩ := hq
                    refine wo_join 3 (g11_J12 s82 x124 x129 x153 s158 x159 m_12 o_12) ?_ ?_
                    · clear hk
                      have hq := cond_inv hr
                      clear hr
                      rcases hq with ⟨rfl, hr⟩ | ⟨rfl, hr⟩
                      · refine wo_take (v := (.i .i64 x154)) rfl (s_pure (p_mv rfl)) ?_
                        have hq := forceB_inv hr
                        clear hr
                        obtain ⟨c164, e164, hr⟩ := hq
                        refine wo_take (v := (.b c164)) rfl (s_pure (p_bin rfl rfl (b_eql.trans (cb e164)))) ?_
                        refine wo_step (v := (.b c164)) (s_pure (p_pickT rfl rfl)) ?_
                        refine wo_nil ?_
                        cases hr
                        exact ⟨_, _, rfl, rfl, gl rfl, gl g11, gl g17, gl g18, gl rfl, gl rfl, gl rfl⟩
                      · refine wo_skip (v := (.b false)) rfl rfl ?_
                        refine wo_skip (v := (.b false)) rfl rfl ?_
                        refine wo_step (v := (.b false)) (s_pure (p_pickF rfl rfl)) ?_
                        refine wo_nil ?_
                        cases hr
                        exact ⟨_, _, rfl, rfl, gl rfl, gl g11, gl g17, gl g18, gl rfl, gl rfl, gl rfl⟩
                    · clear hr
                      have hr := hk
                      clear hk
                      obtain ⟨c165, ho⟩ : ∃ z, z = o_12 := ⟨_, rfl⟩
                      subst ho
                      rintro mm_11 t_14 ⟨rfl, g165, g11, g17, g18, g19, g21, g22⟩
                      refine wo_step (v := (.b c165)) (s_pure (p_mv g165)) ?_
                      have hq := bindO_inv hr
                      clear hr
                      obtain ⟨o_13, hr, hk⟩ := hq
                      refine wo_join 6 (g11_J13 s82 s158 x159 m_12 o_13) ?_ ?_
                      · clear hk
                        have hq := cond_inv hr
                        clear hr
                        rcases hq with ⟨rfl, hr⟩ | ⟨rfl, hr⟩
                        · refine wo_take (v := (.i .i64 x153)) rfl (s_pure (p_mv g19)) ?_
                          refine wo_take (v := (.i .i64 x124)) rfl (s_pure (p_mv g17)) ?_
                          refine wo_take (v := (.i .i64 x129)) rfl (s_pure (p_mv g18)) ?_
                          have hq := forceI_inv hr
                          clear hr
                          obtain ⟨x170, e170, hr⟩ := hq
                          refine wo_take (v := (.i .i64 x170)) rfl (s_pure (p_bin rfl rfl (b_add.trans (ci e170)))) ?_
                          have hq := forceB_inv hr
                          clear hr
                          obtain ⟨c171, e171, hr⟩ := hq
                          refine wo_take (v := (.b c171)) rfl (s_pure (p_bin rfl rfl (b_eql.trans (cb e171)))) ?_
                          refine wo_step (v := (.b c171)) (s_pure (p_pickT rfl rfl)) ?_
                          refine wo_nil ?_
                          cases hr
                          exact ⟨_, _, rfl, rfl, gl rfl, gl g11, gl g21, gl g22⟩
                        · refine wo_skip (v := (.b false)) rfl rfl ?_
                          refine wo_skip (v := (.b false)) rfl rfl ?_
                          refine wo_skip (v := (.b false)) rfl rfl ?_
                          refine wo_skip (v := (.b false)) rfl rfl ?_
                          refine wo_skip (v := (.b false)) rfl rfl ?_
                          refine wo_step (v := (.b false)) (s_pure (p_pickF rfl rfl)) ?_
                          refine wo_nil ?_
                          cases hr
                          exact ⟨_, _, rfl, rfl, gl rfl, gl g11, gl g21, gl g22⟩
                      · clear hr
                        have hr := hk
                        clear hk
                        obtain ⟨c172, ho⟩ : ∃ z, z = o_13 := ⟨_, rfl⟩
                        subst ho
                        rintro mm_12 t_15 ⟨rfl, g172, g11, g21, g22⟩
                        refine wo_step (v := (.b c172)) (s_pure (p_mv g172)) ?_
                        have hq := bindO_inv hr
                        clear hr
                        obtain ⟨o_14, hr, hk⟩ := hq
                        refine wo_join 13 (g11_J14 m_12 o_14) ?_ ?_
                        · clear hk
                          have hq := cond_inv hr
                          clear hr
                          rcases hq with ⟨rfl, hr⟩ | ⟨rfl, hr⟩
                          · refine wo_take (v := (.i .i64 x159)) rfl (s_pure (p_mv g22)) ?_
                            have hq := forceB_inv hr
                            clear hr
                            obtain ⟨c175, e175, hr⟩ := hq
                            refine wo_take (v := (.b c175)) rfl (s_pure (p_bin rfl rfl (b_eql.trans (cb e175)))) ?_
                            refine wo_take (v := (.b c175)) rfl (s_pure (p_mv rfl)) ?_
                            have hq := bindO_inv hr
                            clear hr
                            obtain ⟨o_15, hr, hk⟩ := hq
                            refine wo_join 10 (g11_J15 m_12 o_15) ?_ ?_
                            · clear hk
                              have hq := cond_inv hr
                              clear hr
                              rcases hq with ⟨rfl, hr⟩ | ⟨rfl, hr⟩
                              · refine wo_take (v := (.s s158)) rfl (s_pure (p_mv g21)) ?_
                                refine wo_take (v := (.s s82)) rfl (s_pure (p_mv g11)) ?_
                                have hq := bindO_inv hr
                                clear hr
                                obtain ⟨v179, e179, hr⟩ := hq
                                have hq := asB_inv hr
                                clear hr
                                obtain ⟨c179, rfl, hr⟩ := hq
                                refine wo_take (v := (.b c179)) rfl (s_pure (o_sbin rfl rfl e179)) ?_
                                refine wo_take (v := (.b c179)) rfl (s_pure (p_pickT rfl rfl)) ?_
                                refine wo_take (v := (.b c179)) rfl (s_pure (p_mv rfl)) ?_
                                have hq := bindO_inv hr
                                clear hr
                                obtain ⟨o_16, hr, hk⟩ := hq
                                refine wo_join 5 (g11_J16 m_12 o_16) ?_ ?_
                                · clear hk
                                  have hq := cond_inv hr
                                  clear hr
                                  rcases hq with ⟨rfl, hr⟩ | ⟨rfl, hr⟩
                                  · refine wo_skip (v := (.b true)) rfl rfl ?_
                                    refine wo_skip (v := (.b true)) rfl rfl ?_
                                    refine wo_skip (v := (.b true)) rfl rfl ?_
                                    refine wo_take (v := (.b true)) rfl (s_pure (p_pickT rfl rfl)) ?_
                                    refine wo_step (v := (.b true)) (s_pure (p_pickT rfl rfl)) ?_
                                    refine wo_nil ?_
                                    cases hr
                                    exact ⟨_, _, rfl, rfl, gl rfl⟩
                                  · refine wo_take (v := (.s s82)) rfl (s_pure (p_mv g11)) ?_
                                    have hq := bindO_inv hr
                                    clear hr
                                    obtain ⟨v183, e183, hr⟩ := hq
                                    have hq := asI_inv hr
                                    clear hr
                                    obtain ⟨x183, rfl, hr⟩ := hq
                                    refine wo_take (v := (.i .i64 x183)) rfl (s_pure (o_len rfl e183)) ?_
                                    have hq := forceB_inv hr
                                    clear hr
                                    obtain ⟨c184, e184, hr⟩ := hq
                                    refine wo_take (v := (.b c184)) rfl (s_pure (p_bin rfl rfl (b_gtr.trans (cb e184)))) ?_
                                    refine wo_take (v := (.b c184)) rfl (s_pure (p_pickF rfl rfl)) ?_
                                    refine wo_step (v := (.b c184)) (s_pure (p_pickT rfl rfl)) ?_
                                    refine wo_nil ?_
                                    cases hr
                                    exact ⟨_, _, rfl, rfl, gl rfl⟩
                                · clear hr
                                  have hr := hk
                                  clear hk
                                  obtain ⟨c186_2, ho⟩ : ∃ z, z = o_16 := ⟨_, rfl⟩
                                  subst ho
                                  rintro mm_13 t_16 ⟨rfl, g186⟩
                                  refine wo_nil ?_
                                  cases hr
                                  exact ⟨_, _, rfl, rfl, gl g186⟩
                              · refine wo_skip (v := (.b false)) rfl rfl ?_
                                refine wo_skip (v := (.b false)) rfl rfl ?_
                                refine wo_skip (v := (.b false)) rfl rfl ?_
                                refine wo_take (v := (.b false)) rfl (s_pure (p_pickF rfl rfl)) ?_
                                refine wo_take (v := (.b false)) rfl (s_pure (p_mv rfl)) ?_
                                refine wo_take (v := (.s s82)) rfl (s_pure (p_mv g11)) ?_
                                have hq := bindO_inv hr
                                clear hr
                                obtain ⟨v183_1, e183_1, hr⟩ := hq
                                have hq := asI_inv hr
                                clear hr
                                obtain ⟨x183_1, rfl, hr⟩ := hq
                                refine wo_take (v := (.i .i64 x183_1)) rfl (s_pure (o_len rfl e183_1)) ?_
                                have hq := forceB_inv hr
                                clear hr
                                obtain ⟨c184_1, e184_1, hr⟩ := hq
                                refine wo_take (v := (.b c184_1)) rfl (s_pure (p_bin rfl rfl (b_gtr.trans (cb e184_1)))) ?_
                                refine wo_take (v := (.b c184_1)) rfl (s_pure (p_pickF rfl rfl)) ?_
                                refine wo_step (v := (.b c184_1)) (s_pure (p_pickT rfl rfl)) ?_
                                refine wo_nil ?_
                                cases hr
                                exact ⟨_, _, rfl, rfl, gl rfl⟩
                            · clear hr
                              have hr := hk
                              clear hk
                              obtain ⟨c186_1, ho⟩ : ∃ z, z = o_15 := ⟨_, rfl⟩
                              subst ho
                              rintro mm_14 t_17 ⟨rfl, g186⟩
                              refine wo_nil ?_
                              cases hr
                              exact ⟨_, _, rfl, rfl, gl g186⟩
                          · refine wo_skip (v := (.b false)) rfl rfl ?_
                            refine wo_skip (v := (.b false)) rfl rfl ?_
                            refine wo_skip (v := (.b false)) rfl rfl ?_
                            refine wo_skip (v := und) rfl rfl ?_
                            refine wo_skip (v := und) rfl rfl ?_
                            refine wo_skip (v := und) rfl rfl ?_
                            refine wo_skip (v := (.b false)) rfl rfl ?_
                            refine wo_skip (v := (.b false)) rfl rfl ?_
                            refine wo_skip (v := und) rfl rfl ?_
                            refine wo_skip (v := und) rfl rfl ?_
                            refine wo_skip (v := und) rfl rfl ?_
                            refine wo_skip (v := (.b false)) rfl rfl ?_
                            refine wo_step (v := (.b false)) (s_pure (p_pickF rfl rfl)) ?_
                            refine wo_nil ?_
                            cases hr
                            exact ⟨_, _, rfl, rfl, gl rfl⟩
                        · clear hr
                          have hr := hk
                          clear hk
                          obtain ⟨c186, ho⟩ : ∃ z, z = o_14 := ⟨_, rfl⟩
                          subst ho
                          rintro mm_15 t_18 ⟨rfl, g186⟩
                          refine wo_step (v := (.b c186)) (s_pure (p_mv g186)) ?_
                          have hq := bindO_inv hr
                          clear hr
                          obtain ⟨o_17, hr, hk⟩ := hq
                          refine wo_join 2 (g11_J17  o_17) ?_ ?_
                          · clear hk
                            have hq := cond_inv hr
                            clear hr
                            rcases hq with ⟨rfl, hr⟩ | ⟨rfl, hr⟩
                            · have hq := bindP_inv hr
                              clear hr
                              obtain ⟨v188, m_14, e188, hr⟩ := hq
                              have hq := asB_inv hr
                              clear hr
                              obtain ⟨c188, rfl, hr⟩ := hq
                              refine wo_take (v := (.b c188)) rfl (s_call mn (callM_le hM.call e188)) ?_
                              refine wo_step (v := (.b c188)) (s_pure (p_pickT rfl rfl)) ?_
                              refine wo_nil ?_
                              cases hr
                              exact ⟨_, _, rfl, rfl, gl rfl⟩
                            · refine wo_skip (v := (.b false)) rfl rfl ?_
                              refine wo_step (v := (.b false)) (s_pure (p_pickF rfl rfl)) ?_
                              refine wo_nil ?_
                              cases hr
                              exact ⟨_, _, rfl, rfl, gl rfl⟩
                          · clear hr
                            have hr := hk
                            clear hk
                            obtain ⟨c189, m_13⟩ := o_17
                            rintro mm_16 t_19 ⟨rfl, g189⟩
                            refine wo_step (v := (.b c189)) (s_pure (p_mv g189)) ?_
                            refine wo_nil ?_
                            refine nx_norm ?_
                            refine w_ret ?_
                            exact qf ret_ok (rt rfl rn) hr

/- dibber/seed.Read -/

def g21 (M : Means) (ro : List ABlk) (s0 : List UInt8) (m0 : Mm) : Option (AVal × Heap × Nat × Nat) :=
  bindP (callM M.call m0 55 [(.s s0)]) fun v6 m_1 =>
  asB v6 fun c6 =>
  forceB (!c6) fun c7 =>
  cond c7 (
    finM m0.h.length (tupA [(.i .i64 0), (.i .i64 5)]) m_1) (
    bindP (callM M.call m_1 56 [(.s s0)]) fun v9 m_2 =>
    asI .i64 v9 fun x9 =>
    forceB (ltI 1152921504606846976 x9) fun c11 =>
    cond c11 (
      finM m0.h.length (tupA [(.i .i64 0), (.i .i64 4)]) m_2) (
      finM m0.h.length (tupA [(.i .i64 x9), (.i .i64 0)]) m_2))

theorem g21_ok {ro : List ABlk} {O : Caller} {M : Means} (hM : M.Ok ⟨F, O⟩ ro) {s0 h r} (ho : O 21 [(.s s0)] h = none) (hr : g21 M ro s0 ⟨h, h.length, h.length⟩ = some r) : callX ⟨F, O⟩ ro 21 [(.s s0)] h = some r := by
  refine callX_of (F := ⟨F, O⟩) (fn := fn21) (g := g21 M ro s0) ho rfl rfl hr ?_
  clear ho
  clear hr
  intro m0 t0 ht hr
  have g0 : t0.get 0 = (.s s0) := ht 0
  clear ht
  unfold g21 at hr
  refine w_seq ?_
  refine w_ops ?_
  refine wo_step (v := (.i .i64 0)) (s_pure (p_mv rfl)) ?_
  refine wo_step (v := (.i .i64 0)) (s_pure (p_mv rfl)) ?_
  refine wo_nil ?_
  refine nx_norm ?_
  refine w_seq ?_
  refine w_seq ?_
  refine w_ops ?_
  refine wo_step (v := (.s s0)) (s_pure (p_mv g0)) ?_
  have hq := bindP_inv hr
  clear hr
  obtain ⟨v6, m_1, e6, hr⟩ := hq
  have hq := asB_inv hr
  clear hr
  obtain ⟨c6, rfl, hr⟩ := hq
  refine wo_step (v := (.b c6)) (s_call (mc rfl mn) (callM_le hM.call e6)) ?_
  have hq := forceB_inv hr
  clear hr
  obtain ⟨c7, e7, hr⟩ := hq
  refine wo_step (v := (.b c7)) (s_pure ((p_not rfl).trans (cb e7))) ?_
  refine wo_nil ?_
  refine nx_norm ?_
  have hq := cond_inv hr
  clear hr
  rcases hq with ⟨rfl, hr⟩ | ⟨rfl, hr⟩
  · refine w_condT rfl ?_
    refine w_seq ?_
    refine w_ops ?_
    refine wo_step (v := (.i .i64 0)) (s_pure (p_mv rfl)) ?_
    refine wo_step (v := (.i .i64 5)) (s_pure (p_mv rfl)) ?_
    refine wo_nil ?_
    refine nx_norm ?_
    refine w_ret ?_
    refine nx_ret ?_
    exact qf ret_ok (rt rfl (rt rfl rn)) hr
  · refine w_condF rfl ?_
    refine w_skip ?_
    refine nx_norm ?_
    refine w_seq ?_
    refine w_ops ?_
    refine wo_step (v := (.s s0)) (s_pure (p_mv g0)) ?_
    have hq := bindP_inv hr
    clear hr
    obtain ⟨v9, m_2, e9, hr⟩ := hq
    have hq := asI_inv hr
    clear hr
    obtain ⟨x9, rfl, hr⟩ := hq
    refine wo_step (v := (.i .i64 x9)) (s_call (mc rfl mn) (callM_le hM.call e9)) ?_
    refine wo_step (v := (.i .i64 x9)) (s_pure (p_mv rfl)) ?_
    refine wo_nil ?_
    refine nx_norm ?_
    refine w_seq ?_
    refine w_seq ?_
    refine w_ops ?_
    refine wo_step (v := (.i .i64 x9)) (s_pure (p_mv rfl)) ?_
    have hq := forceB_inv hr
    clear hr
    obtain ⟨c11, e11, hr⟩ := hq
    refine wo_step (v := (.b c11)) (s_pure (p_bin rfl rfl (b_gtr.trans (cb e11)))) ?_
    refine wo_nil ?_
    refine nx_norm ?_
    have hq := cond_inv hr
    clear hr
    rcases hq with ⟨rfl, hr⟩ | ⟨rfl, hr⟩
    · refine w_condT rfl ?_
      refine w_seq ?_
      refine w_ops ?_
      refine wo_step (v := (.i .i64 0)) (s_pure (p_mv rfl)) ?_
      refine wo_step (v := (.i .i64 4)) (s_pure (p_mv rfl)) ?_
      refine wo_nil ?_
      refine nx_norm ?_
      refine w_ret ?_
      refine nx_ret ?_
      exact qf ret_ok (rt rfl (rt rfl rn)) hr
    · refine w_condF rfl ?_
      refine w_skip ?_
      refine nx_norm ?_
      refine w_seq ?_
      refine w_ops ?_
      refine wo_step (v := (.i .i64 x9)) (s_pure (p_mv rfl)) ?_
      refine wo_step (v := (.i .i64 x9)) (s_pure (p_mv rfl)) ?_
      refine wo_step (v := (.i .i64 0)) (s_pure (p_mv rfl)) ?_
      refine wo_nil ?_
      refine nx_norm ?_
      refine w_ret ?_
      exact qf ret_ok (rt rfl (rt rfl rn)) hr

/- dibber/seed.Tidy -/

def g23 (M : Means) (ro : List ABlk) (s0 : List UInt8) (m0 : Mm) : Option (AVal × Heap × Nat × Nat) :=
  bindO (evP .e (.len true (.c (.s s0)))) fun v6 =>
  asI .i64 v6 fun x6 =>
  forceB (ltI 100 x6) fun c7 =>
  cond c7 (
    finM m0.h.length (tupA [(.s []), (.i .i64 3)]) m0) (
    bindP (callM M.call m0 58 [(.s s0)]) fun v9 m_1 =>
    asB v9 fun c9 =>
    forceB (!c9) fun c10 =>
    cond c10 (
      finM m0.h.length (tupA [(.s []), (.i .i64 5)]) m_1) (
      bindP (callM M.call m_1 56 [(.s s0)]) fun v12 m_2 =>
      asI .i64 v12 fun x12 =>
      forceB (ltI 1152921504606846976 x12) fun c14 =>
      cond c14 (
        finM m0.h.length (tupA [(.s []), (.i .i64 4)]) m_2) (
        bindP (callM M.call m_2 52 [(.i .i64 x12)]) fun v16 m_3 =>
        asS v16 fun s16 =>
        finM m0.h.length (tupA [(.s s16), (.i .i64 0)]) m_3)))

theorem g23_ok {ro : List ABlk} {O : Caller} {M : Means} (hM : M.Ok ⟨F, O⟩ ro) {s0 h r} (ho : O 23 [(.s s0)] h = none) (hr : g23 M ro s0 ⟨h, h.length, h.length⟩ = some r) : callX ⟨F, O⟩ ro 23 [(.s s0)] h = some r := by
  refine callX_of (F := ⟨F, O⟩) (fn := fn23) (g := g23 M ro s0) ho rfl rfl hr ?_
  clear ho
  clear hr
  intro m0 t0 ht hr
  have g0 : t0.get 0 = (.s s0) := ht 0
  clear ht
  unfold g23 at hr
  refine w_seq ?_
  refine w_ops ?_
  refine wo_step (v := (AVal.s [])) (s_pure (p_mv rfl)) ?_
  refine wo_step (v := (.i .i64 0)) (s_pure (p_mv rfl)) ?_
  refine wo_nil ?_
  refine nx_norm ?_
  refine w_seq ?_
  refine w_seq ?_
  refine w_ops ?_
  refine wo_step (v := (.s s0)) (s_pure (p_mv g0)) ?_
  have hq := bindO_inv hr
  clear hr
  obtain ⟨v6, e6, hr⟩ := hq
  have hq := asI_inv hr
  clear hr
  obtain ⟨x6, rfl, hr⟩ := hq
  refine wo_step (v := (.i .i64 x6)) (s_pure (o_len rfl e6)) ?_
  have hq := forceB_inv hr
  clear hr
  obtain ⟨c7, e7, hr⟩ := hq
  refine wo_step (v := (.b c7)) (s_pure (p_bin rfl rfl (b_gtr.trans (cb e7)))) ?_
  refine wo_nil ?_
  refine nx_norm ?_
  have hq := cond_inv hr
  clear hr
  rcases hq with ⟨rfl, hr⟩ | ⟨rfl, hr⟩
  · refine w_condT rfl ?_
    refine w_seq ?_
    refine w_ops ?_
    refine wo_step (v := (AVal.s [])) (s_pure (p_mv rfl)) ?_
    refine wo_step (v := (.i .i64 3)) (s_pure (p_mv rfl)) ?_
    refine wo_nil ?_
    refine nx_norm ?_
    refine w_ret ?_
    refine nx_ret ?_
    exact qf ret_ok (rt rfl (rt rfl rn)) hr
  · refine w_condF rfl ?_
    refine w_skip ?_
    refine nx_norm ?_
    refine w_seq ?_
    refine w_seq ?_
    refine w_ops ?_
    refine wo_step (v := (.s s0)) (s_pure (p_mv g0)) ?_
    have hq := bindP_inv hr
    clear hr
    obtain ⟨v9, m_1, e9, hr⟩ := hq
    have hq := asB_inv hr
    clear hr
    obtain ⟨c9, rfl, hr⟩ := hq
    refine wo_step (v := (.b c9)) (s_call (mc rfl mn) (callM_le hM.call e9)) ?_
    have hq := forceB_inv hr
    clear hr
    obtain ⟨c10, e10, hr⟩ := hq
    refine wo_step (v := (.b c10)) (s_pure ((p_not rfl).trans (cb e10))) ?_
    refine wo_nil ?_
    refine nx_norm ?_
    have hq := cond_inv hr
    clear hr
    rcases hq with ⟨rfl, hr⟩ | ⟨rfl, hr⟩
    · refine w_condT rfl ?_
      refine w_seq ?_
      refine w_ops ?_
      refine wo_step (v := (AVal.s [])) (s_pure (p_mv rfl)) ?_
      refine wo_step (v := (.i .i64 5)) (s_pure (p_mv rfl)) ?_
      refine wo_nil ?_
      refine nx_norm ?_
      refine w_ret ?_
      refine nx_ret ?_
      exact qf ret_ok (rt rfl (rt rfl rn)) hr
    · refine w_condF rfl ?_
      refine w_skip ?_
      refine nx_norm ?_
      refine w_seq ?_
      refine w_ops ?_
      refine wo_step (v := (.s s0)) (s_pure (p_mv g0)) ?_
      have hq := bindP_inv hr
      clear hr
      obtain ⟨v12, m_2, e12, hr⟩ := hq
      have hq := asI_inv hr
      clear hr
      obtain ⟨x12, rfl, hr⟩ := hq
      refine wo_step (v := (.i .i64 x12)) (s_call (mc rfl mn) (callM_le hM.call e12)) ?_
      refine wo_step (v := (.i .i64 x12)) (s_pure (p_mv rfl)) ?_
      refine wo_nil ?_
      refine nx_norm ?_
      refine w_seq ?_
      refine w_seq ?_
      refine w_ops ?_
      refine wo_step (v := (.i .i64 x12)) (s_pure (p_mv rfl)) ?_
      have hq := forceB_inv hr
      clear hr
      obtain ⟨c14, e14, hr⟩ := hq
      refine wo_step (v := (.b c14)) (s_pure (p_bin rfl rfl (b_gtr.trans (cb e14)))) ?_
      refine wo_nil ?_
      refine nx_norm ?_
      have hq := cond_inv hr
      clear hr
      rcases hq with ⟨rfl, hr⟩ | ⟨rfl, hr⟩
      · refine w_condT rfl ?_
        refine w_seq ?_
        refine w_ops ?_
        refine wo_step (v := (AVal.s [])) (s_pure (p_mv rfl)) ?_
        refine wo_step (v := (.i .i64 4)) (s_pure (p_mv rfl)) ?_
        refine wo_nil ?_
        refine nx_norm ?_
        refine w_ret ?_
        refine nx_ret ?_
        exact qf ret_ok (rt rfl (rt rfl rn)) hr
      · refine w_condF rfl ?_
        refine w_skip ?_
        refine nx_norm ?_
        refine w_seq ?_
        refine w_ops ?_
        refine wo_step (v := (.i .i64 x12)) (s_pure (p_mv rfl)) ?_
        have hq := bindP_inv hr
        clear hr
        obtain ⟨v16, m_3, e16, hr⟩ := hq
        have hq := asS_inv hr
        clear hr
        obtain ⟨s16, rfl, hr⟩ := hq
        refine wo_step (v := (.s s16)) (s_call (mc rfl mn) (callM_le hM.call e16)) ?_
        refine wo_step (v := (.s s16)) (s_pure (p_mv rfl)) ?_
        refine wo_step (v := (.i .i64 0)) (s_pure (p_mv rfl)) ?_
        refine wo_nil ?_
        refine nx_norm ?_
        refine w_ret ?_
        exact qf ret_ok (rt rfl (rt rfl rn)) hr

/- dibber/seed.written -/
abbrev g52_I0 (x14 : Int) (v20 : AVal) (v11 : AVal) (x22 : Int) (s : Int × Mm) (m1 : Mm) (t1 : Tr) : Prop :=
  match s with
  | (x23, m_5) => m_5 = m1 ∧ t1.get 23 = (.i .i64 x23) ∧ t1.get 4 = (.i .i64 x14) ∧ t1.get 5 = v20 ∧ t1.get 21 = v11 ∧ t1.get 22 = (.i .i64 x22)
abbrev g52_J0 (x14 : Int) (v20 : AVal) (v11 : AVal) (x22 : Int) (o : Mm) (e : AExit) (m1 : Mm) (t1 : Tr) : Prop :=
  match o with
  | mo => e = (.exit 0) ∧ mo = m1 ∧ t1.get 5 = v20
def g52_b0 (M : Means) (ro : List ABlk) (x14 : Int) (v20 : AVal) (v11 : AVal) (x22 : Int) (x23 : Int) (m_5 : Mm) : Option ((Int × Mm) ⊕ (Mm)) :=
  forceB (ltI x23 x22) fun c24 =>
  cond c24 (
    bindO (evP .e (.ixS 1 (.c v11) (.c (.i .i64 x23)))) fun v25 =>
    bindO (ldM ro m_5 true 1 v25) fun v26 =>
    asI .i64 v26 fun x26 =>
    forceI (wr .i64 (x14 - x26)) fun x30 =>
    bindO (evP .e (.ixS 1 (.c v20) (.c (.i .i64 x30)))) fun v31 =>
    bindP (stepM ro m_5 (.st 1 (.c v31) (.c (.i .u8 49)))) fun vn m_6 =>
    forceI (wr .i64 (x23 + 1)) fun x32 =>
    some (.inl (x32, m_6))) (
    some (.inr m_5))
def g52 (M : Means) (ro : List ABlk) (x0 : Int) (m0 : Mm) : Option (AVal × Heap × Nat × Nat) :=
  forceB (eqI x0 0) fun c9 =>
  cond c9 (
    finM m0.h.length (tupA [(.s [48])]) m0) (
    bindP (callM M.call m0 60 [(.i .i64 x0)]) fun v11 m_1 =>
    bindO (evP .e (.ixS 1 (.c v11) (.c (.i .i64 0)))) fun v13 =>
    bindO (ldM ro m_1 true 1 v13) fun v14 =>
    asI .i64 v14 fun x14 =>
    bindP (stepM ro m_1 (.bsl 5 1 [(AVal.i IntKind.u8 0)] 1 [((0, 1), .c (.i .u8 48))])) fun v15 m_2 =>
    bindP (stepM ro m_2 (.mks (.c v15))) fun v16 m_3 =>
    forceI (wr .i64 (x14 - 2)) fun x18 =>
    forceI (wr .i64 (x18 + 1)) fun x19 =>
    bindP (callM M.call m_3 73 [v16, (.i .i64 x19)]) fun v20 m_4 =>
    bindO (evP .e (.len false (.c v11))) fun v22 =>
    asI .i64 v22 fun x22 =>
    bindO (M.loop (S := Int × Mm) (R := Mm) (fun s => g52_b0 M ro x14 v20 v11 x22 s.1 s.2) (0, m_4)) fun m_7 =>
    bindO (btsM ro m_7 v20) fun v34 =>
    asS v34 fun s34 =>
    finM m0.h.length (tupA [(.s s34)]) m_7)

theorem g52_ok {ro : List ABlk} {O : Caller} {M : Means} (hM : M.Ok ⟨F, O⟩ ro) {x0 h r} (ho : O 52 [(.i .i64 x0)] h = none) (hr : g52 M ro x0 ⟨h, h.length, h.length⟩ = some r) : callX ⟨F, O⟩ ro 52 [(.i .i64 x0)] h = some r := by
  refine callX_of (F := ⟨F, O⟩) (fn := fn52) (g := g52 M ro x0) ho rfl rfl hr ?_
  clear ho
  clear hr
  intro m0 t0 ht hr
  have g0 : t0.get 0 = (.i .i64 x0) := ht 0
  clear ht
  unfold g52 at hr
  refine w_seq ?_
  refine w_ops ?_
  refine wo_step (v := (AVal.s [])) (s_pure (p_mv rfl)) ?_
  refine wo_nil ?_
  refine nx_norm ?_
  refine w_seq ?_
  refine w_seq ?_
  refine w_ops ?_
  refine wo_step (v := (.i .i64 x0)) (s_pure (p_mv g0)) ?_
  have hq := forceB_inv hr
  clear hr
  obtain ⟨c9, e9, hr⟩ := hq
  refine wo_step (v := (.b c9)) (s_pure (p_bin rfl rfl (b_eql.trans (cb e9)))) ?_
  refine wo_nil ?_
  refine nx_norm ?_
  have hq := cond_inv hr
  clear hr
  rcases hq with ⟨rfl, hr⟩ | ⟨rfl, hr⟩
  · refine w_condT rfl ?_
    refine w_seq ?_
    refine w_ops ?_
    refine wo_step (v := (AVal.s [48])) (s_pure (p_mv rfl)) ?_
    refine wo_nil ?_
    refine nx_norm ?_
    refine w_ret ?_
    refine nx_ret ?_
    exact qf ret_ok (rt rfl rn) hr
  · refine w_condF rfl ?_
    refine w_skip ?_
    refine nx_norm ?_
    refine w_seq ?_
    refine w_ops ?_
    refine wo_step (v := (.i .i64 x0)) (s_pure (p_mv g0)) ?_
    have hq := bindP_inv hr
    clear hr
    obtain ⟨v11, m_1, e11, hr⟩ := hq
    refine wo_step (v := v11) (s_call (mc rfl mn) (callM_le hM.call e11)) ?_
    refine wo_step (v := v11) (s_pure (p_mv rfl)) ?_
    refine wo_nil ?_
    refine nx_norm ?_
    refine w_seq ?_
    refine w_ops ?_
    refine wo_step (v := v11) (s_pure (p_mv rfl)) ?_
    have hq := bindO_inv hr
    clear hr
    obtain ⟨v13, e13, hr⟩ := hq
    refine wo_step (v := v13) (s_pure (o_ixS rfl rfl e13)) ?_
    have hq := bindO_inv hr
    clear hr
    obtain ⟨v14, e14, hr⟩ := hq
    have hq := asI_inv hr
    clear hr
    obtain ⟨x14, rfl, hr⟩ := hq
    refine wo_step (v := (.i .i64 x14)) (s_ld rfl e14) ?_
    refine wo_step (v := (.i .i64 x14)) (s_pure (p_mv rfl)) ?_
    refine wo_nil ?_
    refine nx_norm ?_
    refine w_seq ?_
    refine w_ops ?_
    have hq := bindP_inv hr
    clear hr
    obtain ⟨v15, m_2, e15, hr⟩ := hq
    refine wo_step (v := v15) (s_bsl (qc rfl qn) e15) ?_
    have hq := bindP_inv hr
    clear hr
    obtain ⟨v16, m_3, e16, hr⟩ := hq
    refine wo_step (v := v16) (s_mks rfl e16) ?_
    refine wo_step (v := (.i .i64 x14)) (s_pure (p_mv rfl)) ?_
    have hq := forceI_inv hr
    clear hr
    obtain ⟨x18, e18, hr⟩ := hq
    refine wo_step (v := (.i .i64 x18)) (s_pure (p_bin rfl rfl (b_sub.trans (ci e18)))) ?_
    have hq := forceI_inv hr
    clear hr
    obtain ⟨x19, e19, hr⟩ := hq
    refine wo_step (v := (.i .i64 x19)) (s_pure (p_bin rfl rfl (b_add.trans (ci e19)))) ?_
    have hq := bindP_inv hr
    clear hr
    obtain ⟨v20, m_4, e20, hr⟩ := hq
    refine wo_step (v := v20) (s_call (mc rfl (mc rfl mn)) (callM_le hM.call e20)) ?_
    refine wo_step (v := v20) (s_pure (p_mv rfl)) ?_
    refine wo_nil ?_
    refine nx_norm ?_
    refine w_seq ?_
    refine w_seq ?_
    refine w_ops ?_
    refine wo_step (v := v11) (s_pure (p_mv rfl)) ?_
    have hq := bindO_inv hr
    clear hr
    obtain ⟨v22, e22, hr⟩ := hq
    have hq := asI_inv hr
    clear hr
    obtain ⟨x22, rfl, hr⟩ := hq
    refine wo_step (v := (.i .i64 x22)) (s_pure (o_len rfl e22)) ?_
    refine wo_step (v := (.i .i64 0)) (s_pure (p_mv rfl)) ?_
    refine wo_nil ?_
    refine nx_norm ?_
    refine w_block ?_
    have hq := bindO_inv hr
    clear hr
    obtain ⟨o, hl, hr⟩ := hq
    obtain ⟨n, hl⟩ := hM.loop _ _ _ hl
    refine jp_mono (w_loop _ (g52_I0 x14 v20 v11 x22) (g52_J0 x14 v20 v11 x22) ?_ n _ _ _ _ hl ⟨rfl, gl rfl, gl rfl, gl rfl, gl rfl, gl rfl⟩) ?_
    · clear hr hl
      intro s mm_1 t_1 o hi hr
      obtain ⟨x23, m_5⟩ := s
      obtain ⟨rfl, g23, g4, g5, g21, g22⟩ := hi
      unfold g52_b0 at hr
      refine w_seq ?_
      refine w_ops ?_
      have hq := forceB_inv hr
      clear hr
      obtain ⟨c24, e24, hr⟩ := hq
      refine wo_step (v := (.b c24)) (s_pure (p_bin g23 g22 (b_lss.trans (cb e24)))) ?_
      refine wo_nil ?_
      refine nx_norm ?_
      refine w_seq ?_
      have hq := cond_inv hr
      clear hr
      rcases hq with ⟨rfl, hr⟩ | ⟨rfl, hr⟩
      · refine w_condT rfl ?_
        refine w_skip ?_
        refine nx_norm ?_
        refine w_seq ?_
        refine w_block ?_
        refine w_seq ?_
        refine w_ops ?_
        have hq := bindO_inv hr
        clear hr
        obtain ⟨v25, e25, hr⟩ := hq
        refine wo_step (v := v25) (s_pure (o_ixS g21 g23 e25)) ?_
        have hq := bindO_inv hr
        clear hr
        obtain ⟨v26, e26, hr⟩ := hq
        have hq := asI_inv hr
        clear hr
        obtain ⟨x26, rfl, hr⟩ := hq
        refine wo_step (v := (.i .i64 x26)) (s_ld rfl e26) ?_
        refine wo_step (v := (.i .i64 x26)) (s_pure (p_mv rfl)) ?_
        refine wo_nil ?_
        refine nx_norm ?_
        refine w_ops ?_
        refine wo_step (v := v20) (s_pure (p_mv g5)) ?_
        refine wo_step (v := (.i .i64 x14)) (s_pure (p_mv g4)) ?_
        refine wo_step (v := (.i .i64 x26)) (s_pure (p_mv rfl)) ?_
        have hq := forceI_inv hr
        clear hr
        obtain ⟨x30, e30, hr⟩ := hq
        refine wo_step (v := (.i .i64 x30)) (s_pure (p_bin rfl rfl (b_sub.trans (ci e30)))) ?_
        have hq := bindO_inv hr
        clear hr
        obtain ⟨v31, e31, hr⟩ := hq
        refine wo_step (v := v31) (s_pure (o_ixS rfl rfl e31)) ?_
        have hq := bindP_inv hr
        clear hr
        obtain ⟨vn, m_6, en, hr⟩ := hq
        refine wo_stepN (s_st rfl rfl en) ?_
        refine wo_nil ?_
        refine bk_norm ?_
        refine nx_norm ?_
        refine w_ops ?_
        have hq := forceI_inv hr
        clear hr
        obtain ⟨x32, e32, hr⟩ := hq
        refine wo_step (v := (.i .i64 x32)) (s_pure (p_bin g23 rfl (b_add.trans (ci e32)))) ?_
        refine wo_step (v := (.i .i64 x32)) (s_pure (p_mv rfl)) ?_
        refine wo_nil ?_
        cases hr
        exact ⟨_, _, rfl, rfl, rfl, gl rfl, gl g4, gl g5, gl g21, gl g22⟩
      · refine w_condF rfl ?_
        refine w_exit ?_
        refine nx_exit ?_
        cases hr
        exact ⟨_, _, rfl, ne_norm_exit, rfl, rfl, gl g5⟩
    · obtain ⟨m_7, ho⟩ : ∃ z, z = o := ⟨_, rfl⟩
      subst ho
      rintro _ mm t_2 ⟨rfl, rfl, g5⟩
      refine bk_hit ?_
      refine nx_norm ?_
      refine w_seq ?_
      refine w_ops ?_
      refine wo_step (v := v20) (s_pure (p_mv g5)) ?_
      have hq := bindO_inv hr
      clear hr
      obtain ⟨v34, e34, hr⟩ := hq
      have hq := asS_inv hr
      clear hr
      obtain ⟨s34, rfl, hr⟩ := hq
      refine wo_step (v := (.s s34)) (s_bts rfl e34) ?_
      refine wo_step (v := (.s s34)) (s_pure (p_mv rfl)) ?_
      refine wo_nil ?_
      refine nx_norm ?_
      refine w_ret ?_
      exact qf ret_ok (rt rfl rn) hr

/- dibber/seed.isWord -/
abbrev g55_I0 (s0 : List UInt8) (v7 : AVal) (s : Int × Mm) (m1 : Mm) (t1 : Tr) : Prop :=
  match s with
  | (x3, m_2) => m_2 = m1 ∧ t1.get 3 = (.i .i32 x3) ∧ t1.get 0 = (.s s0) ∧ t1.get 7 = v7
abbrev g55_J0 (s0 : List UInt8) (v7 : AVal) (o : (Mm ⊕ (Bool × Mm))) (e : AExit) (m1 : Mm) (t1 : Tr) : Prop :=
  match o with
  | (.inl mo) => e = (.exit 0) ∧ mo = m1 ∧ t1.get 0 = (.s s0)
  | (.inr (y2, mo)) => e = .ret ∧ mo = m1 ∧ t1.get 2 = (.b y2)
abbrev g55_J1 (s0 : List UInt8) (x3 : Int) (x10 : Int) (v7 : AVal) (m_3 : Mm) (o : Bool) (m1 : Mm) (t1 : Tr) : Prop :=
  match o with
  | c16 => m_3 = m1 ∧ t1.get 16 = (.b c16) ∧ t1.get 0 = (.s s0) ∧ t1.get 3 = (.i .i32 x3) ∧ t1.get 5 = (.i .i32 x10) ∧ t1.get 7 = v7
abbrev g55_J2 (s0 : List UInt8) (x10 : Int) (v7 : AVal) (m_3 : Mm) (o : Bool) (m1 : Mm) (t1 : Tr) : Prop :=
  match o with
  | c24 => m_3 = m1 ∧ t1.get 24 = (.b c24) ∧ t1.get 0 = (.s s0) ∧ t1.get 5 = (.i .i32 x10) ∧ t1.get 7 = v7
abbrev g55_J3 (s0 : List UInt8) (x10 : Int) (v7 : AVal) (m_3 : Mm) (o : Bool) (m1 : Mm) (t1 : Tr) : Prop :=
  match o with
  | c24_1 => m_3 = m1 ∧ t1.get 24 = (.b c24_1) ∧ t1.get 0 = (.s s0) ∧ t1.get 5 = (.i .i32 x10) ∧ t1.get 7 = v7
def g55_b0 (M : Means) (ro : List ABlk) (s0 : List UInt8) (v7 : AVal) (x3 : Int) (m_2 : Mm) : Option ((Int × Mm) ⊕ ((Mm ⊕ (Bool × Mm)))) :=
  bindP (stepM ro m_2 (.nxs (.c v7))) fun v8 m_3 =>
  bindO (evP .e (.ext 0 (.c v8))) fun v9 =>
  asB v9 fun c9 =>
  cond c9 (
    bindO (evP .e (.ext 2 (.c v8))) fun v10 =>
    asI .i32 v10 fun x10 =>
    forceB (!eqI x10 48) fun c12 =>
    bindO (cond c12 (
      forceB (!eqI x10 49) fun c15 =>
      some c15) (
      some false)) fun c16 =>
    bindO (cond c16 (
      some true) (
      forceB (eqI x10 49) fun c19 =>
      bindO (cond c19 (
        forceB (eqI x3 49) fun c22 =>
        some c22) (
        some false)) fun c24_1 =>
      some c24_1)) fun c24 =>
    cond c24 (
      some (.inr (.inr (false, m_3)))) (
      some (.inl (x10, m_3)))) (
    some (.inr (.inl m_3)))
abbrev g55_J4  (o : Bool × Mm) (m1 : Mm) (t1 : Tr) : Prop :=
  match o with
  | (c31, m_5) => m_5 = m1 ∧ t1.get 31 = (.b c31)
def g55 (M : Means) (ro : List ABlk) (s0 : List UInt8) (m0 : Mm) : Option (AVal × Heap × Nat × Nat) :=
  bindP (stepM ro m0 (.rgs (.c (.s s0)))) fun v7 m_1 =>
  bindO (M.loop (S := Int × Mm) (R := (Mm ⊕ (Bool × Mm))) (fun s => g55_b0 M ro s0 v7 s.1 s.2) (48, m_1)) fun o_3 => match o_3 with
  | (.inl m_4) =>
    bindO (evP .e (.sbin BinOp.eql (.c (.s s0)) (.c (AVal.s [48])))) fun v27 =>
    asB v27 fun c27 =>
    bindO (cond c27 (
      some (true, m_4)) (
      bindP (callM M.call m_4 74 [(.s s0), (AVal.s [49])]) fun v30 m_6 =>
      asB v30 fun c30 =>
      some (c30, m_6))) fun ⟨c31, m_5⟩ =>
    finM m0.h.length (tupA [(.b c31)]) m_5
  | (.inr (c2, m_7)) =>
    finM m0.h.length (tupA [(.b c2)]) m_7

theorem g55_ok {ro : List ABlk} {O : Caller} {M : Means} (hM : M.Ok ⟨F, O⟩ ro) {s0 h r} (ho : O 55 [(.s s0)] h = none) (hr : g55 M ro s0 ⟨h, h.length, h.length⟩ = some r) : callX ⟨F, O⟩ ro 55 [(.s s0)] h = some r := by
  refine callX_of (F := ⟨F, O⟩) (fn := fn55) (g := g55 M ro s0) ho rfl rfl hr ?_
  clear ho
  clear hr
  intro m0 t0 ht hr
  have g0 : t0.get 0 = (.s s0) := ht 0
  clear ht
  unfold g55 at hr
  refine w_seq ?_
  refine w_ops ?_
  refine wo_step (v := (.b false)) (s_pure (p_mv rfl)) ?_
  refine wo_nil ?_
  refine nx_norm ?_
  refine w_seq ?_
  refine w_ops ?_
  refine wo_step (v := (.i .i32 48)) (s_pure (p_mv rfl)) ?_
  refine wo_nil ?_
  refine nx_norm ?_
  refine w_seq ?_
  refine w_seq ?_
  refine w_ops ?_
  refine wo_step (v := (.s s0)) (s_pure (p_mv g0)) ?_
  have hq := bindP_inv hr
  clear hr
  obtain ⟨v7, m_1, e7, hr⟩ := hq
  refine wo_step (v := v7) (s_rgs rfl e7) ?_
  refine wo_nil ?_
  refine nx_norm ?_
  refine w_block ?_
  have hq := bindO_inv hr
  clear hr
  obtain ⟨o_3, hl, hr⟩ := hq
  obtain ⟨n, hl⟩ := hM.loop _ _ _ hl
  refine jp_mono (w_loop _ (g55_I0 s0 v7) (g55_J0 s0 v7) ?_ n _ _ _ _ hl ⟨rfl, gl rfl, gl g0, gl rfl⟩) ?_
  · clear hr hl
    intro s mm_6 t_1 o hi hr
    obtain ⟨x3, m_2⟩ := s
    obtain ⟨rfl, g3, g0, g7⟩ := hi
    unfold g55_b0 at hr
    refine w_seq ?_
    refine w_ops ?_
    have hq := bindP_inv hr
    clear hr
    obtain ⟨v8, m_3, e8, hr⟩ := hq
    refine wo_step (v := v8) (s_nxs g7 e8) ?_
    have hq := bindO_inv hr
    clear hr
    obtain ⟨v9, e9, hr⟩ := hq
    have hq := asB_inv hr
    clear hr
    obtain ⟨c9, rfl, hr⟩ := hq
    refine wo_step (v := (.b c9)) (s_pure (o_ext rfl e9)) ?_
    refine wo_nil ?_
    refine nx_norm ?_
    refine w_seq ?_
    have hq := cond_inv hr
    clear hr
    rcases hq with ⟨rfl, hr⟩ | ⟨rfl, hr⟩
    · refine w_condT rfl ?_
      refine w_skip ?_
      refine nx_norm ?_
      refine w_block ?_
      refine w_seq ?_
      refine w_ops ?_
      have hq := bindO_inv hr
      clear hr
      obtain ⟨v10, e10, hr⟩ := hq
      have hq := asI_inv hr
      clear hr
      obtain ⟨x10, rfl, hr⟩ := hq
      refine wo_step (v := (.i .i32 x10)) (s_pure (o_ext rfl e10)) ?_
      refine wo_step (v := (.i .i32 x10)) (s_pure (p_mv rfl)) ?_
      refine wo_nil ?_
      refine nx_norm ?_
      refine w_seq ?_
      refine w_seq ?_
      refine w_ops ?_
      refine wo_step (v := (.i .i32 x10)) (s_pure (p_mv rfl)) ?_
      have hq := forceB_inv hr
      clear hr
      obtain ⟨c12, e12, hr⟩ := hq
      refine wo_step (v := (.b c12)) (s_pure (p_bin rfl rfl (b_neq.trans (cb e12)))) ?_
      refine wo_step (v := (.b c12)) (s_pure (p_mv rfl)) ?_
      have hq := bindO_inv hr
      clear hr
      obtain ⟨o, hr, hk⟩ := hq
      refine wo_join 3 (g55_J1 s0 x3 x10 v7 m_3 o) ?_ ?_
      · clear hk
        have hq := cond_inv hr
        clear hr
        rcases hq with ⟨rfl, hr⟩ | ⟨rfl, hr⟩
        · refine wo_take (v := (.i .i32 x10)) rfl (s_pure (p_mv rfl)) ?_
          have hq := forceB_inv hr
          clear hr
          obtain ⟨c15, e15, hr⟩ := hq
          refine wo_take (v := (.b c15)) rfl (s_pure (p_bin rfl rfl (b_neq.trans (cb e15)))) ?_
          refine wo_step (v := (.b c15)) (s_pure (p_pickT rfl rfl)) ?_
          refine wo_nil ?_
          cases hr
          exact ⟨_, _, rfl, rfl, gl rfl, gl g0, gl g3, gl rfl, gl g7⟩
        · refine wo_skip (v := (.b false)) rfl rfl ?_
          refine wo_skip (v := (.b false)) rfl rfl ?_
          refine wo_step (v := (.b false)) (s_pure (p_pickF rfl rfl)) ?_
          refine wo_nil ?_
          cases hr
          exact ⟨_, _, rfl, rfl, gl rfl, gl g0, gl g3, gl rfl, gl g7⟩
      · clear hr
        have hr := hk
        clear hk
        obtain ⟨c16, ho⟩ : ∃ z, z = o := ⟨_, rfl⟩
        subst ho
        rintro mm t_2 ⟨rfl, g16, g0, g3, g5, g7⟩
        refine wo_step (v := (.b c16)) (s_pure (p_mv g16)) ?_
        have hq := bindO_inv hr
        clear hr
        obtain ⟨o_1, hr, hk⟩ := hq
        refine wo_join 7 (g55_J2 s0 x10 v7 m_3 o_1) ?_ ?_
        · clear hk
          have hq := cond_inv hr
          clear hr
          rcases hq with ⟨rfl, hr⟩ | ⟨rfl, hr⟩
          · refine wo_skip (v := (.b true)) rfl rfl ?_
            refine wo_skip (v := (.b true)) rfl rfl ?_
            refine wo_skip (v := (.b true)) rfl rfl ?_
            refine wo_skip (v := und) rfl rfl ?_
            refine wo_skip (v := und) rfl rfl ?_
            refine wo_skip (v := (.b true)) rfl rfl ?_
            refine wo_step (v := (.b true)) (s_pure (p_pickT rfl rfl)) ?_
            refine wo_nil ?_
            cases hr
            exact ⟨_, _, rfl, rfl, gl rfl, gl g0, gl g5, gl g7⟩
          · refine wo_take (v := (.i .i32 x10)) rfl (s_pure (p_mv g5)) ?_
            have hq := forceB_inv hr
            clear hr
            obtain ⟨c19, e19, hr⟩ := hq
            refine wo_take (v := (.b c19)) rfl (s_pure (p_bin rfl rfl (b_eql.trans (cb e19)))) ?_
            refine wo_take (v := (.b c19)) rfl (s_pure (p_mv rfl)) ?_
            have hq := bindO_inv hr
            clear hr
            obtain ⟨o_2, hr, hk⟩ := hq
            refine wo_join 4 (g55_J3 s0 x10 v7 m_3 o_2) ?_ ?_
            · clear hk
              have hq := cond_inv hr
              clear hr
              rcases hq with ⟨rfl, hr⟩ | ⟨rfl, hr⟩
              · refine wo_take (v := (.i .i32 x3)) rfl (s_pure (p_mv g3)) ?_
                have hq := forceB_inv hr
                clear hr
                obtain ⟨c22, e22, hr⟩ := hq
                refine wo_take (v := (.b c22)) rfl (s_pure (p_bin rfl rfl (b_eql.trans (cb e22)))) ?_
                refine wo_take (v := (.b c22)) rfl (s_pure (p_pickT rfl rfl)) ?_
                refine wo_step (v := (.b c22)) (s_pure (p_pickF rfl rfl)) ?_
                refine wo_nil ?_
                cases hr
                exact ⟨_, _, rfl, rfl, gl rfl, gl g0, gl g5, gl g7⟩
              · refine wo_skip (v := (.b false)) rfl rfl ?_
                refine wo_skip (v := (.b false)) rfl rfl ?_
                refine wo_take (v := (.b false)) rfl (s_pure (p_pickF rfl rfl)) ?_
                refine wo_step (v := (.b false)) (s_pure (p_pickF rfl rfl)) ?_
                refine wo_nil ?_
                cases hr
                exact ⟨_, _, rfl, rfl, gl rfl, gl g0, gl g5, gl g7⟩
            · clear hr
              have hr := hk
              clear hk
              obtain ⟨c24_1, ho⟩ : ∃ z, z = o_2 := ⟨_, rfl⟩
              subst ho
              rintro mm_1 t_3 ⟨rfl, g24, g0, g5, g7⟩
              refine wo_nil ?_
              cases hr
              exact ⟨_, _, rfl, rfl, gl g24, gl g0, gl g5, gl g7⟩
        · clear hr
          have hr := hk
          clear hk
          obtain ⟨c24, ho⟩ : ∃ z, z = o_1 := ⟨_, rfl⟩
          subst ho
          rintro mm_2 t_4 ⟨rfl, g24, g0, g5, g7⟩
          refine wo_nil ?_
          refine nx_norm ?_
          have hq := cond_inv hr
          clear hr
          rcases hq with ⟨rfl, hr⟩ | ⟨rfl, hr⟩
          · refine w_condT g24 ?_
            refine w_seq ?_
            refine w_ops ?_
            refine wo_step (v := (.b false)) (s_pure (p_mv rfl)) ?_
            refine wo_nil ?_
            refine nx_norm ?_
            refine w_ret ?_
            refine nx_ret ?_
            refine bk_ret ?_
            cases hr
            exact ⟨_, _, rfl, ne_norm_ret, rfl, rfl, gl rfl⟩
          · refine w_condF g24 ?_
            refine w_skip ?_
            refine nx_norm ?_
            refine w_ops ?_
            refine wo_step (v := (.i .i32 x10)) (s_pure (p_mv g5)) ?_
            refine wo_step (v := (.i .i32 x10)) (s_pure (p_mv rfl)) ?_
            refine wo_nil ?_
            refine bk_norm ?_
            cases hr
            exact ⟨_, _, rfl, rfl, rfl, gl rfl, gl g0, gl g7⟩
    · refine w_condF rfl ?_
      refine w_exit ?_
      refine nx_exit ?_
      cases hr
      exact ⟨_, _, rfl, ne_norm_exit, rfl, rfl, gl g0⟩
  · rcases o_3 with o_3 | o_3
    · obtain ⟨m_4, ho⟩ : ∃ z, z = o_3 := ⟨_, rfl⟩
      subst ho
      rintro _ mm_4 t_5 ⟨rfl, rfl, g0⟩
      refine bk_hit ?_
      refine nx_norm ?_
      refine w_seq ?_
      refine w_ops ?_
      refine wo_step (v := (.s s0)) (s_pure (p_mv g0)) ?_
      have hq := bindO_inv hr
      clear hr
      obtain ⟨v27, e27, hr⟩ := hq
      have hq := asB_inv hr
      clear hr
      obtain ⟨c27, rfl, hr⟩ := hq
      refine wo_step (v := (.b c27)) (s_pure (o_sbin rfl rfl e27)) ?_
      refine wo_step (v := (.b c27)) (s_pure (p_mv rfl)) ?_
      have hq := bindO_inv hr
      clear hr
      obtain ⟨o_4, hr, hk⟩ := hq
      refine wo_join 3 (g55_J4  o_4) ?_ ?_
      · clear hk
        have hq := cond_inv hr
        clear hr
        rcases hq with ⟨rfl, hr⟩ | ⟨rfl, hr⟩
        · refine wo_skip (v := (.b true)) rfl rfl ?_
          refine wo_skip (v := (.b true)) rfl rfl ?_
          refine wo_step (v := (.b true)) (s_pure (p_pickT rfl rfl)) ?_
          refine wo_nil ?_
          cases hr
          exact ⟨_, _, rfl, rfl, gl rfl⟩
        · refine wo_take (v := (.s s0)) rfl (s_pure (p_mv g0)) ?_
          have hq := bindP_inv hr
          clear hr
          obtain ⟨v30, m_6, e30, hr⟩ := hq
          have hq := asB_inv hr
          clear hr
          obtain ⟨c30, rfl, hr⟩ := hq
          refine wo_take (v := (.b c30)) rfl (s_call (mc rfl (mc rfl mn)) (callM_le hM.call e30)) ?_
          refine wo_step (v := (.b c30)) (s_pure (p_pickF rfl rfl)) ?_
          refine wo_nil ?_
          cases hr
          exact ⟨_, _, rfl, rfl, gl rfl⟩
      · clear hr
        have hr := hk
        clear hk
        obtain ⟨c31, m_5⟩ := o_4
        rintro mm_3 t_6 ⟨rfl, g31⟩
        refine wo_step (v := (.b c31)) (s_pure (p_mv g31)) ?_
        refine wo_nil ?_
        refine nx_norm ?_
        refine w_ret ?_
        exact qf ret_ok (rt rfl rn) hr
    · obtain ⟨c2, m_7⟩ := o_3
      rintro _ mm_5 t_7 ⟨rfl, rfl, g2⟩
      refine bk_ret ?_
      refine nx_ret ?_
      exact qf ret_ok (rt g2 rn) hr

/- dibber/seed.counted -/
abbrev g56_I0 (s0 : List UInt8) (v8 : AVal) (s : Int × Mm) (m1 : Mm) (t1 : Tr) : Prop :=
  match s with
  | (x3, m_2) => m_2 = m1 ∧ t1.get 3 = (.i .i64 x3) ∧ t1.get 0 = (.s s0) ∧ t1.get 8 = v8
abbrev g56_J0 (s0 : List UInt8) (v8 : AVal) (o : (Int × Mm)) (e : AExit) (m1 : Mm) (t1 : Tr) : Prop :=
  match o with
  | (y3, mo) => e = (.exit 0) ∧ mo = m1 ∧ t1.get 3 = (.i .i64 y3)
abbrev g56_I1 (s0 : List UInt8) (x19 : Int) (v8 : AVal) (x21 : Int) (m_4 : Mm) (s : Int × Int) (m1 : Mm) (t1 : Tr) : Prop :=
  match s with
  | (x3_1, x22) => m_4 = m1 ∧ t1.get 3 = (.i .i64 x3_1) ∧ t1.get 22 = (.i .i32 x22) ∧ t1.get 0 = (.s s0) ∧ t1.get 6 = (.i .i64 x19) ∧ t1.get 8 = v8 ∧ t1.get 21 = (.i .i32 x21)
abbrev g56_J1 (s0 : List UInt8) (x19 : Int) (v8 : AVal) (x21 : Int) (m_4 : Mm) (o : Int) (e : AExit) (m1 : Mm) (t1 : Tr) : Prop :=
  match o with
  | y3 => e = (.exit 2) ∧ m_4 = m1 ∧ t1.get 3 = (.i .i64 y3) ∧ t1.get 0 = (.s s0) ∧ t1.get 8 = v8
def g56_b1 (M : Means) (ro : List ABlk) (s0 : List UInt8) (x19 : Int) (v8 : AVal) (x21 : Int) (m_4 : Mm) (x3_1 : Int) (x22 : Int) : Option ((Int × Int) ⊕ (Int)) :=
  forceB (ltI x22 x21) fun c23 =>
  cond c23 (
    forceI (wr .i64 (x3_1 + x19)) fun x26 =>
    forceI (mxV false x26 1152921504606846977) fun x27 =>
    forceI (wr .i32 (x22 + 1)) fun x28 =>
    some (.inl (x27, x28))) (
    some (.inr x3_1))
def g56_b0 (M : Means) (ro : List ABlk) (s0 : List UInt8) (v8 : AVal) (x3 : Int) (m_2 : Mm) : Option ((Int × Mm) ⊕ ((Int × Mm))) :=
  bindP (stepM ro m_2 (.nxs (.c v8))) fun v9 m_3 =>
  bindO (evP .e (.ext 0 (.c v9))) fun v10 =>
  asB v10 fun c10 =>
  cond c10 (
    bindO (evP .e (.ext 1 (.c v9))) fun v11 =>
    asI .i64 v11 fun x11 =>
    bindO (evP .e (.ext 2 (.c v9))) fun v12 =>
    asI .i32 v12 fun x12 =>
    bindO (evP .e (.len true (.c (.s s0)))) fun v14 =>
    asI .i64 v14 fun x14 =>
    forceI (wr .i64 (x14 - 1)) fun x15 =>
    forceI (wr .i64 (x15 - x11)) fun x17 =>
    forceI (wr .i64 (x17 + 2)) fun x18 =>
    bindP (callM M.call m_3 71 [(.i .i64 x18)]) fun v19 m_4 =>
    asI .i64 v19 fun x19 =>
    forceI (wr .i32 (x12 - 48)) fun x21 =>
    bindO (M.loop (S := Int × Int) (R := Int) (fun s => g56_b1 M ro s0 x19 v8 x21 m_4 s.1 s.2) (x3, 0)) fun x3_2 =>
    some (.inl (x3_2, m_4))) (
    some (.inr (x3, m_3)))
def g56 (M : Means) (ro : List ABlk) (s0 : List UInt8) (m0 : Mm) : Option (AVal × Heap × Nat × Nat) :=
  bindP (stepM ro m0 (.rgs (.c (.s s0)))) fun v8 m_1 =>
  bindO (M.loop (S := Int × Mm) (R := (Int × Mm)) (fun s => g56_b0 M ro s0 v8 s.1 s.2) (0, m_1)) fun ⟨x3_3, m_5⟩ =>
  finM m0.h.length (tupA [(.i .i64 x3_3)]) m_5

theorem g56_ok {ro : List ABlk} {O : Caller} {M : Means} (hM : M.Ok ⟨F, O⟩ ro) {s0 h r} (ho : O 56 [(.s s0)] h = none) (hr : g56 M ro s0 ⟨h, h.length, h.length⟩ = some r) : callX ⟨F, O⟩ ro 56 [(.s s0)] h = some r := by
  refine callX_of (F := ⟨F, O⟩) (fn := fn56) (g := g56 M ro s0) ho rfl rfl hr ?_
  clear ho
  clear hr
  intro m0 t0 ht hr
  have g0 : t0.get 0 = (.s s0) := ht 0
  clear ht
  unfold g56 at hr
  refine w_seq ?_
  refine w_ops ?_
  refine wo_step (v := (.i .i64 0)) (s_pure (p_mv rfl)) ?_
  refine wo_nil ?_
  refine nx_norm ?_
  refine w_seq ?_
  refine w_ops ?_
  refine wo_step (v := (.i .i64 0)) (s_pure (p_mv rfl)) ?_
  refine wo_nil ?_
  refine nx_norm ?_
  refine w_seq ?_
  refine w_seq ?_
  refine w_ops ?_
  refine wo_step (v := (.s s0)) (s_pure (p_mv g0)) ?_
  have hq := bindP_inv hr
  clear hr
  obtain ⟨v8, m_1, e8, hr⟩ := hq
  refine wo_step (v := v8) (s_rgs rfl e8) ?_
  refine wo_nil ?_
  refine nx_norm ?_
  refine w_block ?_
  have hq := bindO_inv hr
  clear hr
  obtain ⟨o_1, hl_1, hr⟩ := hq
  obtain ⟨n_1, hl_1⟩ := hM.loop _ _ _ hl_1
  refine jp_mono (w_loop _ (g56_I0 s0 v8) (g56_J0 s0 v8) ?_ n_1 _ _ _ _ hl_1 ⟨rfl, gl rfl, gl g0, gl rfl⟩) ?_
  · clear hr hl_1
    intro s mm_3 t_1 o hi hr
    obtain ⟨x3, m_2⟩ := s
    obtain ⟨rfl, g3, g0, g8⟩ := hi
    unfold g56_b0 at hr
    refine w_seq ?_
    refine w_ops ?_
    have hq := bindP_inv hr
    clear hr
    obtain ⟨v9, m_3, e9, hr⟩ := hq
    refine wo_step (v := v9) (s_nxs g8 e9) ?_
    have hq := bindO_inv hr
    clear hr
    obtain ⟨v10, e10, hr⟩ := hq
    have hq := asB_inv hr
    clear hr
    obtain ⟨c10, rfl, hr⟩ := hq
    refine wo_step (v := (.b c10)) (s_pure (o_ext rfl e10)) ?_
    refine wo_nil ?_
    refine nx_norm ?_
    refine w_seq ?_
    have hq := cond_inv hr
    clear hr
    rcases hq with ⟨rfl, hr⟩ | ⟨rfl, hr⟩
    · refine w_condT rfl ?_
      refine w_skip ?_
      refine nx_norm ?_
      refine w_block ?_
      refine w_seq ?_
      refine w_ops ?_
      have hq := bindO_inv hr
      clear hr
      obtain ⟨v11, e11, hr⟩ := hq
      have hq := asI_inv hr
      clear hr
      obtain ⟨x11, rfl, hr⟩ := hq
      refine wo_step (v := (.i .i64 x11)) (s_pure (o_ext rfl e11)) ?_
      have hq := bindO_inv hr
      clear hr
      obtain ⟨v12, e12, hr⟩ := hq
      have hq := asI_inv hr
      clear hr
      obtain ⟨x12, rfl, hr⟩ := hq
      refine wo_step (v := (.i .i32 x12)) (s_pure (o_ext rfl e12)) ?_
      refine wo_step (v := (.i .i64 x11)) (s_pure (p_mv rfl)) ?_
      refine wo_step (v := (.i .i32 x12)) (s_pure (p_mv rfl)) ?_
      refine wo_nil ?_
      refine nx_norm ?_
      refine w_seq ?_
      refine w_ops ?_
      refine wo_step (v := (.s s0)) (s_pure (p_mv g0)) ?_
      have hq := bindO_inv hr
      clear hr
      obtain ⟨v14, e14, hr⟩ := hq
      have hq := asI_inv hr
      clear hr
      obtain ⟨x14, rfl, hr⟩ := hq
      refine wo_step (v := (.i .i64 x14)) (s_pure (o_len rfl e14)) ?_
      have hq := forceI_inv hr
      clear hr
      obtain ⟨x15, e15, hr⟩ := hq
      refine wo_step (v := (.i .i64 x15)) (s_pure (p_bin rfl rfl (b_sub.trans (ci e15)))) ?_
      refine wo_step (v := (.i .i64 x11)) (s_pure (p_mv rfl)) ?_
      have hq := forceI_inv hr
      clear hr
      obtain ⟨x17, e17, hr⟩ := hq
      refine wo_step (v := (.i .i64 x17)) (s_pure (p_bin rfl rfl (b_sub.trans (ci e17)))) ?_
      have hq := forceI_inv hr
      clear hr
      obtain ⟨x18, e18, hr⟩ := hq
      refine wo_step (v := (.i .i64 x18)) (s_pure (p_bin rfl rfl (b_add.trans (ci e18)))) ?_
      have hq := bindP_inv hr
      clear hr
      obtain ⟨v19, m_4, e19, hr⟩ := hq
      have hq := asI_inv hr
      clear hr
      obtain ⟨x19, rfl, hr⟩ := hq
      refine wo_step (v := (.i .i64 x19)) (s_call (mc rfl mn) (callM_le hM.call e19)) ?_
      refine wo_step (v := (.i .i64 x19)) (s_pure (p_mv rfl)) ?_
      refine wo_nil ?_
      refine nx_norm ?_
      refine w_seq ?_
      refine w_ops ?_
      refine wo_step (v := (.i .i32 x12)) (s_pure (p_mv rfl)) ?_
      have hq := forceI_inv hr
      clear hr
      obtain ⟨x21, e21, hr⟩ := hq
      refine wo_step (v := (.i .i32 x21)) (s_pure (p_bin rfl rfl (b_sub.trans (ci e21)))) ?_
      refine wo_step (v := (.i .i32 0)) (s_pure (p_mv rfl)) ?_
      refine wo_nil ?_
      refine nx_norm ?_
      refine w_block ?_
      have hq := bindO_inv hr
      clear hr
      obtain ⟨o, hl, hr⟩ := hq
      obtain ⟨n, hl⟩ := hM.loop _ _ _ hl
      refine jp_mono (w_loop _ (g56_I1 s0 x19 v8 x21 m_4) (g56_J1 s0 x19 v8 x21 m_4) ?_ n _ _ _ _ hl ⟨rfl, gl g3, gl rfl, gl g0, gl rfl, gl g8, gl rfl⟩) ?_
      · clear hr hl
        intro s mm_1 t_2 o hi hr
        obtain ⟨x3_1, x22⟩ := s
        obtain ⟨rfl, g3, g22, g0, g6, g8, g21⟩ := hi
        unfold g56_b1 at hr
        refine w_seq ?_
        refine w_ops ?_
        have hq := forceB_inv hr
        clear hr
        obtain ⟨c23, e23, hr⟩ := hq
        refine wo_step (v := (.b c23)) (s_pure (p_bin g22 g21 (b_lss.trans (cb e23)))) ?_
        refine wo_nil ?_
        refine nx_norm ?_
        refine w_seq ?_
        have hq := cond_inv hr
        clear hr
        rcases hq with ⟨rfl, hr⟩ | ⟨rfl, hr⟩
        · refine w_condT rfl ?_
          refine w_skip ?_
          refine nx_norm ?_
          refine w_seq ?_
          refine w_block ?_
          refine w_ops ?_
          refine wo_step (v := (.i .i64 x3_1)) (s_pure (p_mv g3)) ?_
          refine wo_step (v := (.i .i64 x19)) (s_pure (p_mv g6)) ?_
          have hq := forceI_inv hr
          clear hr
          obtain ⟨x26, e26, hr⟩ := hq
          refine wo_step (v := (.i .i64 x26)) (s_pure (p_bin rfl rfl (b_add.trans (ci e26)))) ?_
          have hq := forceI_inv hr
          clear hr
          obtain ⟨x27, e27, hr⟩ := hq
          refine wo_step (v := (.i .i64 x27)) (s_pure ((p_mx rfl rfl).trans (ci e27))) ?_
          refine wo_step (v := (.i .i64 x27)) (s_pure (p_mv rfl)) ?_
          refine wo_nil ?_
          refine bk_norm ?_
          refine nx_norm ?_
          refine w_ops ?_
          have hq := forceI_inv hr
          clear hr
          obtain ⟨x28, e28, hr⟩ := hq
          refine wo_step (v := (.i .i32 x28)) (s_pure (p_bin g22 rfl (b_add.trans (ci e28)))) ?_
          refine wo_step (v := (.i .i32 x28)) (s_pure (p_mv rfl)) ?_
          refine wo_nil ?_
          cases hr
          exact ⟨_, _, rfl, rfl, rfl, gl rfl, gl rfl, gl g0, gl g6, gl g8, gl g21⟩
        · refine w_condF rfl ?_
          refine w_exit ?_
          refine nx_exit ?_
          cases hr
          exact ⟨_, _, rfl, ne_norm_exit, rfl, rfl, gl g3, gl g0, gl g8⟩
      · obtain ⟨x3_2, ho⟩ : ∃ z, z = o := ⟨_, rfl⟩
        subst ho
        rintro _ mm t_3 ⟨rfl, rfl, g3, g0, g8⟩
        refine bk_hit ?_
        refine bk_norm ?_
        cases hr
        exact ⟨_, _, rfl, rfl, rfl, gl g3, gl g0, gl g8⟩
    · refine w_condF rfl ?_
      refine w_exit ?_
      refine nx_exit ?_
      cases hr
      exact ⟨_, _, rfl, ne_norm_exit, rfl, rfl, gl g3⟩
  · obtain ⟨x3_3, m_5⟩ := o_1
    rintro _ mm_2 t_4 ⟨rfl, rfl, g3⟩
    refine bk_hit ?_
    refine nx_norm ?_
    refine w_seq ?_
    refine w_ops ?_
    refine wo_step (v := (.i .i64 x3_3)) (s_pure (p_mv g3)) ?_
    refine wo_step (v := (.i .i64 x3_3)) (s_pure (p_mv rfl)) ?_
    refine wo_nil ?_
    refine nx_norm ?_
    refine w_ret ?_
    exact qf ret_ok (rt rfl rn) hr

/- dibber/seed.areDigits -/
abbrev g58_I0 (s0 : List UInt8) (v6 : AVal) (s : Mm) (m1 : Mm) (t1 : Tr) : Prop :=
  match s with
  | m_2 => m_2 = m1 ∧ t1.get 0 = (.s s0) ∧ t1.get 6 = v6
abbrev g58_J0 (s0 : List UInt8) (v6 : AVal) (o : (Mm ⊕ (Bool × Mm))) (e : AExit) (m1 : Mm) (t1 : Tr) : Prop :=
  match o with
  | (.inl mo) => e = (.exit 0) ∧ mo = m1 ∧ t1.get 0 = (.s s0)
  | (.inr (y2, mo)) => e = .ret ∧ mo = m1 ∧ t1.get 2 = (.b y2)
abbrev g58_J1 (s0 : List UInt8) (v6 : AVal) (m_3 : Mm) (o : Bool) (m1 : Mm) (t1 : Tr) : Prop :=
  match o with
  | c15 => m_3 = m1 ∧ t1.get 15 = (.b c15) ∧ t1.get 0 = (.s s0) ∧ t1.get 6 = v6
def g58_b0 (M : Means) (ro : List ABlk) (s0 : List UInt8) (v6 : AVal)  (m_2 : Mm) : Option ((Mm) ⊕ ((Mm ⊕ (Bool × Mm)))) :=
  bindP (stepM ro m_2 (.nxs (.c v6))) fun v7 m_3 =>
  bindO (evP .e (.ext 0 (.c v7))) fun v8 =>
  asB v8 fun c8 =>
  cond c8 (
    bindO (evP .e (.ext 2 (.c v7))) fun v9 =>
    asI .i32 v9 fun x9 =>
    forceB (ltI x9 48) fun c11 =>
    bindO (cond c11 (
      some true) (
      forceB (ltI 57 x9) fun c14 =>
      some c14)) fun c15 =>
    cond c15 (
      some (.inr (.inr (false, m_3)))) (
      some (.inl m_3))) (
    some (.inr (.inl m_3)))
def g58 (M : Means) (ro : List ABlk) (s0 : List UInt8) (m0 : Mm) : Option (AVal × Heap × Nat × Nat) :=
  bindP (stepM ro m0 (.rgs (.c (.s s0)))) fun v6 m_1 =>
  bindO (M.loop (S := Mm) (R := (Mm ⊕ (Bool × Mm))) (fun s => g58_b0 M ro s0 v6 s) m_1) fun o_1 => match o_1 with
  | (.inl m_4) =>
    bindO (evP .e (.sbin BinOp.neq (.c (.s s0)) (.c (AVal.s [])))) fun v17 =>
    asB v17 fun c17 =>
    finM m0.h.length (tupA [(.b c17)]) m_4
  | (.inr (c2, m_5)) =>
    finM m0.h.length (tupA [(.b c2)]) m_5

theorem g58_ok {ro : List ABlk} {O : Caller} {M : Means} (hM : M.Ok ⟨F, O⟩ ro) {s0 h r} (ho : O 58 [(.s s0)] h = none) (hr : g58 M ro s0 ⟨h, h.length, h.length⟩ = some r) : callX ⟨F, O⟩ ro 58 [(.s s0)] h = some r := by
  refine callX_of (F := ⟨F, O⟩) (fn := fn58) (g := g58 M ro s0) ho rfl rfl hr ?_
  clear ho
  clear hr
  intro m0 t0 ht hr
  have g0 : t0.get 0 = (.s s0) := ht 0
  clear ht
  unfold g58 at hr
  refine w_seq ?_
  refine w_ops ?_
  refine wo_step (v := (.b false)) (s_pure (p_mv rfl)) ?_
  refine wo_nil ?_
  refine nx_norm ?_
  refine w_seq ?_
  refine w_seq ?_
  refine w_ops ?_
  refine wo_step (v := (.s s0)) (s_pure (p_mv g0)) ?_
  have hq := bindP_inv hr
  clear hr
  obtain ⟨v6, m_1, e6, hr⟩ := hq
  refine wo_step (v := v6) (s_rgs rfl e6) ?_
  refine wo_nil ?_
  refine nx_norm ?_
  refine w_block ?_
  have hq := bindO_inv hr
  clear hr
  obtain ⟨o_1, hl, hr⟩ := hq
  obtain ⟨n, hl⟩ := hM.loop _ _ _ hl
  refine jp_mono (w_loop _ (g58_I0 s0 v6) (g58_J0 s0 v6) ?_ n _ _ _ _ hl ⟨rfl, gl g0, gl rfl⟩) ?_
  · clear hr hl
    intro s mm_3 t_1 o hi hr
    obtain ⟨m_2, hs⟩ : ∃ z, z = s := ⟨_, rfl⟩
    subst hs
    obtain ⟨rfl, g0, g6⟩ := hi
    unfold g58_b0 at hr
    refine w_seq ?_
    refine w_ops ?_
    have hq := bindP_inv hr
    clear hr
    obtain ⟨v7, m_3, e7, hr⟩ := hq
    refine wo_step (v := v7) (s_nxs g6 e7) ?_
    have hq := bindO_inv hr
    clear hr
    obtain ⟨v8, e8, hr⟩ := hq
    have hq := asB_inv hr
    clear hr
    obtain ⟨c8, rfl, hr⟩ := hq
    refine wo_step (v := (.b c8)) (s_pure (o_ext rfl e8)) ?_
    refine wo_nil ?_
    refine nx_norm ?_
    refine w_seq ?_
    have hq := cond_inv hr
    clear hr
    rcases hq with ⟨rfl, hr⟩ | ⟨rfl, hr⟩
    · refine w_condT rfl ?_
      refine w_skip ?_
      refine nx_norm ?_
      refine w_block ?_
      refine w_seq ?_
      refine w_ops ?_
      have hq := bindO_inv hr
      clear hr
      obtain ⟨v9, e9, hr⟩ := hq
      have hq := asI_inv hr
      clear hr
      obtain ⟨x9, rfl, hr⟩ := hq
      refine wo_step (v := (.i .i32 x9)) (s_pure (o_ext rfl e9)) ?_
      refine wo_step (v := (.i .i32 x9)) (s_pure (p_mv rfl)) ?_
      refine wo_nil ?_
      refine nx_norm ?_
      refine w_seq ?_
      refine w_ops ?_
      refine wo_step (v := (.i .i32 x9)) (s_pure (p_mv rfl)) ?_
      have hq := forceB_inv hr
      clear hr
      obtain ⟨c11, e11, hr⟩ := hq
      refine wo_step (v := (.b c11)) (s_pure (p_bin rfl rfl (b_lss.trans (cb e11)))) ?_
      refine wo_step (v := (.b c11)) (s_pure (p_mv rfl)) ?_
      have hq := bindO_inv hr
      clear hr
      obtain ⟨o, hr, hk⟩ := hq
      refine wo_join 3 (g58_J1 s0 v6 m_3 o) ?_ ?_
      · clear hk
        have hq := cond_inv hr
        clear hr
        rcases hq with ⟨rfl, hr⟩ | ⟨rfl, hr⟩
        · refine wo_skip (v := (.b true)) rfl rfl ?_
          refine wo_skip (v := (.b true)) rfl rfl ?_
          refine wo_step (v := (.b true)) (s_pure (p_pickT rfl rfl)) ?_
          refine wo_nil ?_
          cases hr
          exact ⟨_, _, rfl, rfl, gl rfl, gl g0, gl g6⟩
        · refine wo_take (v := (.i .i32 x9)) rfl (s_pure (p_mv rfl)) ?_
          have hq := forceB_inv hr
          clear hr
          obtain ⟨c14, e14, hr⟩ := hq
          refine wo_take (v := (.b c14)) rfl (s_pure (p_bin rfl rfl (b_gtr.trans (cb e14)))) ?_
          refine wo_step (v := (.b c14)) (s_pure (p_pickF rfl rfl)) ?_
          refine wo_nil ?_
          cases hr
          exact ⟨_, _, rfl, rfl, gl rfl, gl g0, gl g6⟩
      · clear hr
        have hr := hk
        clear hk
        obtain ⟨c15, ho⟩ : ∃ z, z = o := ⟨_, rfl⟩
        subst ho
        rintro mm t_2 ⟨rfl, g15, g0, g6⟩
        refine wo_nil ?_
        refine nx_norm ?_
        have hq := cond_inv hr
        clear hr
        rcases hq with ⟨rfl, hr⟩ | ⟨rfl, hr⟩
        · refine w_condT g15 ?_
          refine w_seq ?_
          refine w_ops ?_
          refine wo_step (v := (.b false)) (s_pure (p_mv rfl)) ?_
          refine wo_nil ?_
          refine nx_norm ?_
          refine w_ret ?_
          refine bk_ret ?_
          cases hr
          exact ⟨_, _, rfl, ne_norm_ret, rfl, rfl, gl rfl⟩
        · refine w_condF g15 ?_
          refine w_skip ?_
          refine bk_norm ?_
          cases hr
          exact ⟨_, _, rfl, rfl, rfl, gl g0, gl g6⟩
    · refine w_condF rfl ?_
      refine w_exit ?_
      refine nx_exit ?_
      cases hr
      exact ⟨_, _, rfl, ne_norm_exit, rfl, rfl, gl g0⟩
  · rcases o_1 with o_1 | o_1
    · obtain ⟨m_4, ho⟩ : ∃ z, z = o_1 := ⟨_, rfl⟩
      subst ho
      rintro _ mm_1 t_3 ⟨rfl, rfl, g0⟩
      refine bk_hit ?_
      refine nx_norm ?_
      refine w_seq ?_
      refine w_ops ?_
      refine wo_step (v := (.s s0)) (s_pure (p_mv g0)) ?_
      have hq := bindO_inv hr
      clear hr
      obtain ⟨v17, e17, hr⟩ := hq
      have hq := asB_inv hr
      clear hr
      obtain ⟨c17, rfl, hr⟩ := hq
      refine wo_step (v := (.b c17)) (s_pure (o_sbin rfl rfl e17)) ?_
      refine wo_step (v := (.b c17)) (s_pure (p_mv rfl)) ?_
      refine wo_nil ?_
      refine nx_norm ?_
      refine w_ret ?_
      exact qf ret_ok (rt rfl rn) hr
    · obtain ⟨c2, m_5⟩ := o_1
      rintro _ mm_2 t_4 ⟨rfl, rfl, g2⟩
      refine bk_ret ?_
      refine nx_ret ?_
      exact qf ret_ok (rt g2 rn) hr

/- dibber/seed.parts -/
abbrev g60_I0  (s : Int × AVal × Int × Int × Int × Mm) (m1 : Mm) (t1 : Tr) : Prop :=
  match s with
  | (x0_1, v3, x4, x5, x6, m_3) => m_3 = m1 ∧ t1.get 0 = (.i .i64 x0_1) ∧ t1.get 3 = v3 ∧ t1.get 4 = (.i .i64 x4) ∧ t1.get 5 = (.i .i64 x5) ∧ t1.get 6 = (.i .i64 x6)
abbrev g60_J0  (o : (AVal × Mm)) (e : AExit) (m1 : Mm) (t1 : Tr) : Prop :=
  match o with
  | (y3, mo) => e = (.exit 0) ∧ mo = m1 ∧ t1.get 3 = y3
abbrev g60_J1 (x4 : Int) (x5 : Int) (x6 : Int) (o : (Int × AVal × Mm)) (e : AExit) (m1 : Mm) (t1 : Tr) : Prop :=
  match o with
  | (y0, y3, mo) => e = .norm ∧ mo = m1 ∧ t1.get 0 = (.i .i64 y0) ∧ t1.get 3 = y3 ∧ t1.get 4 = (.i .i64 x4) ∧ t1.get 5 = (.i .i64 x5) ∧ t1.get 6 = (.i .i64 x6)
def g60_b0 (M : Means) (ro : List ABlk)  (x0_1 : Int) (v3 : AVal) (x4 : Int) (x5 : Int) (x6 : Int) (m_3 : Mm) : Option ((Int × AVal × Int × Int × Int × Mm) ⊕ ((AVal × Mm))) :=
  forceB (ltI 0 x0_1) fun c10 =>
  cond c10 (
    forceB (!ltI x0_1 x4) fun c15 =>
    bindO (α := (Int × AVal × Mm)) (
      cond c15 (
        bindP (stepM ro m_3 (.bsl 3 1 [(AVal.i IntKind.i64 0)] 1 [((0, 1), .c (.i .i64 x6))])) fun v18 m_4 =>
        bindP (stepM ro m_4 (.app 3 1 8 [(AVal.i IntKind.i64 0)] (.c v3) (.c v18))) fun v19 m_5 =>
        forceI (wr .i64 (x0_1 - x4)) fun x22 =>
        some (x22, v19, m_5)) (
        some (x0_1, v3, m_3))) fun ⟨x0_2, v3_1, m_6⟩ =>
    forceI (wr .i64 (x4 - x5)) fun x26 =>
    forceI (wr .i64 (x6 - 1)) fun x12 =>
    some (.inl (x0_2, v3_1, x5, x26, x12, m_6))) (
    some (.inr (v3, m_3)))
def g60 (M : Means) (ro : List ABlk) (x0 : Int) (m0 : Mm) : Option (AVal × Heap × Nat × Nat) :=
  bindP (callM M.call m0 71 [(.i .i64 88)]) fun v7 m_1 =>
  asI .i64 v7 fun x7 =>
  bindP (callM M.call m_1 71 [(.i .i64 87)]) fun v8 m_2 =>
  asI .i64 v8 fun x8 =>
  bindO (M.loop (S := Int × AVal × Int × Int × Int × Mm) (R := (AVal × Mm)) (fun s => g60_b0 M ro  s.1 s.2.1 s.2.2.1 s.2.2.2.1 s.2.2.2.2.1 s.2.2.2.2.2) (x0, AVal.nsl, x7, x8, 88, m_2)) fun ⟨v3_2, m_7⟩ =>
  finM m0.h.length (tupA [v3_2]) m_7

theorem g60_ok {ro : List ABlk} {O : Caller} {M : Means} (hM : M.Ok ⟨F, O⟩ ro) {x0 h r} (ho : O 60 [(.i .i64 x0)] h = none) (hr : g60 M ro x0 ⟨h, h.length, h.length⟩ = some r) : callX ⟨F, O⟩ ro 60 [(.i .i64 x0)] h = some r := by
  refine callX_of (F := ⟨F, O⟩) (fn := fn60) (g := g60 M ro x0) ho rfl rfl hr ?_
  clear ho
  clear hr
  intro m0 t0 ht hr
  have g0 : t0.get 0 = (.i .i64 x0) := ht 0
  clear ht
  unfold g60 at hr
  refine w_seq ?_
  refine w_ops ?_
  refine wo_step (v := AVal.nsl) (s_pure (p_mv rfl)) ?_
  refine wo_nil ?_
  refine nx_norm ?_
  refine w_seq ?_
  refine w_ops ?_
  refine wo_step (v := AVal.nsl) (s_pure (p_mv rfl)) ?_
  refine wo_nil ?_
  refine nx_norm ?_
  refine w_seq ?_
  refine w_ops ?_
  have hq := bindP_inv hr
  clear hr
  obtain ⟨v7, m_1, e7, hr⟩ := hq
  have hq := asI_inv hr
  clear hr
  obtain ⟨x7, rfl, hr⟩ := hq
  refine wo_step (v := (.i .i64 x7)) (s_call (mc rfl mn) (callM_le hM.call e7)) ?_
  have hq := bindP_inv hr
  clear hr
  obtain ⟨v8, m_2, e8, hr⟩ := hq
  have hq := asI_inv hr
  clear hr
  obtain ⟨x8, rfl, hr⟩ := hq
  refine wo_step (v := (.i .i64 x8)) (s_call (mc rfl mn) (callM_le hM.call e8)) ?_
  refine wo_step (v := (.i .i64 x7)) (s_pure (p_mv rfl)) ?_
  refine wo_step (v := (.i .i64 x8)) (s_pure (p_mv rfl)) ?_
  refine wo_nil ?_
  refine nx_norm ?_
  refine w_seq ?_
  refine w_seq ?_
  refine w_ops ?_
  refine wo_step (v := (.i .i64 88)) (s_pure (p_mv rfl)) ?_
  refine wo_nil ?_
  refine nx_norm ?_
  refine w_block ?_
  have hq := bindO_inv hr
  clear hr
  obtain ⟨o_1, hl, hr⟩ := hq
  obtain ⟨n, hl⟩ := hM.loop _ _ _ hl
  refine jp_mono (w_loop _ (g60_I0 ) (g60_J0 ) ?_ n _ _ _ _ hl ⟨rfl, gl g0, gl rfl, gl rfl, gl rfl, gl rfl⟩) ?_
  · clear hr hl
    intro s mm_2 t_1 o hi hr
    obtain ⟨x0_1, v3, x4, x5, x6, m_3⟩ := s
    obtain ⟨rfl, g0, g3, g4, g5, g6⟩ := hi
    unfold g60_b0 at hr
    refine w_seq ?_
    refine w_seq ?_
    refine w_ops ?_
    refine wo_step (v := (.i .i64 x0_1)) (s_pure (p_mv g0)) ?_
    have hq := forceB_inv hr
    clear hr
    obtain ⟨c10, e10, hr⟩ := hq
    refine wo_step (v := (.b c10)) (s_pure (p_bin rfl rfl (b_gtr.trans (cb e10)))) ?_
    refine wo_nil ?_
    refine nx_norm ?_
    have hq := cond_inv hr
    clear hr
    rcases hq with ⟨rfl, hr⟩ | ⟨rfl, hr⟩
    · refine w_condT rfl ?_
      refine w_skip ?_
      refine nx_norm ?_
      refine w_seq ?_
      refine w_block ?_
      refine w_seq ?_
      refine w_seq ?_
      refine w_ops ?_
      refine wo_step (v := (.i .i64 x4)) (s_pure (p_mv g4)) ?_
      refine wo_step (v := (.i .i64 x0_1)) (s_pure (p_mv g0)) ?_
      have hq := forceB_inv hr
      clear hr
      obtain ⟨c15, e15, hr⟩ := hq
      refine wo_step (v := (.b c15)) (s_pure (p_bin rfl rfl (b_leq.trans (cb e15)))) ?_
      refine wo_nil ?_
      refine nx_norm ?_
      have hq := bindO_inv hr
      clear hr
      obtain ⟨o, hr, hk⟩ := hq
      refine jp_mono (J := g60_J1 x4 x5 x6 o) ?_ ?_
      · clear hk
        have hq := cond_inv hr
        clear hr
        rcases hq with ⟨rfl, hr⟩ | ⟨rfl, hr⟩
        · refine w_condT rfl ?_
          refine w_seq ?_
          refine w_ops ?_
          refine wo_step (v := v3) (s_pure (p_mv g3)) ?_
          refine wo_step (v := (.i .i64 x6)) (s_pure (p_mv g6)) ?_
          have hq := bindP_inv hr
          clear hr
          obtain ⟨v18, m_4, e18, hr⟩ := hq
          refine wo_step (v := v18) (s_bsl (qc rfl qn) e18) ?_
          have hq := bindP_inv hr
          clear hr
          obtain ⟨v19, m_5, e19, hr⟩ := hq
          refine wo_step (v := v19) (s_app rfl rfl e19) ?_
          refine wo_step (v := v19) (s_pure (p_mv rfl)) ?_
          refine wo_nil ?_
          refine nx_norm ?_
          refine w_ops ?_
          refine wo_step (v := (.i .i64 x0_1)) (s_pure (p_mv g0)) ?_
          refine wo_step (v := (.i .i64 x4)) (s_pure (p_mv g4)) ?_
          have hq := forceI_inv hr
          clear hr
          obtain ⟨x22, e22, hr⟩ := hq
          refine wo_step (v := (.i .i64 x22)) (s_pure (p_bin rfl rfl (b_sub.trans (ci e22)))) ?_
          refine wo_step (v := (.i .i64 x22)) (s_pure (p_mv rfl)) ?_
          refine wo_nil ?_
          cases hr
          exact ⟨_, _, rfl, rfl, rfl, gl rfl, gl rfl, gl g4, gl g5, gl g6⟩
        · refine w_condF rfl ?_
          refine w_skip ?_
          cases hr
          exact ⟨_, _, rfl, rfl, rfl, gl g0, gl g3, gl g4, gl g5, gl g6⟩
      · clear hr
        have hr := hk
        clear hk
        obtain ⟨x0_2, v3_1, m_6⟩ := o
        rintro _ mm t_2 ⟨rfl, rfl, g0, g3, g4, g5, g6⟩
        refine nx_norm ?_
        refine w_ops ?_
        refine wo_step (v := (.i .i64 x5)) (s_pure (p_mv g5)) ?_
        refine wo_step (v := (.i .i64 x4)) (s_pure (p_mv g4)) ?_
        refine wo_step (v := (.i .i64 x5)) (s_pure (p_mv g5)) ?_
        have hq := forceI_inv hr
        clear hr
        obtain ⟨x26, e26, hr⟩ := hq
        refine wo_step (v := (.i .i64 x26)) (s_pure (p_bin rfl rfl (b_sub.trans (ci e26)))) ?_
        refine wo_step (v := (.i .i64 x5)) (s_pure (p_mv rfl)) ?_
        refine wo_step (v := (.i .i64 x26)) (s_pure (p_mv rfl)) ?_
        refine wo_nil ?_
        refine bk_norm ?_
        refine nx_norm ?_
        refine w_ops ?_
        refine wo_step (v := (.i .i64 x6)) (s_pure (p_mv g6)) ?_
        have hq := forceI_inv hr
        clear hr
        obtain ⟨x12, e12, hr⟩ := hq
        refine wo_step (v := (.i .i64 x12)) (s_pure (p_bin rfl rfl (b_sub.trans (ci e12)))) ?_
        refine wo_step (v := (.i .i64 x12)) (s_pure (p_mv rfl)) ?_
        refine wo_nil ?_
        cases hr
        exact ⟨_, _, rfl, rfl, rfl, gl g0, gl g3, gl rfl, gl rfl, gl rfl⟩
    · refine w_condF rfl ?_
      refine w_exit ?_
      refine nx_exit ?_
      cases hr
      exact ⟨_, _, rfl, ne_norm_exit, rfl, rfl, gl g3⟩
  · obtain ⟨v3_2, m_7⟩ := o_1
    rintro _ mm_1 t_3 ⟨rfl, rfl, g3⟩
    refine bk_hit ?_
    refine nx_norm ?_
    refine w_seq ?_
    refine w_ops ?_
    refine wo_step (v := v3_2) (s_pure (p_mv g3)) ?_
    refine wo_step (v := v3_2) (s_pure (p_mv rfl)) ?_
    refine wo_nil ?_
    refine nx_norm ?_
    refine w_ret ?_
    exact qf ret_ok (rt rfl rn) hr

/- dibber/seed.fibonacci -/
abbrev g71_I0 (x0 : Int) (x6 : Int) (m0 : Mm) (s : Int × Int × Int) (m1 : Mm) (t1 : Tr) : Prop :=
  match s with
  | (x3, x4, x7) => m0 = m1 ∧ t1.get 3 = (.i .i64 x3) ∧ t1.get 4 = (.i .i64 x4) ∧ t1.get 7 = (.i .i64 x7) ∧ t1.get 0 = (.i .i64 x0) ∧ t1.get 6 = (.i .i64 x6)
abbrev g71_J0 (x0 : Int) (x6 : Int) (m0 : Mm) (o : (Int × Int)) (e : AExit) (m1 : Mm) (t1 : Tr) : Prop :=
  match o with
  | (y3, y4) => e = (.exit 0) ∧ m0 = m1 ∧ t1.get 3 = (.i .i64 y3) ∧ t1.get 4 = (.i .i64 y4) ∧ t1.get 0 = (.i .i64 x0)
def g71_b0 (M : Means) (ro : List ABlk) (x0 : Int) (x6 : Int) (m0 : Mm) (x3 : Int) (x4 : Int) (x7 : Int) : Option ((Int × Int × Int) ⊕ ((Int × Int))) :=
  forceB (ltI x7 x6) fun c8 =>
  cond c8 (
    forceI (wr .i64 (x3 + x4)) fun x12 =>
    forceI (mxV false x12 1152921504606846977) fun x13 =>
    forceI (wr .i64 (x7 + 1)) fun x14 =>
    some (.inl (x4, x13, x14))) (
    some (.inr (x3, x4)))
abbrev g71_I1 (x16 : Int) (m0 : Mm) (s : Int × Int × Int) (m1 : Mm) (t1 : Tr) : Prop :=
  match s with
  | (x3_2, x4_2, x17) => m0 = m1 ∧ t1.get 3 = (.i .i64 x3_2) ∧ t1.get 4 = (.i .i64 x4_2) ∧ t1.get 17 = (.i .i64 x17) ∧ t1.get 16 = (.i .i64 x16)
abbrev g71_J1 (x16 : Int) (m0 : Mm) (o : Int) (e : AExit) (m1 : Mm) (t1 : Tr) : Prop :=
  match o with
  | y3 => e = (.exit 2) ∧ m0 = m1 ∧ t1.get 3 = (.i .i64 y3)
def g71_b1 (M : Means) (ro : List ABlk) (x16 : Int) (m0 : Mm) (x3_2 : Int) (x4_2 : Int) (x17 : Int) : Option ((Int × Int × Int) ⊕ (Int)) :=
  forceB (ltI x17 x16) fun c18 =>
  cond c18 (
    forceI (wr .i64 (x4_2 - x3_2)) fun x21 =>
    forceI (wr .i64 (x17 + 1)) fun x23 =>
    some (.inl (x21, x3_2, x23))) (
    some (.inr x3_2))
def g71 (M : Means) (ro : List ABlk) (x0 : Int) (m0 : Mm) : Option (AVal × Heap × Nat × Nat) :=
  forceI (mxV false x0 89) fun x6 =>
  bindO (M.loop (S := Int × Int × Int) (R := (Int × Int)) (fun s => g71_b0 M ro x0 x6 m0 s.1 s.2.1 s.2.2) (0, 1, 0)) fun ⟨x3_1, x4_1⟩ =>
  forceI (wr .i64 (0 - x0)) fun x16 =>
  bindO (M.loop (S := Int × Int × Int) (R := Int) (fun s => g71_b1 M ro x16 m0 s.1 s.2.1 s.2.2) (x3_1, x4_1, 0)) fun x3_3 =>
  finM m0.h.length (tupA [(.i .i64 x3_3)]) m0

theorem g71_ok {ro : List ABlk} {O : Caller} {M : Means} (hM : M.Ok ⟨F, O⟩ ro) {x0 h r} (ho : O 71 [(.i .i64 x0)] h = none) (hr : g71 M ro x0 ⟨h, h.length, h.length⟩ = some r) : callX ⟨F, O⟩ ro 71 [(.i .i64 x0)] h = some r := by
  refine callX_of (F := ⟨F, O⟩) (fn := fn71) (g := g71 M ro x0) ho rfl rfl hr ?_
  clear ho
  clear hr
  intro m0 t0 ht hr
  have g0 : t0.get 0 = (.i .i64 x0) := ht 0
  clear ht
  unfold g71 at hr
  refine w_seq ?_
  refine w_ops ?_
  refine wo_step (v := (.i .i64 0)) (s_pure (p_mv rfl)) ?_
  refine wo_nil ?_
  refine nx_norm ?_
  refine w_seq ?_
  refine w_ops ?_
  refine wo_step (v := (.i .i64 0)) (s_pure (p_mv rfl)) ?_
  refine wo_step (v := (.i .i64 1)) (s_pure (p_mv rfl)) ?_
  refine wo_nil ?_
  refine nx_norm ?_
  refine w_seq ?_
  refine w_seq ?_
  refine w_ops ?_
  refine wo_step (v := (.i .i64 x0)) (s_pure (p_mv g0)) ?_
  have hq := forceI_inv hr
  clear hr
  obtain ⟨x6, e6, hr⟩ := hq
  refine wo_step (v := (.i .i64 x6)) (s_pure ((p_mx rfl rfl).trans (ci e6))) ?_
  refine wo_step (v := (.i .i64 0)) (s_pure (p_mv rfl)) ?_
  refine wo_nil ?_
  refine nx_norm ?_
  refine w_block ?_
  have hq := bindO_inv hr
  clear hr
  obtain ⟨o, hl_1, hr⟩ := hq
  obtain ⟨n_1, hl_1⟩ := hM.loop _ _ _ hl_1
  refine jp_mono (w_loop _ (g71_I0 x0 x6 m0) (g71_J0 x0 x6 m0) ?_ n_1 _ _ _ _ hl_1 ⟨rfl, gl rfl, gl rfl, gl rfl, gl g0, gl rfl⟩) ?_
  · clear hr hl_1
    intro s mm_3 t_1 o hi hr
    obtain ⟨x3, x4, x7⟩ := s
    obtain ⟨rfl, g3, g4, g7, g0, g6⟩ := hi
    unfold g71_b0 at hr
    refine w_seq ?_
    refine w_ops ?_
    have hq := forceB_inv hr
    clear hr
    obtain ⟨c8, e8, hr⟩ := hq
    refine wo_step (v := (.b c8)) (s_pure (p_bin g7 g6 (b_lss.trans (cb e8)))) ?_
    refine wo_nil ?_
    refine nx_norm ?_
    refine w_seq ?_
    have hq := cond_inv hr
    clear hr
    rcases hq with ⟨rfl, hr⟩ | ⟨rfl, hr⟩
    · refine w_condT rfl ?_
      refine w_skip ?_
      refine nx_norm ?_
      refine w_seq ?_
      refine w_block ?_
      refine w_ops ?_
      refine wo_step (v := (.i .i64 x4)) (s_pure (p_mv g4)) ?_
      refine wo_step (v := (.i .i64 x3)) (s_pure (p_mv g3)) ?_
      refine wo_step (v := (.i .i64 x4)) (s_pure (p_mv g4)) ?_
      have hq := forceI_inv hr
      clear hr
      obtain ⟨x12, e12, hr⟩ := hq
      refine wo_step (v := (.i .i64 x12)) (s_pure (p_bin rfl rfl (b_add.trans (ci e12)))) ?_
      have hq := forceI_inv hr
      clear hr
      obtain ⟨x13, e13, hr⟩ := hq
      refine wo_step (v := (.i .i64 x13)) (s_pure ((p_mx rfl rfl).trans (ci e13))) ?_
      refine wo_step (v := (.i .i64 x4)) (s_pure (p_mv rfl)) ?_
      refine wo_step (v := (.i .i64 x13)) (s_pure (p_mv rfl)) ?_
      refine wo_nil ?_
      refine bk_norm ?_
      refine nx_norm ?_
      refine w_ops ?_
      have hq := forceI_inv hr
      clear hr
      obtain ⟨x14, e14, hr⟩ := hq
      refine wo_step (v := (.i .i64 x14)) (s_pure (p_bin g7 rfl (b_add.trans (ci e14)))) ?_
      refine wo_step (v := (.i .i64 x14)) (s_pure (p_mv rfl)) ?_
      refine wo_nil ?_
      cases hr
      exact ⟨_, _, rfl, rfl, rfl, gl rfl, gl rfl, gl rfl, gl g0, gl g6⟩
    · refine w_condF rfl ?_
      refine w_exit ?_
      refine nx_exit ?_
      cases hr
      exact ⟨_, _, rfl, ne_norm_exit, rfl, rfl, gl g3, gl g4, gl g0⟩
  · obtain ⟨x3_1, x4_1⟩ := o
    rintro _ mm_2 t_2 ⟨rfl, rfl, g3, g4, g0⟩
    refine bk_hit ?_
    refine nx_norm ?_
    refine w_seq ?_
    refine w_seq ?_
    refine w_ops ?_
    refine wo_step (v := (.i .i64 x0)) (s_pure (p_mv g0)) ?_
    have hq := forceI_inv hr
    clear hr
    obtain ⟨x16, e16, hr⟩ := hq
    refine wo_step (v := (.i .i64 x16)) (s_pure ((p_neg rfl).trans (ci e16))) ?_
    refine wo_step (v := (.i .i64 0)) (s_pure (p_mv rfl)) ?_
    refine wo_nil ?_
    refine nx_norm ?_
    refine w_block ?_
    have hq := bindO_inv hr
    clear hr
    obtain ⟨o_1, hl, hr⟩ := hq
    obtain ⟨n, hl⟩ := hM.loop _ _ _ hl
    refine jp_mono (w_loop _ (g71_I1 x16 m0) (g71_J1 x16 m0) ?_ n _ _ _ _ hl ⟨rfl, gl g3, gl g4, gl rfl, gl rfl⟩) ?_
    · clear hr hl
      intro s mm_1 t_3 o hi hr
      obtain ⟨x3_2, x4_2, x17⟩ := s
      obtain ⟨rfl, g3, g4, g17, g16⟩ := hi
      unfold g71_b1 at hr
      refine w_seq ?_
      refine w_ops ?_
      have hq := forceB_inv hr
      clear hr
      obtain ⟨c18, e18, hr⟩ := hq
      refine wo_step (v := (.b c18)) (s_pure (p_bin g17 g16 (b_lss.trans (cb e18)))) ?_
      refine wo_nil ?_
      refine nx_norm ?_
      refine w_seq ?_
      have hq := cond_inv hr
      clear hr
      rcases hq with ⟨rfl, hr⟩ | ⟨rfl, hr⟩
      · refine w_condT rfl ?_
        refine w_skip ?_
        refine nx_norm ?_
        refine w_seq ?_
        refine w_block ?_
        refine w_ops ?_
        refine wo_step (v := (.i .i64 x4_2)) (s_pure (p_mv g4)) ?_
        refine wo_step (v := (.i .i64 x3_2)) (s_pure (p_mv g3)) ?_
        have hq := forceI_inv hr
        clear hr
        obtain ⟨x21, e21, hr⟩ := hq
        refine wo_step (v := (.i .i64 x21)) (s_pure (p_bin rfl rfl (b_sub.trans (ci e21)))) ?_
        refine wo_step (v := (.i .i64 x3_2)) (s_pure (p_mv g3)) ?_
        refine wo_step (v := (.i .i64 x21)) (s_pure (p_mv rfl)) ?_
        refine wo_step (v := (.i .i64 x3_2)) (s_pure (p_mv rfl)) ?_
        refine wo_nil ?_
        refine bk_norm ?_
        refine nx_norm ?_
        refine w_ops ?_
        have hq := forceI_inv hr
        clear hr
        obtain ⟨x23, e23, hr⟩ := hq
        refine wo_step (v := (.i .i64 x23)) (s_pure (p_bin g17 rfl (b_add.trans (ci e23)))) ?_
        refine wo_step (v := (.i .i64 x23)) (s_pure (p_mv rfl)) ?_
        refine wo_nil ?_
        cases hr
        exact ⟨_, _, rfl, rfl, rfl, gl rfl, gl rfl, gl rfl, gl g16⟩
      · refine w_condF rfl ?_
        refine w_exit ?_
        refine nx_exit ?_
        cases hr
        exact ⟨_, _, rfl, ne_norm_exit, rfl, rfl, gl g3⟩
    · obtain ⟨x3_3, ho⟩ : ∃ z, z = o_1 := ⟨_, rfl⟩
      subst ho
      rintro _ mm t_4 ⟨rfl, rfl, g3⟩
      refine bk_hit ?_
      refine nx_norm ?_
      refine w_seq ?_
      refine w_ops ?_
      refine wo_step (v := (.i .i64 x3_3)) (s_pure (p_mv g3)) ?_
      refine wo_step (v := (.i .i64 x3_3)) (s_pure (p_mv rfl)) ?_
      refine wo_nil ?_
      refine nx_norm ?_
      refine w_ret ?_
      exact qf ret_ok (rt rfl rn) hr

/- bytes.Repeat -/
abbrev g73_J0 (v0 : AVal) (x26 : Int) (m_2 : Mm) (o : Bool) (m1 : Mm) (t1 : Tr) : Prop :=
  match o with
  | c32 => m_2 = m1 ∧ t1.get 32 = (.b c32) ∧ t1.get 0 = v0 ∧ t1.get 6 = (.i .u64 x26)
abbrev g73_J1 (v0 : AVal) (x35 : Int) (m_2 : Mm) (o : Int) (e : AExit) (m1 : Mm) (t1 : Tr) : Prop :=
  match o with
  | y8 => e = .norm ∧ m_2 = m1 ∧ t1.get 8 = (.i .i64 y8) ∧ t1.get 0 = v0 ∧ t1.get 7 = (.i .i64 x35)
abbrev g73_J2 (v0 : AVal) (x35 : Int) (m_2 : Mm) (o : Int) (e : AExit) (m1 : Mm) (t1 : Tr) : Prop :=
  match o with
  | y8 => e = .norm ∧ m_2 = m1 ∧ t1.get 8 = (.i .i64 y8) ∧ t1.get 0 = v0 ∧ t1.get 7 = (.i .i64 x35)
abbrev g73_I3 (x35 : Int) (x8_1 : Int) (v57 : AVal) (s : Int × Mm) (m1 : Mm) (t1 : Tr) : Prop :=
  match s with
  | (x10, m_6) => m_6 = m1 ∧ t1.get 10 = (.i .i64 x10) ∧ t1.get 7 = (.i .i64 x35) ∧ t1.get 8 = (.i .i64 x8_1) ∧ t1.get 9 = v57
abbrev g73_J3 (x35 : Int) (x8_1 : Int) (v57 : AVal) (o : Mm) (e : AExit) (m1 : Mm) (t1 : Tr) : Prop :=
  match o with
  | mo => e = (.exit 0) ∧ mo = m1 ∧ t1.get 9 = v57
def g73_b3 (M : Means) (ro : List ABlk) (x35 : Int) (x8_1 : Int) (v57 : AVal) (x10 : Int) (m_6 : Mm) : Option ((Int × Mm) ⊕ (Mm)) :=
  forceB (ltI x10 x35) fun c63 =>
  cond c63 (
    forceI (mxV false x10 x8_1) fun x66 =>
    bindO (evP .e (.slS 1 (.c v57) (some (.c (.i .i64 x10))) none none)) fun v70 =>
    bindO (evP .e (.slS 1 (.c v57) none (some (.c (.i .i64 x66))) none)) fun v73 =>
    bindP (stepM ro m_6 (.cpy 1 (.c v70) (.c v73))) fun v74 m_7 =>
    asI .i64 v74 fun x74 =>
    forceI (wr .i64 (x10 + x74)) fun x75 =>
    some (.inl (x75, m_7))) (
    some (.inr m_6))
def g73 (M : Means) (ro : List ABlk) (v0 : AVal) (x1 : Int) (m0 : Mm) : Option (AVal × Heap × Nat × Nat) :=
  forceB (eqI x1 0) fun c13 =>
  cond c13 (
    bindP (stepM ro m0 (.bsl 5 1 [(AVal.i IntKind.u8 0)] 0 [])) fun v14 m_1 =>
    finM m0.h.length (tupA [v14]) m_1) (
    forceB (ltI x1 0) fun c16 =>
    cond c16 (
      none) (
      bindO (evP .e (.len false (.c v0))) fun v20 =>
      asI .i64 v20 fun x20 =>
      forceI (wr .u64 x20) fun x21 =>
      forceI (wr .u64 x1) fun x23 =>
      bindP (callM M.call m0 78 [(.i .u64 x21), (.i .u64 x23)]) fun v24 m_2 =>
      bindO (evP .e (.ext 0 (.c v24))) fun v25 =>
      asI .u64 v25 fun x25 =>
      bindO (evP .e (.ext 1 (.c v24))) fun v26 =>
      asI .u64 v26 fun x26 =>
      forceB (ltI 0 x25) fun c28 =>
      bindO (cond c28 (
        some true) (
        forceB (ltI 9223372036854775807 x26) fun c31 =>
        some c31)) fun c32 =>
      cond c32 (
        none) (
        forceI (wr .i64 x26) fun x35 =>
        bindO (evP .e (.len false (.c v0))) fun v37 =>
        asI .i64 v37 fun x37 =>
        forceB (eqI x37 0) fun c38 =>
        cond c38 (
          bindP (stepM ro m_2 (.bsl 5 1 [(AVal.i IntKind.u8 0)] 0 [])) fun v39 m_3 =>
          finM m0.h.length (tupA [v39]) m_3) (
          forceB (ltI 8192 x35) fun c42 =>
          bindO (α := Int) (
            cond c42 (
              bindO (evP .e (.len false (.c v0))) fun v44 =>
              asI .i64 v44 fun x44 =>
              chk (!eqI x44 (.ofNat 0)) <|
              forceI (wr .i64 (Int.tdiv 8192 x44)) fun x45 =>
              bindO (evP .e (.len false (.c v0))) fun v47 =>
              asI .i64 v47 fun x47 =>
              forceI (wr .i64 (x45 * x47)) fun x48 =>
              forceB (eqI x48 0) fun c50 =>
              bindO (α := Int) (
                cond c50 (
                  bindO (evP .e (.len false (.c v0))) fun v52 =>
                  asI .i64 v52 fun x52 =>
                  some x52) (
                  some x48)) fun x8 =>
              some x8) (
              some x35)) fun x8_1 =>
          bindP (stepM ro m_2 (.mnz 5 (.c (.i .i64 x35)))) fun v54 m_4 =>
          bindO (evP .e (.slS 1 (.c v54) none (some (.c (.i .i64 x35))) (some (.c (.i .i64 x35))))) fun v57 =>
          bindP (stepM ro m_4 (.cpy 1 (.c v57) (.c v0))) fun v60 m_5 =>
          asI .i64 v60 fun x60 =>
          bindO (M.loop (S := Int × Mm) (R := Mm) (fun s => g73_b3 M ro x35 x8_1 v57 s.1 s.2) (x60, m_5)) fun m_8 =>
          finM m0.h.length (tupA [v57]) m_8))))

theorem g73_ok {ro : List ABlk} {O : Caller} {M : Means} (hM : M.Ok ⟨F, O⟩ ro) {v0 x1 h r} (ho : O 73 [v0, (.i .i64 x1)] h = none) (hr : g73 M ro v0 x1 ⟨h, h.length, h.length⟩ = some r) : callX ⟨F, O⟩ ro 73 [v0, (.i .i64 x1)] h = some r := by
  refine callX_of (F := ⟨F, O⟩) (fn := fn73) (g := g73 M ro v0 x1) ho rfl rfl hr ?_
  clear ho
  clear hr
  intro m0 t0 ht hr
  have g0 : t0.get 0 = v0 := ht 0
  have g1 : t0.get 1 = (.i .i64 x1) := ht 1
  clear ht
  unfold g73 at hr
  refine w_seq ?_
  refine w_ops ?_
  refine wo_step (v := AVal.nsl) (s_pure (p_mv rfl)) ?_
  refine wo_nil ?_
  refine nx_norm ?_
  refine w_seq ?_
  refine w_seq ?_
  refine w_ops ?_
  refine wo_step (v := (.i .i64 x1)) (s_pure (p_mv g1)) ?_
  have hq := forceB_inv hr
  clear hr
  obtain ⟨c13, e13, hr⟩ := hq
  refine wo_step (v := (.b c13)) (s_pure (p_bin rfl rfl (b_eql.trans (cb e13)))) ?_
  refine wo_nil ?_
  refine nx_norm ?_
  have hq := cond_inv hr
  clear hr
  rcases hq with ⟨rfl, hr⟩ | ⟨rfl, hr⟩
  · refine w_condT rfl ?_
    refine w_seq ?_
    refine w_ops ?_
    have hq := bindP_inv hr
    clear hr
    obtain ⟨v14, m_1, e14, hr⟩ := hq
    refine wo_step (v := v14) (s_bsl qn e14) ?_
    refine wo_step (v := v14) (s_pure (p_mv rfl)) ?_
    refine wo_nil ?_
    refine nx_norm ?_
    refine w_ret ?_
    refine nx_ret ?_
    exact qf ret_ok (rt rfl rn) hr
  · refine w_condF rfl ?_
    refine w_skip ?_
    refine nx_norm ?_
    refine w_seq ?_
    refine w_seq ?_
    refine w_ops ?_
    refine wo_step (v := (.i .i64 x1)) (s_pure (p_mv g1)) ?_
    have hq := forceB_inv hr
    clear hr
    obtain ⟨c16, e16, hr⟩ := hq
    refine wo_step (v := (.b c16)) (s_pure (p_bin rfl rfl (b_lss.trans (cb e16)))) ?_
    refine wo_nil ?_
    refine nx_norm ?_
    have hq := cond_inv hr
    clear hr
    rcases hq with ⟨rfl, hr⟩ | ⟨rfl, hr⟩
    · refine w_condT rfl ?_
      cases hr
    · refine w_condF rfl ?_
      refine w_skip ?_
      refine nx_norm ?_
      refine w_seq ?_
      refine w_ops ?_
      refine wo_step (v := v0) (s_pure (p_mv g0)) ?_
      have hq := bindO_inv hr
      clear hr
      obtain ⟨v20, e20, hr⟩ := hq
      have hq := asI_inv hr
      clear hr
      obtain ⟨x20, rfl, hr⟩ := hq
      refine wo_step (v := (.i .i64 x20)) (s_pure (o_len rfl e20)) ?_
      have hq := forceI_inv hr
      clear hr
      obtain ⟨x21, e21, hr⟩ := hq
      refine wo_step (v := (.i .u64 x21)) (s_pure ((p_conv rfl).trans (ci e21))) ?_
      refine wo_step (v := (.i .i64 x1)) (s_pure (p_mv g1)) ?_
      have hq := forceI_inv hr
      clear hr
      obtain ⟨x23, e23, hr⟩ := hq
      refine wo_step (v := (.i .u64 x23)) (s_pure ((p_conv rfl).trans (ci e23))) ?_
      have hq := bindP_inv hr
      clear hr
      obtain ⟨v24, m_2, e24, hr⟩ := hq
      refine wo_step (v := v24) (s_call (mc rfl (mc rfl mn)) (callM_le hM.call e24)) ?_
      refine wo_step (v := v24) (s_pure (p_mv rfl)) ?_
      have hq := bindO_inv hr
      clear hr
      obtain ⟨v25, e25, hr⟩ := hq
      have hq := asI_inv hr
      clear hr
      obtain ⟨x25, rfl, hr⟩ := hq
      refine wo_step (v := (.i .u64 x25)) (s_pure (o_ext rfl e25)) ?_
      have hq := bindO_inv hr
      clear hr
      obtain ⟨v26, e26, hr⟩ := hq
      have hq := asI_inv hr
      clear hr
      obtain ⟨x26, rfl, hr⟩ := hq
      refine wo_step (v := (.i .u64 x26)) (s_pure (o_ext rfl e26)) ?_
      refine wo_step (v := (.i .u64 x25)) (s_pure (p_mv rfl)) ?_
      refine wo_step (v := (.i .u64 x26)) (s_pure (p_mv rfl)) ?_
      refine wo_nil ?_
      refine nx_norm ?_
      refine w_seq ?_
      refine w_seq ?_
      refine w_ops ?_
      refine wo_step (v := (.i .u64 x25)) (s_pure (p_mv rfl)) ?_
      have hq := forceB_inv hr
      clear hr
      obtain ⟨c28, e28, hr⟩ := hq
      refine wo_step (v := (.b c28)) (s_pure (p_bin rfl rfl (b_gtr.trans (cb e28)))) ?_
      refine wo_step (v := (.b c28)) (s_pure (p_mv rfl)) ?_
      have hq := bindO_inv hr
      clear hr
      obtain ⟨o, hr, hk⟩ := hq
      refine wo_join 3 (g73_J0 v0 x26 m_2 o) ?_ ?_
      · clear hk
        have hq := cond_inv hr
        clear hr
        rcases hq with ⟨rfl, hr⟩ | ⟨rfl, hr⟩
        · refine wo_skip (v := (.b true)) rfl rfl ?_
          refine wo_skip (v := (.b true)) rfl rfl ?_
          refine wo_step (v := (.b true)) (s_pure (p_pickT rfl rfl)) ?_
          refine wo_nil ?_
          cases hr
          exact ⟨_, _, rfl, rfl, gl rfl, gl g0, gl rfl⟩
        · refine wo_take (v := (.i .u64 x26)) rfl (s_pure (p_mv rfl)) ?_
          have hq := forceB_inv hr
          clear hr
          obtain ⟨c31, e31, hr⟩ := hq
          refine wo_take (v := (.b c31)) rfl (s_pure (p_bin rfl rfl (b_gtr.trans (cb e31)))) ?_
          refine wo_step (v := (.b c31)) (s_pure (p_pickF rfl rfl)) ?_
          refine wo_nil ?_
          cases hr
          exact ⟨_, _, rfl, rfl, gl rfl, gl g0, gl rfl⟩
      · clear hr
        have hr := hk
        clear hk
        obtain ⟨c32, ho⟩ : ∃ z, z = o := ⟨_, rfl⟩
        subst ho
        rintro mm t_1 ⟨rfl, g32, g0, g6⟩
        refine wo_nil ?_
        refine nx_norm ?_
        have hq := cond_inv hr
        clear hr
        rcases hq with ⟨rfl, hr⟩ | ⟨rfl, hr⟩
        · refine w_condT g32 ?_
          cases hr
        · refine w_condF g32 ?_
          refine w_skip ?_
          refine nx_norm ?_
          refine w_seq ?_
          refine w_ops ?_
          refine wo_step (v := (.i .u64 x26)) (s_pure (p_mv g6)) ?_
          have hq := forceI_inv hr
          clear hr
          obtain ⟨x35, e35, hr⟩ := hq
          refine wo_step (v := (.i .i64 x35)) (s_pure ((p_conv rfl).trans (ci e35))) ?_
          refine wo_step (v := (.i .i64 x35)) (s_pure (p_mv rfl)) ?_
          refine wo_nil ?_
          refine nx_norm ?_
          refine w_seq ?_
          refine w_seq ?_
          refine w_ops ?_
          refine wo_step (v := v0) (s_pure (p_mv g0)) ?_
          have hq := bindO_inv hr
          clear hr
          obtain ⟨v37, e37, hr⟩ := hq
          have hq := asI_inv hr
          clear hr
          obtain ⟨x37, rfl, hr⟩ := hq
          refine wo_step (v := (.i .i64 x37)) (s_pure (o_len rfl e37)) ?_
          have hq := forceB_inv hr
          clear hr
          obtain ⟨c38, e38, hr⟩ := hq
          refine wo_step (v := (.b c38)) (s_pure (p_bin rfl rfl (b_eql.trans (cb e38)))) ?_
          refine wo_nil ?_
          refine nx_norm ?_
          have hq := cond_inv hr
          clear hr
          rcases hq with ⟨rfl, hr⟩ | ⟨rfl, hr⟩
          · refine w_condT rfl ?_
            refine w_seq ?_
            refine w_ops ?_
            have hq := bindP_inv hr
            clear hr
            obtain ⟨v39, m_3, e39, hr⟩ := hq
            refine wo_step (v := v39) (s_bsl qn e39) ?_
            refine wo_step (v := v39) (s_pure (p_mv rfl)) ?_
            refine wo_nil ?_
            refine nx_norm ?_
            refine w_ret ?_
            refine nx_ret ?_
            exact qf ret_ok (rt rfl rn) hr
          · refine w_condF rfl ?_
            refine w_skip ?_
            refine nx_norm ?_
            refine w_seq ?_
            refine w_ops ?_
            refine wo_step (v := (.i .i64 x35)) (s_pure (p_mv rfl)) ?_
            refine wo_step (v := (.i .i64 x35)) (s_pure (p_mv rfl)) ?_
            refine wo_nil ?_
            refine nx_norm ?_
            refine w_seq ?_
            refine w_seq ?_
            refine w_ops ?_
            refine wo_step (v := (.i .i64 x35)) (s_pure (p_mv rfl)) ?_
            have hq := forceB_inv hr
            clear hr
            obtain ⟨c42, e42, hr⟩ := hq
            refine wo_step (v := (.b c42)) (s_pure (p_bin rfl rfl (b_gtr.trans (cb e42)))) ?_
            refine wo_nil ?_
            refine nx_norm ?_
            have hq := bindO_inv hr
            clear hr
            obtain ⟨o_1, hr, hk⟩ := hq
            refine jp_mono (J := g73_J1 v0 x35 m_2 o_1) ?_ ?_
            · clear hk
              have hq := cond_inv hr
              clear hr
              rcases hq with ⟨rfl, hr⟩ | ⟨rfl, hr⟩
              · refine w_condT rfl ?_
                refine w_seq ?_
                refine w_ops ?_
                refine wo_step (v := v0) (s_pure (p_mv g0)) ?_
                have hq := bindO_inv hr
                clear hr
                obtain ⟨v44, e44, hr⟩ := hq
                have hq := asI_inv hr
                clear hr
                obtain ⟨x44, rfl, hr⟩ := hq
                refine wo_step (v := (.i .i64 x44)) (s_pure (o_len rfl e44)) ?_
                have hq := chk_inv hr
                clear hr
                obtain ⟨hc45, hr⟩ := hq
                have hq := forceI_inv hr
                clear hr
                obtain ⟨x45, e45, hr⟩ := hq
                refine wo_step (v := (.i .i64 x45)) (s_pure (p_bin rfl rfl ((b_quo hc45).trans (ci e45)))) ?_
                refine wo_step (v := v0) (s_pure (p_mv g0)) ?_
                have hq := bindO_inv hr
                clear hr
                obtain ⟨v47, e47, hr⟩ := hq
                have hq := asI_inv hr
                clear hr
                obtain ⟨x47, rfl, hr⟩ := hq
                refine wo_step (v := (.i .i64 x47)) (s_pure (o_len rfl e47)) ?_
                have hq := forceI_inv hr
                clear hr
                obtain ⟨x48, e48, hr⟩ := hq
                refine wo_step (v := (.i .i64 x48)) (s_pure (p_bin rfl rfl (b_mul.trans (ci e48)))) ?_
                refine wo_step (v := (.i .i64 x48)) (s_pure (p_mv rfl)) ?_
                refine wo_nil ?_
                refine nx_norm ?_
                refine w_seq ?_
                refine w_ops ?_
                refine wo_step (v := (.i .i64 x48)) (s_pure (p_mv rfl)) ?_
                have hq := forceB_inv hr
                clear hr
                obtain ⟨c50, e50, hr⟩ := hq
                refine wo_step (v := (.b c50)) (s_pure (p_bin rfl rfl (b_eql.trans (cb e50)))) ?_
                refine wo_nil ?_
                refine nx_norm ?_
                have hq := bindO_inv hr
                clear hr
                obtain ⟨o_2, hr, hk⟩ := hq
                refine jp_mono (J := g73_J2 v0 x35 m_2 o_2) ?_ ?_
                · clear hk
                  have hq := cond_inv hr
                  clear hr
                  rcases hq with ⟨rfl, hr⟩ | ⟨rfl, hr⟩
                  · refine w_condT rfl ?_
                    refine w_ops ?_
                    refine wo_step (v := v0) (s_pure (p_mv g0)) ?_
                    have hq := bindO_inv hr
                    clear hr
                    obtain ⟨v52, e52, hr⟩ := hq
                    have hq := asI_inv hr
                    clear hr
                    obtain ⟨x52, rfl, hr⟩ := hq
                    refine wo_step (v := (.i .i64 x52)) (s_pure (o_len rfl e52)) ?_
                    refine wo_step (v := (.i .i64 x52)) (s_pure (p_mv rfl)) ?_
                    refine wo_nil ?_
                    cases hr
                    exact ⟨_, _, rfl, rfl, rfl, gl rfl, gl g0, gl rfl⟩
                  · refine w_condF rfl ?_
                    refine w_skip ?_
                    cases hr
                    exact ⟨_, _, rfl, rfl, rfl, gl rfl, gl g0, gl rfl⟩
                · clear hr
                  have hr := hk
                  clear hk
                  obtain ⟨x8, ho⟩ : ∃ z, z = o_2 := ⟨_, rfl⟩
                  subst ho
                  rintro _ mm_1 t_2 ⟨rfl, rfl, g8, g0, g7⟩
                  cases hr
                  exact ⟨_, _, rfl, rfl, rfl, gl g8, gl g0, gl g7⟩
              · refine w_condF rfl ?_
                refine w_skip ?_
                cases hr
                exact ⟨_, _, rfl, rfl, rfl, gl rfl, gl g0, gl rfl⟩
            · clear hr
              have hr := hk
              clear hk
              obtain ⟨x8_1, ho⟩ : ∃ z, z = o_1 := ⟨_, rfl⟩
              subst ho
              rintro _ mm_4 t_3 ⟨rfl, rfl, g8, g0, g7⟩
              refine nx_norm ?_
              refine w_seq ?_
              refine w_ops ?_
              refine wo_step (v := (.i .i64 x35)) (s_pure (p_mv g7)) ?_
              have hq := bindP_inv hr
              clear hr
              obtain ⟨v54, m_4, e54, hr⟩ := hq
              refine wo_step (v := v54) (s_mnz rfl e54) ?_
              refine wo_step (v := (.i .i64 x35)) (s_pure (p_mv g7)) ?_
              refine wo_step (v := (.i .i64 x35)) (s_pure (p_mv g7)) ?_
              have hq := bindO_inv hr
              clear hr
              obtain ⟨v57, e57, hr⟩ := hq
              refine wo_step (v := v57) (s_pure (o_slS rfl on (os rfl) (os rfl) e57)) ?_
              refine wo_step (v := v57) (s_pure (p_mv rfl)) ?_
              refine wo_nil ?_
              refine nx_norm ?_
              refine w_seq ?_
              refine w_ops ?_
              refine wo_step (v := v57) (s_pure (p_mv rfl)) ?_
              refine wo_step (v := v0) (s_pure (p_mv g0)) ?_
              have hq := bindP_inv hr
              clear hr
              obtain ⟨v60, m_5, e60, hr⟩ := hq
              have hq := asI_inv hr
              clear hr
              obtain ⟨x60, rfl, hr⟩ := hq
              refine wo_step (v := (.i .i64 x60)) (s_cpy rfl rfl e60) ?_
              refine wo_step (v := (.i .i64 x60)) (s_pure (p_mv rfl)) ?_
              refine wo_nil ?_
              refine nx_norm ?_
              refine w_seq ?_
              refine w_block ?_
              have hq := bindO_inv hr
              clear hr
              obtain ⟨o_3, hl, hr⟩ := hq
              obtain ⟨n, hl⟩ := hM.loop _ _ _ hl
              refine jp_mono (w_loop _ (g73_I3 x35 x8_1 v57) (g73_J3 x35 x8_1 v57) ?_ n _ _ _ _ hl ⟨rfl, gl rfl, gl g7, gl g8, gl rfl⟩) ?_
              · clear hr hl
                intro s mm_3 t_4 o hi hr
                obtain ⟨x10, m_6⟩ := s
                obtain ⟨rfl, g10, g7, g8, g9⟩ := hi
                unfold g73_b3 at hr
                refine w_seq ?_
                refine w_seq ?_
                refine w_ops ?_
                refine wo_step (v := (.i .i64 x10)) (s_pure (p_mv g10)) ?_
                refine wo_step (v := (.i .i64 x35)) (s_pure (p_mv g7)) ?_
                have hq := forceB_inv hr
                clear hr
                obtain ⟨c63, e63, hr⟩ := hq
                refine wo_step (v := (.b c63)) (s_pure (p_bin rfl rfl (b_lss.trans (cb e63)))) ?_
                refine wo_nil ?_
                refine nx_norm ?_
                have hq := cond_inv hr
                clear hr
                rcases hq with ⟨rfl, hr⟩ | ⟨rfl, hr⟩
                · refine w_condT rfl ?_
                  refine w_skip ?_
                  refine nx_norm ?_
                  refine w_block ?_
                  refine w_seq ?_
                  refine w_ops ?_
                  refine wo_step (v := (.i .i64 x10)) (s_pure (p_mv g10)) ?_
                  refine wo_step (v := (.i .i64 x8_1)) (s_pure (p_mv g8)) ?_
                  have hq := forceI_inv hr
                  clear hr
                  obtain ⟨x66, e66, hr⟩ := hq
                  refine wo_step (v := (.i .i64 x66)) (s_pure ((p_mx rfl rfl).trans (ci e66))) ?_
                  refine wo_step (v := (.i .i64 x66)) (s_pure (p_mv rfl)) ?_
                  refine wo_nil ?_
                  refine nx_norm ?_
                  refine w_ops ?_
                  refine wo_step (v := (.i .i64 x10)) (s_pure (p_mv g10)) ?_
                  refine wo_step (v := v57) (s_pure (p_mv g9)) ?_
                  refine wo_step (v := (.i .i64 x10)) (s_pure (p_mv g10)) ?_
                  have hq := bindO_inv hr
                  clear hr
                  obtain ⟨v70, e70, hr⟩ := hq
                  refine wo_step (v := v70) (s_pure (o_slS rfl (os rfl) on on e70)) ?_
                  refine wo_step (v := v57) (s_pure (p_mv g9)) ?_
                  refine wo_step (v := (.i .i64 x66)) (s_pure (p_mv rfl)) ?_
                  have hq := bindO_inv hr
                  clear hr
                  obtain ⟨v73, e73, hr⟩ := hq
                  refine wo_step (v := v73) (s_pure (o_slS rfl on (os rfl) on e73)) ?_
                  have hq := bindP_inv hr
                  clear hr
                  obtain ⟨v74, m_7, e74, hr⟩ := hq
                  have hq := asI_inv hr
                  clear hr
                  obtain ⟨x74, rfl, hr⟩ := hq
                  refine wo_step (v := (.i .i64 x74)) (s_cpy rfl rfl e74) ?_
                  have hq := forceI_inv hr
                  clear hr
                  obtain ⟨x75, e75, hr⟩ := hq
                  refine wo_step (v := (.i .i64 x75)) (s_pure (p_bin rfl rfl (b_add.trans (ci e75)))) ?_
                  refine wo_step (v := (.i .i64 x75)) (s_pure (p_mv rfl)) ?_
                  refine wo_nil ?_
                  refine bk_norm ?_
                  cases hr
                  exact ⟨_, _, rfl, rfl, rfl, gl rfl, gl g7, gl g8, gl g9⟩
                · refine w_condF rfl ?_
                  refine w_exit ?_
                  refine nx_exit ?_
                  cases hr
                  exact ⟨_, _, rfl, ne_norm_exit, rfl, rfl, gl g9⟩
              · obtain ⟨m_8, ho⟩ : ∃ z, z = o_3 := ⟨_, rfl⟩
                subst ho
                rintro _ mm_2 t_5 ⟨rfl, rfl, g9⟩
                refine bk_hit ?_
                refine nx_norm ?_
                refine w_seq ?_
                refine w_ops ?_
                refine wo_step (v := v57) (s_pure (p_mv g9)) ?_
                refine wo_step (v := v57) (s_pure (p_mv rfl)) ?_
                refine wo_nil ?_
                refine nx_norm ?_
                refine w_ret ?_
                exact qf ret_ok (rt rfl rn) hr

/- strings.HasPrefix -/

def g74 (M : Means) (ro : List ABlk) (s0 : List UInt8) (s1 : List UInt8) (m0 : Mm) : Option (AVal × Heap × Nat × Nat) :=
  bindP (callM M.call m0 80 [(.s s0), (.s s1)]) fun v7 m_1 =>
  asB v7 fun c7 =>
  finM m0.h.length (tupA [(.b c7)]) m_1

theorem g74_ok {ro : List ABlk} {O : Caller} {M : Means} (hM : M.Ok ⟨F, O⟩ ro) {s0 s1 h r} (ho : O 74 [(.s s0), (.s s1)] h = none) (hr : g74 M ro s0 s1 ⟨h, h.length, h.length⟩ = some r) : callX ⟨F, O⟩ ro 74 [(.s s0), (.s s1)] h = some r := by
  refine callX_of (F := ⟨F, O⟩) (fn := fn74) (g := g74 M ro s0 s1) ho rfl rfl hr ?_
  clear ho
  clear hr
  intro m0 t0 ht hr
  have g0 : t0.get 0 = (.s s0) := ht 0
  have g1 : t0.get 1 = (.s s1) := ht 1
  clear ht
  unfold g74 at hr
  refine w_seq ?_
  refine w_ops ?_
  refine wo_step (v := (.b false)) (s_pure (p_mv rfl)) ?_
  refine wo_nil ?_
  refine nx_norm ?_
  refine w_seq ?_
  refine w_ops ?_
  refine wo_step (v := (.s s0)) (s_pure (p_mv g0)) ?_
  refine wo_step (v := (.s s1)) (s_pure (p_mv g1)) ?_
  have hq := bindP_inv hr
  clear hr
  obtain ⟨v7, m_1, e7, hr⟩ := hq
  have hq := asB_inv hr
  clear hr
  obtain ⟨c7, rfl, hr⟩ := hq
  refine wo_step (v := (.b c7)) (s_call (mc rfl (mc rfl mn)) (callM_le hM.call e7)) ?_
  refine wo_step (v := (.b c7)) (s_pure (p_mv rfl)) ?_
  refine wo_nil ?_
  refine nx_norm ?_
  refine w_ret ?_
  exact qf ret_ok (rt rfl rn) hr

/- math/bits.Mul -/

def g78 (M : Means) (ro : List ABlk) (x0 : Int) (x1 : Int) (m0 : Mm) : Option (AVal × Heap × Nat × Nat) :=
  bindP (callM M.call m0 86 [(.i .u64 x0), (.i .u64 x1)]) fun v25 m_1 =>
  bindO (evP .e (.ext 0 (.c v25))) fun v26 =>
  asI .u64 v26 fun x26 =>
  bindO (evP .e (.ext 1 (.c v25))) fun v27 =>
  asI .u64 v27 fun x27 =>
  finM m0.h.length (tupA [(.i .u64 x26), (.i .u64 x27)]) m_1

theorem g78_ok {ro : List ABlk} {O : Caller} {M : Means} (hM : M.Ok ⟨F, O⟩ ro) {x0 x1 h r} (ho : O 78 [(.i .u64 x0), (.i .u64 x1)] h = none) (hr : g78 M ro x0 x1 ⟨h, h.length, h.length⟩ = some r) : callX ⟨F, O⟩ ro 78 [(.i .u64 x0), (.i .u64 x1)] h = some r := by
  refine callX_of (F := ⟨F, O⟩) (fn := fn78) (g := g78 M ro x0 x1) ho rfl rfl hr ?_
  clear ho
  clear hr
  intro m0 t0 ht hr
  have g0 : t0.get 0 = (.i .u64 x0) := ht 0
  have g1 : t0.get 1 = (.i .u64 x1) := ht 1
  clear ht
  unfold g78 at hr
  refine w_seq ?_
  refine w_ops ?_
  refine wo_step (v := (.i .u64 0)) (s_pure (p_mv rfl)) ?_
  refine wo_step (v := (.i .u64 0)) (s_pure (p_mv rfl)) ?_
  refine wo_nil ?_
  refine nx_norm ?_
  refine w_seq ?_
  refine w_condF rfl ?_
  refine w_skip ?_
  refine nx_norm ?_
  refine w_seq ?_
  refine w_ops ?_
  refine wo_step (v := (.i .u64 x0)) (s_pure (p_mv g0)) ?_
  refine wo_step (v := (.i .u64 x1)) (s_pure (p_mv g1)) ?_
  have hq := bindP_inv hr
  clear hr
  obtain ⟨v25, m_1, e25, hr⟩ := hq
  refine wo_step (v := v25) (s_call (mc rfl (mc rfl mn)) (callM_le hM.call e25)) ?_
  refine wo_step (v := v25) (s_pure (p_mv rfl)) ?_
  have hq := bindO_inv hr
  clear hr
  obtain ⟨v26, e26, hr⟩ := hq
  have hq := asI_inv hr
  clear hr
  obtain ⟨x26, rfl, hr⟩ := hq
  refine wo_step (v := (.i .u64 x26)) (s_pure (o_ext rfl e26)) ?_
  have hq := bindO_inv hr
  clear hr
  obtain ⟨v27, e27, hr⟩ := hq
  have hq := asI_inv hr
  clear hr
  obtain ⟨x27, rfl, hr⟩ := hq
  refine wo_step (v := (.i .u64 x27)) (s_pure (o_ext rfl e27)) ?_
  refine wo_step (v := (.i .u64 x26)) (s_pure (p_mv rfl)) ?_
  refine wo_step (v := (.i .u64 x27)) (s_pure (p_mv rfl)) ?_
  refine wo_nil ?_
  refine nx_norm ?_
  refine w_seq ?_
  refine w_ops ?_
  refine wo_step (v := (.i .u64 x26)) (s_pure (p_mv rfl)) ?_
  refine wo_step (v := (.i .u64 x27)) (s_pure (p_mv rfl)) ?_
  refine wo_step (v := (.i .u64 x26)) (s_pure (p_mv rfl)) ?_
  refine wo_step (v := (.i .u64 x27)) (s_pure (p_mv rfl)) ?_
  refine wo_nil ?_
  refine nx_norm ?_
  refine w_ret ?_
  exact qf ret_ok (rt rfl (rt rfl rn)) hr

/- internal/stringslite.HasPrefix -/
abbrev g80_J0 (m0 : Mm) (o : Bool) (m1 : Mm) (t1 : Tr) : Prop :=
  match o with
  | c17 => m0 = m1 ∧ t1.get 17 = (.b c17)
def g80 (M : Means) (ro : List ABlk) (s0 : List UInt8) (s1 : List UInt8) (m0 : Mm) : Option (AVal × Heap × Nat × Nat) :=
  bindO (evP .e (.len true (.c (.s s0)))) fun v6 =>
  asI .i64 v6 fun x6 =>
  bindO (evP .e (.len true (.c (.s s1)))) fun v8 =>
  asI .i64 v8 fun x8 =>
  forceB (!ltI x6 x8) fun c9 =>
  bindO (cond c9 (
    bindO (evP .e (.len true (.c (.s s1)))) fun v13 =>
    asI .i64 v13 fun x13 =>
    bindO (evP .e (.slStr (.c (.s s0)) none (some (.c (.i .i64 x13))))) fun v14 =>
    asS v14 fun s14 =>
    bindO (evP .e (.sbin BinOp.eql (.c (.s s14)) (.c (.s s1)))) fun v16 =>
    asB v16 fun c16 =>
    some c16) (
    some false)) fun c17 =>
  finM m0.h.length (tupA [(.b c17)]) m0

theorem g80_ok {ro : List ABlk} {O : Caller} {M : Means} (hM : M.Ok ⟨F, O⟩ ro) {s0 s1 h r} (ho : O 80 [(.s s0), (.s s1)] h = none) (hr : g80 M ro s0 s1 ⟨h, h.length, h.length⟩ = some r) : callX ⟨F, O⟩ ro 80 [(.s s0), (.s s1)] h = some r := by
  refine callX_of (F := ⟨F, O⟩) (fn := fn80) (g := g80 M ro s0 s1) ho rfl rfl hr ?_
  clear ho
  clear hr
  intro m0 t0 ht hr
  have g0 : t0.get 0 = (.s s0) := ht 0
  have g1 : t0.get 1 = (.s s1) := ht 1
  clear ht
  unfold g80 at hr
  refine w_seq ?_
  refine w_ops ?_
  refine wo_step (v := (.b false)) (s_pure (p_mv rfl)) ?_
  refine wo_nil ?_
  refine nx_norm ?_
  refine w_seq ?_
  refine w_ops ?_
  refine wo_step (v := (.s s0)) (s_pure (p_mv g0)) ?_
  have hq := bindO_inv hr
  clear hr
  obtain ⟨v6, e6, hr⟩ := hq
  have hq := asI_inv hr
  clear hr
  obtain ⟨x6, rfl, hr⟩ := hq
  refine wo_step (v := (.i .i64 x6)) (s_pure (o_len rfl e6)) ?_
  refine wo_step (v := (.s s1)) (s_pure (p_mv g1)) ?_
  have hq := bindO_inv hr
  clear hr
  obtain ⟨v8, e8, hr⟩ := hq
  have hq := asI_inv hr
  clear hr
  obtain ⟨x8, rfl, hr⟩ := hq
  refine wo_step (v := (.i .i64 x8)) (s_pure (o_len rfl e8)) ?_
  have hq := forceB_inv hr
  clear hr
  obtain ⟨c9, e9, hr⟩ := hq
  refine wo_step (v := (.b c9)) (s_pure (p_bin rfl rfl (b_geq.trans (cb e9)))) ?_
  refine wo_step (v := (.b c9)) (s_pure (p_mv rfl)) ?_
  have hq := bindO_inv hr
  clear hr
  obtain ⟨o, hr, hk⟩ := hq
  refine wo_join 7 (g80_J0 m0 o) ?_ ?_
  · clear hk
    have hq := cond_inv hr
    clear hr
    rcases hq with ⟨rfl, hr⟩ | ⟨rfl, hr⟩
    · refine wo_take (v := (.s s0)) rfl (s_pure (p_mv g0)) ?_
      refine wo_take (v := (.s s1)) rfl (s_pure (p_mv g1)) ?_
      have hq := bindO_inv hr
      clear hr
      obtain ⟨v13, e13, hr⟩ := hq
      have hq := asI_inv hr
      clear hr
      obtain ⟨x13, rfl, hr⟩ := hq
      refine wo_take (v := (.i .i64 x13)) rfl (s_pure (o_len rfl e13)) ?_
      have hq := bindO_inv hr
      clear hr
      obtain ⟨v14, e14, hr⟩ := hq
      have hq := asS_inv hr
      clear hr
      obtain ⟨s14, rfl, hr⟩ := hq
      refine wo_take (v := (.s s14)) rfl (s_pure (o_slStr rfl on (os rfl) e14)) ?_
      refine wo_take (v := (.s s1)) rfl (s_pure (p_mv g1)) ?_
      have hq := bindO_inv hr
      clear hr
      obtain ⟨v16, e16, hr⟩ := hq
      have hq := asB_inv hr
      clear hr
      obtain ⟨c16, rfl, hr⟩ := hq
      refine wo_take (v := (.b c16)) rfl (s_pure (o_sbin rfl rfl e16)) ?_
      refine wo_step (v := (.b c16)) (s_pure (p_pickT rfl rfl)) ?_
      refine wo_nil ?_
      cases hr
      exact ⟨_, _, rfl, rfl, gl rfl⟩
    · refine wo_skip (v := (.b false)) rfl rfl ?_
      refine wo_skip (v := (.b false)) rfl rfl ?_
      refine wo_skip (v := (.b false)) rfl rfl ?_
      refine wo_skip (v := (.b false)) rfl rfl ?_
      refine wo_skip (v := (.b false)) rfl rfl ?_
      refine wo_skip (v := (.b false)) rfl rfl ?_
      refine wo_step (v := (.b false)) (s_pure (p_pickF rfl rfl)) ?_
      refine wo_nil ?_
      cases hr
      exact ⟨_, _, rfl, rfl, gl rfl⟩
  · clear hr
    have hr := hk
    clear hk
    obtain ⟨c17, ho⟩ : ∃ z, z = o := ⟨_, rfl⟩
    subst ho
    rintro mm t_1 ⟨rfl, g17⟩
    refine wo_step (v := (.b c17)) (s_pure (p_mv g17)) ?_
    refine wo_nil ?_
    refine nx_norm ?_
    refine w_ret ?_
    exact qf ret_ok (rt rfl rn) hr

/- math/bits.Mul64 -/

def g86 (M : Means) (ro : List ABlk) (x0 : Int) (x1 : Int) (m0 : Mm) : Option (AVal × Heap × Nat × Nat) :=
  forceI (bitV .and .u64 x0 4294967295) fun x15 =>
  forceI (shrV .u64 x0 32) fun x17 =>
  forceI (bitV .and .u64 x1 4294967295) fun x19 =>
  forceI (shrV .u64 x1 32) fun x21 =>
  forceI (wr .u64 (x15 * x19)) fun x24 =>
  forceI (wr .u64 (x17 * x19)) fun x27 =>
  forceI (shrV .u64 x24 32) fun x29 =>
  forceI (wr .u64 (x27 + x29)) fun x30 =>
  forceI (bitV .and .u64 x30 4294967295) fun x32 =>
  forceI (shrV .u64 x30 32) fun x34 =>
  forceI (wr .u64 (x15 * x21)) fun x38 =>
  forceI (wr .u64 (x32 + x38)) fun x39 =>
  forceI (wr .u64 (x17 * x21)) fun x42 =>
  forceI (wr .u64 (x42 + x34)) fun x44 =>
  forceI (shrV .u64 x39 32) fun x46 =>
  forceI (wr .u64 (x44 + x46)) fun x47 =>
  forceI (wr .u64 (x0 * x1)) fun x50 =>
  finM m0.h.length (tupA [(.i .u64 x47), (.i .u64 x50)]) m0

theorem g86_ok {ro : List ABlk} {O : Caller} {M : Means} (hM : M.Ok ⟨F, O⟩ ro) {x0 x1 h r} (ho : O 86 [(.i .u64 x0), (.i .u64 x1)] h = none) (hr : g86 M ro x0 x1 ⟨h, h.length, h.length⟩ = some r) : callX ⟨F, O⟩ ro 86 [(.i .u64 x0), (.i .u64 x1)] h = some r := by
  refine callX_of (F := ⟨F, O⟩) (fn := fn86) (g := g86 M ro x0 x1) ho rfl rfl hr ?_
  clear ho
  clear hr
  intro m0 t0 ht hr
  have g0 : t0.get 0 = (.i .u64 x0) := ht 0
  have g1 : t0.get 1 = (.i .u64 x1) := ht 1
  clear ht
  unfold g86 at hr
  refine w_seq ?_
  refine w_ops ?_
  refine wo_step (v := (.i .u64 0)) (s_pure (p_mv rfl)) ?_
  refine wo_step (v := (.i .u64 0)) (s_pure (p_mv rfl)) ?_
  refine wo_nil ?_
  refine nx_norm ?_
  refine w_seq ?_
  refine w_ops ?_
  refine wo_step (v := (.i .u64 x0)) (s_pure (p_mv g0)) ?_
  have hq := forceI_inv hr
  clear hr
  obtain ⟨x15, e15, hr⟩ := hq
  refine wo_step (v := (.i .u64 x15)) (s_pure (p_bin rfl rfl (b_and.trans (ci e15)))) ?_
  refine wo_step (v := (.i .u64 x15)) (s_pure (p_mv rfl)) ?_
  refine wo_nil ?_
  refine nx_norm ?_
  refine w_seq ?_
  refine w_ops ?_
  refine wo_step (v := (.i .u64 x0)) (s_pure (p_mv g0)) ?_
  have hq := forceI_inv hr
  clear hr
  obtain ⟨x17, e17, hr⟩ := hq
  refine wo_step (v := (.i .u64 x17)) (s_pure (p_bin rfl rfl ((b_shr rfl).trans (ci e17)))) ?_
  refine wo_step (v := (.i .u64 x17)) (s_pure (p_mv rfl)) ?_
  refine wo_nil ?_
  refine nx_norm ?_
  refine w_seq ?_
  refine w_ops ?_
  refine wo_step (v := (.i .u64 x1)) (s_pure (p_mv g1)) ?_
  have hq := forceI_inv hr
  clear hr
  obtain ⟨x19, e19, hr⟩ := hq
  refine wo_step (v := (.i .u64 x19)) (s_pure (p_bin rfl rfl (b_and.trans (ci e19)))) ?_
  refine wo_step (v := (.i .u64 x19)) (s_pure (p_mv rfl)) ?_
  refine wo_nil ?_
  refine nx_norm ?_
  refine w_seq ?_
  refine w_ops ?_
  refine wo_step (v := (.i .u64 x1)) (s_pure (p_mv g1)) ?_
  have hq := forceI_inv hr
  clear hr
  obtain ⟨x21, e21, hr⟩ := hq
  refine wo_step (v := (.i .u64 x21)) (s_pure (p_bin rfl rfl ((b_shr rfl).trans (ci e21)))) ?_
  refine wo_step (v := (.i .u64 x21)) (s_pure (p_mv rfl)) ?_
  refine wo_nil ?_
  refine nx_norm ?_
  refine w_seq ?_
  refine w_ops ?_
  refine wo_step (v := (.i .u64 x15)) (s_pure (p_mv rfl)) ?_
  refine wo_step (v := (.i .u64 x19)) (s_pure (p_mv rfl)) ?_
  have hq := forceI_inv hr
  clear hr
  obtain ⟨x24, e24, hr⟩ := hq
  refine wo_step (v := (.i .u64 x24)) (s_pure (p_bin rfl rfl (b_mul.trans (ci e24)))) ?_
  refine wo_step (v := (.i .u64 x24)) (s_pure (p_mv rfl)) ?_
  refine wo_nil ?_
  refine nx_norm ?_
  refine w_seq ?_
  refine w_ops ?_
  refine wo_step (v := (.i .u64 x17)) (s_pure (p_mv rfl)) ?_
  refine wo_step (v := (.i .u64 x19)) (s_pure (p_mv rfl)) ?_
  have hq := forceI_inv hr
  clear hr
  obtain ⟨x27, e27, hr⟩ := hq
  refine wo_step (v := (.i .u64 x27)) (s_pure (p_bin rfl rfl (b_mul.trans (ci e27)))) ?_
  refine wo_step (v := (.i .u64 x24)) (s_pure (p_mv rfl)) ?_
  have hq := forceI_inv hr
  clear hr
  obtain ⟨x29, e29, hr⟩ := hq
  refine wo_step (v := (.i .u64 x29)) (s_pure (p_bin rfl rfl ((b_shr rfl).trans (ci e29)))) ?_
  have hq := forceI_inv hr
  clear hr
  obtain ⟨x30, e30, hr⟩ := hq
  refine wo_step (v := (.i .u64 x30)) (s_pure (p_bin rfl rfl (b_add.trans (ci e30)))) ?_
  refine wo_step (v := (.i .u64 x30)) (s_pure (p_mv rfl)) ?_
  refine wo_nil ?_
  refine nx_norm ?_
  refine w_seq ?_
  refine w_ops ?_
  refine wo_step (v := (.i .u64 x30)) (s_pure (p_mv rfl)) ?_
  have hq := forceI_inv hr
  clear hr
  obtain ⟨x32, e32, hr⟩ := hq
  refine wo_step (v := (.i .u64 x32)) (s_pure (p_bin rfl rfl (b_and.trans (ci e32)))) ?_
  refine wo_step (v := (.i .u64 x32)) (s_pure (p_mv rfl)) ?_
  refine wo_nil ?_
  refine nx_norm ?_
  refine w_seq ?_
  refine w_ops ?_
  refine wo_step (v := (.i .u64 x30)) (s_pure (p_mv rfl)) ?_
  have hq := forceI_inv hr
  clear hr
  obtain ⟨x34, e34, hr⟩ := hq
  refine wo_step (v := (.i .u64 x34)) (s_pure (p_bin rfl rfl ((b_shr rfl).trans (ci e34)))) ?_
  refine wo_step (v := (.i .u64 x34)) (s_pure (p_mv rfl)) ?_
  refine wo_nil ?_
  refine nx_norm ?_
  refine w_seq ?_
  refine w_ops ?_
  refine wo_step (v := (.i .u64 x32)) (s_pure (p_mv rfl)) ?_
  refine wo_step (v := (.i .u64 x15)) (s_pure (p_mv rfl)) ?_
  refine wo_step (v := (.i .u64 x21)) (s_pure (p_mv rfl)) ?_
  have hq := forceI_inv hr
  clear hr
  obtain ⟨x38, e38, hr⟩ := hq
  refine wo_step (v := (.i .u64 x38)) (s_pure (p_bin rfl rfl (b_mul.trans (ci e38)))) ?_
  have hq := forceI_inv hr
  clear hr
  obtain ⟨x39, e39, hr⟩ := hq
  refine wo_step (v := (.i .u64 x39)) (s_pure (p_bin rfl rfl (b_add.trans (ci e39)))) ?_
  refine wo_step (v := (.i .u64 x39)) (s_pure (p_mv rfl)) ?_
  refine wo_nil ?_
  refine nx_norm ?_
  refine w_seq ?_
  refine w_ops ?_
  refine wo_step (v := (.i .u64 x17)) (s_pure (p_mv rfl)) ?_
  refine wo_step (v := (.i .u64 x21)) (s_pure (p_mv rfl)) ?_
  have hq := forceI_inv hr
  clear hr
  obtain ⟨x42, e42, hr⟩ := hq
  refine wo_step (v := (.i .u64 x42)) (s_pure (p_bin rfl rfl (b_mul.trans (ci e42)))) ?_
  refine wo_step (v := (.i .u64 x34)) (s_pure (p_mv rfl)) ?_
  have hq := forceI_inv hr
  clear hr
  obtain ⟨x44, e44, hr⟩ := hq
  refine wo_step (v := (.i .u64 x44)) (s_pure (p_bin rfl rfl (b_add.trans (ci e44)))) ?_
  refine wo_step (v := (.i .u64 x39)) (s_pure (p_mv rfl)) ?_
  have hq := forceI_inv hr
  clear hr
  obtain ⟨x46, e46, hr⟩ := hq
  refine wo_step (v := (.i .u64 x46)) (s_pure (p_bin rfl rfl ((b_shr rfl).trans (ci e46)))) ?_
  have hq := forceI_inv hr
  clear hr
  obtain ⟨x47, e47, hr⟩ := hq
  refine wo_step (v := (.i .u64 x47)) (s_pure (p_bin rfl rfl (b_add.trans (ci e47)))) ?_
  refine wo_step (v := (.i .u64 x47)) (s_pure (p_mv rfl)) ?_
  refine wo_nil ?_
  refine nx_norm ?_
  refine w_seq ?_
  refine w_ops ?_
  refine wo_step (v := (.i .u64 x0)) (s_pure (p_mv g0)) ?_
  refine wo_step (v := (.i .u64 x1)) (s_pure (p_mv g1)) ?_
  have hq := forceI_inv hr
  clear hr
  obtain ⟨x50, e50, hr⟩ := hq
  refine wo_step (v := (.i .u64 x50)) (s_pure (p_bin rfl rfl (b_mul.trans (ci e50)))) ?_
  refine wo_step (v := (.i .u64 x50)) (s_pure (p_mv rfl)) ?_
  refine wo_nil ?_
  refine nx_norm ?_
  refine w_ret ?_
  exact qf ret_ok (rt rfl (rt rfl rn)) hr

end Go.Proofs.Ytobmcofkcfifkaa.T

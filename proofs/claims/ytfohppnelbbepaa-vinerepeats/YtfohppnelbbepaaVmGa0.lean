/- Plain functions, and that the small machine answers as they do. -/
import Derived.Test.YtfohppnelbbepaaVmP
import Derived.Test.YtfohppnelbbepaaVmAE
open Go.Vm
set_option linter.unusedVariables false
namespace Go.Proofs.Ytfohppnelbbepaa.T
open Go
/- dibber/dibberlaw03.VineRepeats -/
abbrev g11_J0 (v0 : AVal) (s1 : List UInt8) (v2 : AVal) (s3 : List UInt8) (o : Bool × Mm) (m1 : Mm) (t1 : Tr) : Prop :=
  match o with
  | (c32, m_2) => m_2 = m1 ∧ t1.get 32 = (.b c32) ∧ t1.get 0 = v0 ∧ t1.get 1 = (.s s1) ∧ t1.get 2 = v2 ∧ t1.get 3 = (.s s3)
abbrev g11_J1 (m_6 : Mm) (o : Bool) (m1 : Mm) (t1 : Tr) : Prop :=
  match o with
  | c51 => m_6 = m1 ∧ t1.get 51 = (.b c51)
abbrev g11_J2  (o : Bool × Mm) (m1 : Mm) (t1 : Tr) : Prop :=
  match o with
  | (c54, m_7) => m_7 = m1 ∧ t1.get 54 = (.b c54)
abbrev g11_I3 (v0 : AVal) (s1 : List UInt8) (v2 : AVal) (s3 : List UInt8) (v38 : AVal) (s : AVal × Int × Mm) (m1 : Mm) (t1 : Tr) : Prop :=
  match s with
  | (v11, x12, m_9) => m_9 = m1 ∧ t1.get 11 = v11 ∧ t1.get 12 = (.i .i64 x12) ∧ t1.get 0 = v0 ∧ t1.get 1 = (.s s1) ∧ t1.get 2 = v2 ∧ t1.get 3 = (.s s3) ∧ t1.get 9 = v38
abbrev g11_J3 (v0 : AVal) (s1 : List UInt8) (v2 : AVal) (s3 : List UInt8) (v38 : AVal) (o : (Mm ⊕ (Bool × Mm))) (e : AExit) (m1 : Mm) (t1 : Tr) : Prop :=
  match o with
  | (.inl mo) => e = (.exit 0) ∧ mo = m1 ∧ t1.get 0 = v0 ∧ t1.get 1 = (.s s1) ∧ t1.get 2 = v2 ∧ t1.get 3 = (.s s3)
  | (.inr (y8, mo)) => e = .ret ∧ mo = m1 ∧ t1.get 8 = (.b y8)
abbrev g11_J4 (v0 : AVal) (s1 : List UInt8) (v2 : AVal) (s3 : List UInt8) (v38 : AVal) (x12 : Int) (o : ((AVal × Mm) ⊕ (Mm ⊕ (Bool × Mm)))) (e : AExit) (m1 : Mm) (t1 : Tr) : Prop :=
  match o with
  | (.inl (y11, mo)) => e = .norm ∧ mo = m1 ∧ t1.get 11 = y11 ∧ t1.get 0 = v0 ∧ t1.get 1 = (.s s1) ∧ t1.get 2 = v2 ∧ t1.get 3 = (.s s3) ∧ t1.get 9 = v38 ∧ t1.get 12 = (.i .i64 x12)
  | (.inr (.inl mo)) => e = (.exit 0) ∧ mo = m1 ∧ t1.get 0 = v0 ∧ t1.get 1 = (.s s1) ∧ t1.get 2 = v2 ∧ t1.get 3 = (.s s3)
  | (.inr (.inr (y8, mo))) => e = .ret ∧ mo = m1 ∧ t1.get 8 = (.b y8)
abbrev g11_I5 (v0 : AVal) (s1 : List UInt8) (v2 : AVal) (s3 : List UInt8) (v38 : AVal) (v79 : AVal) (x12 : Int) (x72 : Int) (m_12 : Mm) (s : Int × Int) (m1 : Mm) (t1 : Tr) : Prop :=
  match s with
  | (x15, x16) => m_12 = m1 ∧ t1.get 15 = (.i .i64 x15) ∧ t1.get 16 = (.i .i64 x16) ∧ t1.get 0 = v0 ∧ t1.get 1 = (.s s1) ∧ t1.get 2 = v2 ∧ t1.get 3 = (.s s3) ∧ t1.get 9 = v38 ∧ t1.get 11 = v79 ∧ t1.get 12 = (.i .i64 x12) ∧ t1.get 13 = (.i .i64 x72)
abbrev g11_J5 (v0 : AVal) (s1 : List UInt8) (v2 : AVal) (s3 : List UInt8) (v38 : AVal) (v79 : AVal) (x12 : Int) (x72 : Int) (m_12 : Mm) (o : Int) (e : AExit) (m1 : Mm) (t1 : Tr) : Prop :=
  match o with
  | y15 => e = (.exit 2) ∧ m_12 = m1 ∧ t1.get 15 = (.i .i64 y15) ∧ t1.get 0 = v0 ∧ t1.get 1 = (.s s1) ∧ t1.get 2 = v2 ∧ t1.get 3 = (.s s3) ∧ t1.get 9 = v38 ∧ t1.get 11 = v79 ∧ t1.get 12 = (.i .i64 x12) ∧ t1.get 13 = (.i .i64 x72)
def g11_b5 (M : Means) (ro : List ABlk) (v0 : AVal) (s1 : List UInt8) (v2 : AVal) (s3 : List UInt8) (v38 : AVal) (v79 : AVal) (x12 : Int) (x72 : Int) (m_12 : Mm) (x15 : Int) (x16 : Int) : Option ((Int × Int) ⊕ (Int)) :=
  bindO (evP .e (.len false (.c v38))) fun v88 =>
  asI .i64 v88 fun x88 =>
  forceB (ltI x16 x88) fun c89 =>
  cond c89 (
    bindO (evP .e (.ixS 1 (.c v38) (.c (.i .i64 x16)))) fun v95 =>
    bindO (ldA ro m_12.h true 1 v95) fun v96 =>
    asI .i64 v96 fun x96 =>
    forceI (wr .i64 (x12 - 1)) fun x99 =>
    forceI (wr .i64 (x99 - x16)) fun x101 =>
    bindO (evP .e (.ixS 1 (.c v79) (.c (.i .i64 x101)))) fun v102 =>
    bindO (ldA ro m_12.h true 1 v102) fun v103 =>
    asI .i64 v103 fun x103 =>
    forceI (wr .i64 (x96 * x103)) fun x104 =>
    forceI (wr .i64 (x15 + x104)) fun x105 =>
    forceI (wr .i64 (x16 + 1)) fun x91 =>
    some (.inl (x105, x91))) (
    some (.inr x15))
def g11_b3 (M : Means) (ro : List ABlk) (v0 : AVal) (s1 : List UInt8) (v2 : AVal) (s3 : List UInt8) (v38 : AVal) (v11 : AVal) (x12 : Int) (m_9 : Mm) : Option ((AVal × Int × Mm) ⊕ ((Mm ⊕ (Bool × Mm)))) :=
  bindO (evP .e (.len false (.c v0))) fun v62 =>
  asI .i64 v62 fun x62 =>
  forceI (wr .i64 (3 * x62)) fun x63 =>
  forceB (ltI x12 x63) fun c64 =>
  cond c64 (
    bindO (α := ((AVal × Mm) ⊕ (Mm ⊕ (Bool × Mm)))) (
      bindP (callM M.call m_9 19 [v0, (.s s1), (.i .i64 x12)]) fun v71 m_10 =>
      bindO (evP .e (.ext 0 (.c v71))) fun v72 =>
      asI .i64 v72 fun x72 =>
      bindO (evP .e (.ext 1 (.c v71))) fun v73 =>
      asI .i64 v73 fun x73 =>
      forceB (!eqI x73 0) fun c75 =>
      cond c75 (
        some (.inr (.inl m_10))) (
        bindP (stepM ro m_10 (.bsl 3 1 [(AVal.i IntKind.i64 0)] 1 [((0, 1), .c (.i .i64 x72))])) fun v78 m_11 =>
        bindP (stepM ro m_11 (.app 3 1 8 [(AVal.i IntKind.i64 0)] (.c v11) (.c v78))) fun v79 m_12 =>
        forceB (ltI 1099511627776 x72) fun c81 =>
        cond c81 (
          some (.inr (.inl m_12))) (
          bindO (evP .e (.len false (.c v0))) fun v84 =>
          asI .i64 v84 fun x84 =>
          forceB (ltI x12 x84) fun c85 =>
          cond c85 (
            some (.inl (v79, m_12))) (
            bindO (M.loop (S := Int × Int) (R := Int) (fun s => g11_b5 M ro v0 s1 v2 s3 v38 v79 x12 x72 m_12 s.1 s.2) (0, 0)) fun x15_1 =>
            forceB (!eqI x15_1 x72) fun c108 =>
            cond c108 (
              some (.inr (.inr (false, m_12)))) (
              some (.inl (v79, m_12))))))) fun o_3 => match o_3 with
    | (.inl (v11_1, m_13)) =>
      forceI (wr .i64 (x12 + 1)) fun x66 =>
      some (.inl (v11_1, x66, m_13))
    | (.inr (.inl m_14)) =>
      some (.inr (.inl m_14))
    | (.inr (.inr (c8, m_15))) =>
      some (.inr (.inr (c8, m_15)))) (
    some (.inr (.inl m_9)))
abbrev g11_J6 (m_19 : Mm) (o : Bool) (m1 : Mm) (t1 : Tr) : Prop :=
  match o with
  | c129 => m_19 = m1 ∧ t1.get 129 = (.b c129)
abbrev g11_J7  (o : Bool × Mm) (m1 : Mm) (t1 : Tr) : Prop :=
  match o with
  | (c132, m_20) => m_20 = m1 ∧ t1.get 132 = (.b c132)
abbrev g11_I8 (v0 : AVal) (s1 : List UInt8) (v2 : AVal) (s3 : List UInt8) (x116 : Int) (x115 : Int) (s : Int × Mm) (m1 : Mm) (t1 : Tr) : Prop :=
  match s with
  | (x18, m_22) => m_22 = m1 ∧ t1.get 18 = (.i .i64 x18) ∧ t1.get 0 = v0 ∧ t1.get 1 = (.s s1) ∧ t1.get 2 = v2 ∧ t1.get 3 = (.s s3) ∧ t1.get 10 = (.i .i64 x116) ∧ t1.get 17 = (.i .i64 x115)
abbrev g11_J8 (v0 : AVal) (s1 : List UInt8) (v2 : AVal) (s3 : List UInt8) (x116 : Int) (x115 : Int) (o : (Mm ⊕ (Bool × Mm))) (e : AExit) (m1 : Mm) (t1 : Tr) : Prop :=
  match o with
  | (.inl mo) => e = (.exit 4) ∧ mo = m1 ∧ t1.get 10 = (.i .i64 x116) ∧ t1.get 17 = (.i .i64 x115)
  | (.inr (y8, mo)) => e = .ret ∧ mo = m1 ∧ t1.get 8 = (.b y8)
abbrev g11_J9 (v0 : AVal) (s1 : List UInt8) (v2 : AVal) (s3 : List UInt8) (x116 : Int) (x115 : Int) (x18 : Int) (x142 : Int) (x143 : Int) (x149 : Int) (x150 : Int) (m_24 : Mm) (o : Bool) (m1 : Mm) (t1 : Tr) : Prop :=
  match o with
  | c156 => m_24 = m1 ∧ t1.get 156 = (.b c156) ∧ t1.get 0 = v0 ∧ t1.get 1 = (.s s1) ∧ t1.get 2 = v2 ∧ t1.get 3 = (.s s3) ∧ t1.get 10 = (.i .i64 x116) ∧ t1.get 17 = (.i .i64 x115) ∧ t1.get 18 = (.i .i64 x18) ∧ t1.get 19 = (.i .i64 x142) ∧ t1.get 20 = (.i .i64 x143) ∧ t1.get 21 = (.i .i64 x149) ∧ t1.get 22 = (.i .i64 x150)
abbrev g11_J10 (m_24 : Mm) (o : Bool) (m1 : Mm) (t1 : Tr) : Prop :=
  match o with
  | c163 => m_24 = m1 ∧ t1.get 163 = (.b c163)
abbrev g11_J11  (o : Bool × Mm) (m1 : Mm) (t1 : Tr) : Prop :=
  match o with
  | (c166, m_25) => m_25 = m1 ∧ t1.get 166 = (.b c166)
abbrev g11_J12 (v0 : AVal) (v2 : AVal) (x18 : Int) (m_24 : Mm) (o : Bool) (m1 : Mm) (t1 : Tr) : Prop :=
  match o with
  | c176 => m_24 = m1 ∧ t1.get 176 = (.b c176) ∧ t1.get 0 = v0 ∧ t1.get 2 = v2 ∧ t1.get 18 = (.i .i64 x18)
abbrev g11_J13 (m_24 : Mm) (o : Bool) (m1 : Mm) (t1 : Tr) : Prop :=
  match o with
  | c185 => m_24 = m1 ∧ t1.get 185 = (.b c185)
abbrev g11_J14  (o : Bool × Mm) (m1 : Mm) (t1 : Tr) : Prop :=
  match o with
  | (c188, m_27) => m_27 = m1 ∧ t1.get 188 = (.b c188)
def g11_b8 (M : Means) (ro : List ABlk) (v0 : AVal) (s1 : List UInt8) (v2 : AVal) (s3 : List UInt8) (x116 : Int) (x115 : Int) (x18 : Int) (m_22 : Mm) : Option ((Int × Mm) ⊕ ((Mm ⊕ (Bool × Mm)))) :=
  forceB (ltI x18 30) fun c134 =>
  cond c134 (
    bindP (callM M.call m_22 19 [v0, (.s s1), (.i .i64 x18)]) fun v141 m_23 =>
    bindO (evP .e (.ext 0 (.c v141))) fun v142 =>
    asI .i64 v142 fun x142 =>
    bindO (evP .e (.ext 1 (.c v141))) fun v143 =>
    asI .i64 v143 fun x143 =>
    bindP (callM M.call m_23 19 [v2, (.s s3), (.i .i64 x18)]) fun v148 m_24 =>
    bindO (evP .e (.ext 0 (.c v148))) fun v149 =>
    asI .i64 v149 fun x149 =>
    bindO (evP .e (.ext 1 (.c v148))) fun v150 =>
    asI .i64 v150 fun x150 =>
    forceB (!eqI x143 0) fun c152 =>
    bindO (cond c152 (
      some true) (
      forceB (!eqI x150 0) fun c155 =>
      some c155)) fun c156 =>
    cond c156 (
      forceB (eqI x116 0) fun c158 =>
      bindO (cond c158 (
        some true) (
        forceB (eqI x143 x150) fun c162 =>
        some c162)) fun c163 =>
      bindO (cond c163 (
        bindP (callM M.call m_24 16 []) fun v165 m_26 =>
        asB v165 fun c165 =>
        some (c165, m_26)) (
        some (false, m_24))) fun ⟨c166, m_25⟩ =>
      some (.inr (.inr (c166, m_25)))) (
      forceB (!eqI x142 x149) fun c169 =>
      cond c169 (
        forceB (eqI x116 0) fun c171 =>
        bindO (cond c171 (
          forceB (eqI x115 x18) fun c175 =>
          some c175) (
          some false)) fun c176 =>
        bindO (cond c176 (
          bindO (evP .e (.len false (.c v0))) fun v180 =>
          asI .i64 v180 fun x180 =>
          bindO (evP .e (.len false (.c v2))) fun v182 =>
          asI .i64 v182 fun x182 =>
          forceI (wr .i64 (x180 + x182)) fun x183 =>
          forceB (ltI x18 x183) fun c184 =>
          some c184) (
          some false)) fun c185 =>
        bindO (cond c185 (
          bindP (callM M.call m_24 16 []) fun v187 m_28 =>
          asB v187 fun c187 =>
          some (c187, m_28)) (
          some (false, m_24))) fun ⟨c188, m_27⟩ =>
        some (.inr (.inr (c188, m_27)))) (
        forceI (wr .i64 (x18 + 1)) fun x136 =>
        some (.inl (x136, m_24))))) (
    some (.inr (.inl m_22)))
abbrev g11_J15 (m_29 : Mm) (o : Bool) (m1 : Mm) (t1 : Tr) : Prop :=
  match o with
  | c194 => m_29 = m1 ∧ t1.get 194 = (.b c194)
abbrev g11_J16  (o : Bool × Mm) (m1 : Mm) (t1 : Tr) : Prop :=
  match o with
  | (c197, m_30) => m_30 = m1 ∧ t1.get 197 = (.b c197)
def g11 (M : Means) (ro : List ABlk) (v0 : AVal) (s1 : List UInt8) (v2 : AVal) (s3 : List UInt8) (m0 : Mm) : Option (AVal × Heap × Nat × Nat) :=
  bindP (callM M.call m0 15 [v0, (.s s1)]) fun v25 m_1 =>
  asB v25 fun c25 =>
  forceB (!c25) fun c26 =>
  bindO (cond c26 (
    some (true, m_1)) (
    bindP (callM M.call m_1 15 [v2, (.s s3)]) fun v30 m_3 =>
    asB v30 fun c30 =>
    forceB (!c30) fun c31 =>
    some (c31, m_3))) fun ⟨c32, m_2⟩ =>
  cond c32 (
    bindP (callM M.call m_2 16 []) fun v33 m_4 =>
    asB v33 fun c33 =>
    finM m0.h.length (tupA [(.b c33)]) m_4) (
    bindP (callM M.call m_2 40 [v0, (.s s1)]) fun v37 m_5 =>
    bindO (evP .e (.ext 0 (.c v37))) fun v38 =>
    bindO (evP .e (.ext 1 (.c v37))) fun v39 =>
    asI .i64 v39 fun x39 =>
    forceB (!eqI x39 0) fun c41 =>
    cond c41 (
      bindP (callM M.call m_5 42 [v0, (.s s1)]) fun v45 m_6 =>
      asI .i64 v45 fun x45 =>
      forceB (eqI x39 x45) fun c46 =>
      bindO (cond c46 (
        bindO (evP .e (.len false (.c v38))) fun v49 =>
        asI .i64 v49 fun x49 =>
        forceB (eqI x49 0) fun c50 =>
        some c50) (
        some false)) fun c51 =>
      bindO (cond c51 (
        bindP (callM M.call m_6 16 []) fun v53 m_8 =>
        asB v53 fun c53 =>
        some (c53, m_8)) (
        some (false, m_6))) fun ⟨c54, m_7⟩ =>
      finM m0.h.length (tupA [(.b c54)]) m_7) (
      bindO (evP .e (.len false (.c v38))) fun v56 =>
      asI .i64 v56 fun x56 =>
      bindO (evP .e (.len false (.c v0))) fun v58 =>
      asI .i64 v58 fun x58 =>
      forceB (!eqI x56 x58) fun c59 =>
      cond c59 (
        finM m0.h.length (tupA [(.b false)]) m_5) (
        bindO (M.loop (S := AVal × Int × Mm) (R := (Mm ⊕ (Bool × Mm))) (fun s => g11_b3 M ro v0 s1 v2 s3 v38 s.1 s.2.1 s.2.2) (AVal.nsl, 0, m_5)) fun o_5 => match o_5 with
        | (.inl m_16) =>
          bindP (callM M.call m_16 30 [v0, (.s s1), v2, (.s s3)]) fun v114 m_17 =>
          bindO (evP .e (.ext 0 (.c v114))) fun v115 =>
          asI .i64 v115 fun x115 =>
          bindO (evP .e (.ext 1 (.c v114))) fun v116 =>
          asI .i64 v116 fun x116 =>
          bindP (callM M.call m_17 42 [v2, (.s s3)]) fun v119 m_18 =>
          asI .i64 v119 fun x119 =>
          forceB (!eqI x119 0) fun c120 =>
          cond c120 (
            bindP (callM M.call m_18 42 [v2, (.s s3)]) fun v124 m_19 =>
            asI .i64 v124 fun x124 =>
            forceB (eqI x116 x124) fun c125 =>
            bindO (cond c125 (
              forceB (eqI x115 0) fun c128 =>
              some c128) (
              some false)) fun c129 =>
            bindO (cond c129 (
              bindP (callM M.call m_19 16 []) fun v131 m_21 =>
              asB v131 fun c131 =>
              some (c131, m_21)) (
              some (false, m_19))) fun ⟨c132, m_20⟩ =>
            finM m0.h.length (tupA [(.b c132)]) m_20) (
            bindO (M.loop (S := Int × Mm) (R := (Mm ⊕ (Bool × Mm))) (fun s => g11_b8 M ro v0 s1 v2 s3 x116 x115 s.1 s.2) (0, m_18)) fun o_14 => match o_14 with
            | (.inl m_29) =>
              forceB (eqI x116 10) fun c190 =>
              bindO (cond c190 (
                forceB (eqI x115 0) fun c193 =>
                some c193) (
                some false)) fun c194 =>
              bindO (cond c194 (
                bindP (callM M.call m_29 16 []) fun v196 m_31 =>
                asB v196 fun c196 =>
                some (c196, m_31)) (
                some (false, m_29))) fun ⟨c197, m_30⟩ =>
              finM m0.h.length (tupA [(.b c197)]) m_30
            | (.inr (c8_1, m_32)) =>
              finM m0.h.length (tupA [(.b c8_1)]) m_32)
        | (.inr (c8_2, m_33)) =>
          finM m0.h.length (tupA [(.b c8_2)]) m_33)))
theorem g11_ok {ro : List ABlk} {O : Caller} {M : Means} (hM : M.Ok ⟨F, O⟩ ro) {v0 s1 v2 s3 h r} (ho : O 11 [v0, (.s s1), v2, (.s s3)] h = none) (hr : g11 M ro v0 s1 v2 s3 ⟨h, h.length, h.length⟩ = some r) : callX ⟨F, O⟩ ro 11 [v0, (.s s1), v2, (.s s3)] h = some r := by
  refine callX_of (F := ⟨F, O⟩) (fn := fn11) (g := g11 M ro v0 s1 v2 s3) ho rfl rfl hr ?_
  clear ho
  clear hr
  intro m0 t0 ht hr
  have g0 : t0.get 0 = v0 := ht 0
  have g1 : t0.get 1 = (.s s1) := ht 1
  have g2 : t0.get 2 = v2 := ht 2
  have g3 : t0.get 3 = (.s s3) := ht 3
  clear ht
  unfold g11 at hr
  refine w_seq (w_ops (wo_step (v := (.b false)) (s_pure (p_mv rfl)) (wo_nil (nx_norm (w_seq (w_seq (w_ops (wo_step (s_pure (p_mv g0)) (wo_step (s_pure (p_mv g1)) ?_)))))))))
  obtain ⟨v25, m_1, e25, z1⟩ := bindP_inv hr
  obtain ⟨c25, rfl, z2⟩ := asB_inv z1
  refine wo_step (s_call (mc rfl (mc rfl mn)) (callM_le hM.call e25)) ?_
  obtain ⟨c26, e26, z3⟩ := forceB_inv z2
  refine wo_step (s_pure ((p_not rfl).trans (cb e26))) (wo_step (v := (.b c26)) (s_pure (p_mv rfl)) ?_)
  obtain ⟨o, z4, hk⟩ := bindO_inv z3
  refine wo_join 5 (g11_J0 v0 s1 v2 s3 o) ?_ ?_
  · clear hk
    rcases cond_inv z4 with ⟨rfl, z5⟩ | ⟨rfl, z5⟩
    · refine wo_skip (v := (.b true)) rfl rfl (wo_skip (v := (.b true)) rfl rfl (wo_skip (v := (.b true)) rfl rfl (wo_skip (v := (.b true)) rfl rfl (wo_step (v := (.b true)) (s_pure (p_pickT rfl rfl)) (wo_nil ?_)))))
      cases z5
      exact ⟨_, _, rfl, rfl, gl rfl, gl g0, gl g1, gl g2, gl g3⟩
    · refine wo_take (v := v2) rfl (s_pure (p_mv g2)) (wo_take (v := (.s s3)) rfl (s_pure (p_mv g3)) ?_)
      obtain ⟨v30, m_3, e30, z6⟩ := bindP_inv z5
      obtain ⟨c30, rfl, z7⟩ := asB_inv z6
      refine wo_take (v := (.b c30)) rfl (s_call (mc rfl (mc rfl mn)) (callM_le hM.call e30)) ?_
      obtain ⟨c31, e31, z8⟩ := forceB_inv z7
      refine wo_take (v := (.b c31)) rfl (s_pure ((p_not rfl).trans (cb e31))) (wo_step (v := (.b c31)) (s_pure (p_pickF rfl rfl)) (wo_nil ?_))
      cases z8
      exact ⟨_, _, rfl, rfl, gl rfl, gl g0, gl g1, gl g2, gl g3⟩
  · clear z4
    have hr := hk
    clear hk
    obtain ⟨c32, m_2⟩ := o
    rintro mm t_1 ⟨rfl, g32, g0, g1, g2, g3⟩
    refine wo_nil (nx_norm ?_)
    rcases cond_inv hr with ⟨rfl, z9⟩ | ⟨rfl, z9⟩
    · refine w_condT g32 ?_
      refine w_seq (w_ops ?_)
      obtain ⟨v33, m_4, e33, z10⟩ := bindP_inv z9
      obtain ⟨c33, rfl, z11⟩ := asB_inv z10
      refine wo_step (s_call mn (callM_le hM.call e33)) (wo_step (v := (.b c33)) (s_pure (p_mv rfl)) (wo_nil (nx_norm ?_)))
      refine w_ret ?_
      refine nx_ret ?_
      exact qf ret_ok (rt rfl rn) z11
    · refine w_condF g32 ?_
      refine w_skip (nx_norm (w_seq (w_ops (wo_step (s_pure (p_mv g0)) (wo_step (s_pure (p_mv g1)) ?_)))))
      obtain ⟨v37, m_5, e37, z12⟩ := bindP_inv z9
      refine wo_step (s_call (mc rfl (mc rfl mn)) (callM_le hM.call e37)) (wo_step (v := v37) (s_pure (p_mv rfl)) ?_)
      obtain ⟨v38, e38, z13⟩ := bindO_inv z12
      refine wo_step (s_pure (o_ext rfl e38)) ?_
      obtain ⟨v39, e39, z14⟩ := bindO_inv z13
      obtain ⟨x39, rfl, z15⟩ := asI_inv z14
      refine wo_step (s_pure (o_ext rfl e39)) (wo_step (v := v38) (s_pure (p_mv rfl)) (wo_step (v := (.i .i64 x39)) (s_pure (p_mv rfl)) (wo_nil (nx_norm (w_seq (w_seq (w_ops (wo_step (v := (.i .i64 x39)) (s_pure (p_mv rfl)) ?_))))))))
      obtain ⟨c41, e41, z16⟩ := forceB_inv z15
      refine wo_step (s_pure (p_bin rfl rfl (b_neq.trans (cb e41)))) (wo_nil (nx_norm ?_))
      rcases cond_inv z16 with ⟨rfl, z17⟩ | ⟨rfl, z17⟩
      · refine w_condT rfl ?_
        refine w_seq (w_ops (wo_step (v := (.i .i64 x39)) (s_pure (p_mv rfl)) (wo_step (s_pure (p_mv g0)) (wo_step (s_pure (p_mv g1)) ?_))))
        obtain ⟨v45, m_6, e45, z18⟩ := bindP_inv z17
        obtain ⟨x45, rfl, z19⟩ := asI_inv z18
        refine wo_step (s_call (mc rfl (mc rfl mn)) (callM_le hM.call e45)) ?_
        obtain ⟨c46, e46, z20⟩ := forceB_inv z19
        refine wo_step (s_pure (p_bin rfl rfl (b_eql.trans (cb e46)))) (wo_step (v := (.b c46)) (s_pure (p_mv rfl)) ?_)
        obtain ⟨o_1, z21, hk⟩ := bindO_inv z20
        refine wo_join 4 (g11_J1 m_6 o_1) ?_ ?_
        · clear hk
          rcases cond_inv z21 with ⟨rfl, z22⟩ | ⟨rfl, z22⟩
          · refine wo_take (v := v38) rfl (s_pure (p_mv rfl)) ?_
            obtain ⟨v49, e49, z23⟩ := bindO_inv z22
            obtain ⟨x49, rfl, z24⟩ := asI_inv z23
            refine wo_take (v := (.i .i64 x49)) rfl (s_pure (o_len rfl e49)) ?_
            obtain ⟨c50, e50, z25⟩ := forceB_inv z24
            refine wo_take (v := (.b c50)) rfl (s_pure (p_bin rfl rfl (b_eql.trans (cb e50)))) (wo_step (v := (.b c50)) (s_pure (p_pickT rfl rfl)) (wo_nil ?_))
            cases z25
            exact ⟨_, _, rfl, rfl, gl rfl⟩
          · refine wo_skip (v := (.b false)) rfl rfl (wo_skip (v := (.b false)) rfl rfl (wo_skip (v := (.b false)) rfl rfl (wo_step (v := (.b false)) (s_pure (p_pickF rfl rfl)) (wo_nil ?_))))
            cases z22
            exact ⟨_, _, rfl, rfl, gl rfl⟩
        · clear z21
          have hr := hk
          clear hk
          obtain ⟨c51, ho⟩ : ∃ z, z = o_1 := ⟨_, rfl⟩
          subst ho
          rintro mm_1 t_2 ⟨rfl, g51⟩
          refine wo_step (s_pure (p_mv g51)) ?_
          obtain ⟨o_2, z26, hk⟩ := bindO_inv hr
          refine wo_join 2 (g11_J2  o_2) ?_ ?_
          · clear hk
            rcases cond_inv z26 with ⟨rfl, z27⟩ | ⟨rfl, z27⟩
            · obtain ⟨v53, m_8, e53, z28⟩ := bindP_inv z27
              obtain ⟨c53, rfl, z29⟩ := asB_inv z28
              refine wo_take (v := (.b c53)) rfl (s_call mn (callM_le hM.call e53)) (wo_step (v := (.b c53)) (s_pure (p_pickT rfl rfl)) (wo_nil ?_))
              cases z29
              exact ⟨_, _, rfl, rfl, gl rfl⟩
            · refine wo_skip (v := (.b false)) rfl rfl (wo_step (v := (.b false)) (s_pure (p_pickF rfl rfl)) (wo_nil ?_))
              cases z27
              exact ⟨_, _, rfl, rfl, gl rfl⟩
          · clear z26
            have hr := hk
            clear hk
            obtain ⟨c54, m_7⟩ := o_2
            rintro mm_2 t_3 ⟨rfl, g54⟩
            refine wo_step (s_pure (p_mv g54)) (wo_nil (nx_norm ?_))
            refine w_ret ?_
            refine nx_ret ?_
            exact qf ret_ok (rt rfl rn) hr
      · refine w_condF rfl ?_
        refine w_skip (nx_norm (w_seq (w_seq (w_ops (wo_step (v := v38) (s_pure (p_mv rfl)) ?_)))))
        obtain ⟨v56, e56, z30⟩ := bindO_inv z17
        obtain ⟨x56, rfl, z31⟩ := asI_inv z30
        refine wo_step (s_pure (o_len rfl e56)) (wo_step (s_pure (p_mv g0)) ?_)
        obtain ⟨v58, e58, z32⟩ := bindO_inv z31
        obtain ⟨x58, rfl, z33⟩ := asI_inv z32
        refine wo_step (s_pure (o_len rfl e58)) ?_
        obtain ⟨c59, e59, z34⟩ := forceB_inv z33
        refine wo_step (s_pure (p_bin rfl rfl (b_neq.trans (cb e59)))) (wo_nil (nx_norm ?_))
        rcases cond_inv z34 with ⟨rfl, z35⟩ | ⟨rfl, z35⟩
        · refine w_condT rfl ?_
          refine w_seq (w_ops (wo_step (v := (.b false)) (s_pure (p_mv rfl)) (wo_nil (nx_norm ?_))))
          refine w_ret ?_
          refine nx_ret ?_
          exact qf ret_ok (rt rfl rn) z35
        · refine w_condF rfl ?_
          refine w_skip (nx_norm (w_seq (w_ops (wo_step (v := AVal.nsl) (s_pure (p_mv rfl)) (wo_nil (nx_norm (w_seq (w_seq (w_ops (wo_step (v := (.i .i64 0)) (s_pure (p_mv rfl)) (wo_nil ?_)))))))))))
          refine nx_norm ?_
          refine w_block ?_
          obtain ⟨o_5, hl_2, z36⟩ := bindO_inv z35
          obtain ⟨n_2, hl_2⟩ := hM.loop _ _ _ hl_2
          refine jp_mono (w_loop _ (g11_I3 v0 s1 v2 s3 v38) (g11_J3 v0 s1 v2 s3 v38) ?_ n_2 _ _ _ _ hl_2 ⟨rfl, gl rfl, gl rfl, gl g0, gl g1, gl g2, gl g3, gl rfl⟩) ?_
          · clear z36 hl_2
            intro s mm_23 t_4 o hi hr
            obtain ⟨v11, x12, m_9⟩ := s
            obtain ⟨rfl, g11, g12, g0, g1, g2, g3, g9⟩ := hi
            unfold g11_b3 at hr
            refine w_seq (w_seq (w_ops (wo_step (s_pure (p_mv g12)) (wo_step (s_pure (p_mv g0)) ?_))))
            obtain ⟨v62, e62, z37⟩ := bindO_inv hr
            obtain ⟨x62, rfl, z38⟩ := asI_inv z37
            refine wo_step (s_pure (o_len rfl e62)) ?_
            obtain ⟨x63, e63, z39⟩ := forceI_inv z38
            refine wo_step (s_pure (p_bin rfl rfl (b_mul.trans (ci e63)))) ?_
            obtain ⟨c64, e64, z40⟩ := forceB_inv z39
            refine wo_step (s_pure (p_bin rfl rfl (b_lss.trans (cb e64)))) (wo_nil (nx_norm ?_))
            rcases cond_inv z40 with ⟨rfl, z41⟩ | ⟨rfl, z41⟩
            · refine w_condT rfl ?_
              refine w_skip (nx_norm (w_seq ?_))
              obtain ⟨o_3, z42, hk⟩ := bindO_inv z41
              refine jp_mono (J := g11_J4 v0 s1 v2 s3 v38 x12 o_3) ?_ ?_
              · clear hk
                refine w_block ?_
                refine w_seq (w_ops (wo_step (s_pure (p_mv g0)) (wo_step (s_pure (p_mv g1)) (wo_step (s_pure (p_mv g12)) ?_))))
                obtain ⟨v71, m_10, e71, z43⟩ := bindP_inv z42
                refine wo_step (s_call (mc rfl (mc rfl (mc rfl mn))) (callM_le hM.call e71)) (wo_step (v := v71) (s_pure (p_mv rfl)) ?_)
                obtain ⟨v72, e72, z44⟩ := bindO_inv z43
                obtain ⟨x72, rfl, z45⟩ := asI_inv z44
                refine wo_step (s_pure (o_ext rfl e72)) ?_
                obtain ⟨v73, e73, z46⟩ := bindO_inv z45
                obtain ⟨x73, rfl, z47⟩ := asI_inv z46
                refine wo_step (s_pure (o_ext rfl e73)) (wo_step (v := (.i .i64 x72)) (s_pure (p_mv rfl)) (wo_step (v := (.i .i64 x73)) (s_pure (p_mv rfl)) (wo_nil (nx_norm (w_seq (w_seq (w_ops (wo_step (v := (.i .i64 x73)) (s_pure (p_mv rfl)) ?_))))))))
                obtain ⟨c75, e75, z48⟩ := forceB_inv z47
                refine wo_step (s_pure (p_bin rfl rfl (b_neq.trans (cb e75)))) (wo_nil (nx_norm ?_))
                rcases cond_inv z48 with ⟨rfl, z49⟩ | ⟨rfl, z49⟩
                · refine w_condT rfl ?_
                  refine w_exit ?_
                  refine nx_exit ?_
                  refine bk_miss (by decide) ?_
                  cases z49
                  exact ⟨_, _, rfl, rfl, rfl, gl g0, gl g1, gl g2, gl g3⟩
                · refine w_condF rfl ?_
                  refine w_skip (nx_norm (w_seq (w_ops (wo_step (s_pure (p_mv g11)) (wo_step (v := (.i .i64 x72)) (s_pure (p_mv rfl)) ?_)))))
                  obtain ⟨v78, m_11, e78, z50⟩ := bindP_inv z49
                  refine wo_step (s_bsl (qc rfl qn) e78) ?_
                  obtain ⟨v79, m_12, e79, z51⟩ := bindP_inv z50
                  refine wo_step (s_app rfl rfl e79) (wo_step (v := v79) (s_pure (p_mv rfl)) (wo_nil (nx_norm (w_seq (w_seq (w_ops (wo_step (v := (.i .i64 x72)) (s_pure (p_mv rfl)) ?_)))))))
                  obtain ⟨c81, e81, z52⟩ := forceB_inv z51
                  refine wo_step (s_pure (p_bin rfl rfl (b_gtr.trans (cb e81)))) (wo_nil (nx_norm ?_))
                  rcases cond_inv z52 with ⟨rfl, z53⟩ | ⟨rfl, z53⟩
                  · refine w_condT rfl ?_
                    refine w_exit ?_
                    refine nx_exit ?_
                    refine bk_miss (by decide) ?_
                    cases z53
                    exact ⟨_, _, rfl, rfl, rfl, gl g0, gl g1, gl g2, gl g3⟩
                  · refine w_condF rfl ?_
                    refine w_skip (nx_norm (w_seq (w_seq (w_ops (wo_step (s_pure (p_mv g12)) (wo_step (s_pure (p_mv g0)) ?_))))))
                    obtain ⟨v84, e84, z54⟩ := bindO_inv z53
                    obtain ⟨x84, rfl, z55⟩ := asI_inv z54
                    refine wo_step (s_pure (o_len rfl e84)) ?_
                    obtain ⟨c85, e85, z56⟩ := forceB_inv z55
                    refine wo_step (s_pure (p_bin rfl rfl (b_lss.trans (cb e85)))) (wo_nil (nx_norm ?_))
                    rcases cond_inv z56 with ⟨rfl, z57⟩ | ⟨rfl, z57⟩
                    · refine w_condT rfl ?_
                      refine w_exit ?_
                      refine nx_exit ?_
                      refine bk_hit ?_
                      cases z57
                      exact ⟨_, _, rfl, rfl, rfl, gl rfl, gl g0, gl g1, gl g2, gl g3, gl g9, gl g12⟩
                    · refine w_condF rfl ?_
                      refine w_skip (nx_norm (w_seq (w_ops (wo_step (v := (.i .i64 0)) (s_pure (p_mv rfl)) (wo_nil (nx_norm (w_seq (w_seq (w_ops (wo_step (v := (.i .i64 0)) (s_pure (p_mv rfl)) (wo_nil ?_)))))))))))
                      refine nx_norm ?_
                      refine w_block ?_
                      obtain ⟨o_4, hl, z58⟩ := bindO_inv z57
                      obtain ⟨n, hl⟩ := hM.loop _ _ _ hl
                      refine jp_mono (w_loop _ (g11_I5 v0 s1 v2 s3 v38 v79 x12 x72 m_12) (g11_J5 v0 s1 v2 s3 v38 v79 x12 x72 m_12) ?_ n _ _ _ _ hl ⟨rfl, gl rfl, gl rfl, gl g0, gl g1, gl g2, gl g3, gl g9, gl rfl, gl g12, gl rfl⟩) ?_
                      · clear z58 hl
                        intro s mm_4 t_5 o hi hr
                        obtain ⟨x15, x16⟩ := s
                        obtain ⟨rfl, g15, g16, g0, g1, g2, g3, g9, g11, g12, g13⟩ := hi
                        unfold g11_b5 at hr
                        refine w_seq (w_seq (w_ops (wo_step (s_pure (p_mv g16)) (wo_step (s_pure (p_mv g9)) ?_))))
                        obtain ⟨v88, e88, z59⟩ := bindO_inv hr
                        obtain ⟨x88, rfl, z60⟩ := asI_inv z59
                        refine wo_step (s_pure (o_len rfl e88)) ?_
                        obtain ⟨c89, e89, z61⟩ := forceB_inv z60
                        refine wo_step (s_pure (p_bin rfl rfl (b_lss.trans (cb e89)))) (wo_nil (nx_norm ?_))
                        rcases cond_inv z61 with ⟨rfl, z62⟩ | ⟨rfl, z62⟩
                        · refine w_condT rfl ?_
                          refine w_skip (nx_norm (w_seq ?_))
                          refine w_block ?_
                          refine w_any ?_
                          refine wa_step (v := (.i .i64 x15)) (a_pure (p_mv g15)) ?_
                          refine wa_step (v := v38) (a_pure (p_mv g9)) ?_
                          refine wa_step (v := (.i .i64 x16)) (a_pure (p_mv g16)) ?_
                          obtain ⟨v95, e95, z63⟩ := bindO_inv z62
                          refine wa_step (v := v95) (a_pure (o_ixS rfl rfl e95)) ?_
                          obtain ⟨v96, e96, z64⟩ := bindO_inv z63
                          obtain ⟨x96, rfl, z65⟩ := asI_inv z64
                          refine wa_step (v := (.i .i64 x96)) (a_ld rfl e96) ?_
                          refine wa_step (v := v79) (a_pure (p_mv g11)) ?_
                          refine wa_step (v := (.i .i64 x12)) (a_pure (p_mv g12)) ?_
                          obtain ⟨x99, e99, z66⟩ := forceI_inv z65
                          refine wa_step (v := (.i .i64 x99)) (a_pure (p_bin rfl rfl (b_sub.trans (ci e99)))) ?_
                          refine wa_step (v := (.i .i64 x16)) (a_pure (p_mv g16)) ?_
                          obtain ⟨x101, e101, z67⟩ := forceI_inv z66
                          refine wa_step (v := (.i .i64 x101)) (a_pure (p_bin rfl rfl (b_sub.trans (ci e101)))) ?_
                          obtain ⟨v102, e102, z68⟩ := bindO_inv z67
                          refine wa_step (v := v102) (a_pure (o_ixS rfl rfl e102)) ?_
                          obtain ⟨v103, e103, z69⟩ := bindO_inv z68
                          obtain ⟨x103, rfl, z70⟩ := asI_inv z69
                          refine wa_step (v := (.i .i64 x103)) (a_ld rfl e103) ?_
                          obtain ⟨x104, e104, z71⟩ := forceI_inv z70
                          refine wa_step (v := (.i .i64 x104)) (a_pure (p_bin rfl rfl (b_mul.trans (ci e104)))) ?_
                          obtain ⟨x105, e105, z72⟩ := forceI_inv z71
                          refine wa_step (v := (.i .i64 x105)) (a_pure (p_bin rfl rfl (b_add.trans (ci e105)))) ?_
                          refine wa_step (v := (.i .i64 x105)) (a_pure (p_mv rfl)) ?_
                          refine wa_nil ?_
                          refine ⟨m_12, wM2_nil rfl, ?_⟩
                          refine bk_norm ?_
                          refine nx_norm (w_ops (wo_step (s_pure (p_mv g16)) ?_))
                          obtain ⟨x91, e91, z73⟩ := forceI_inv z72
                          refine wo_step (s_pure (p_bin rfl rfl (b_add.trans (ci e91)))) (wo_step (v := (.i .i64 x91)) (s_pure (p_mv rfl)) (wo_nil ?_))
                          cases z73
                          exact ⟨_, _, rfl, rfl, rfl, gl rfl, gl rfl, gl g0, gl g1, gl g2, gl g3, gl g9, gl g11, gl g12, gl g13⟩
                        · refine w_condF rfl ?_
                          refine w_exit ?_
                          refine nx_exit ?_
                          cases z62
                          exact ⟨_, _, rfl, ne_norm_exit, rfl, rfl, gl g15, gl g0, gl g1, gl g2, gl g3, gl g9, gl g11, gl g12, gl g13⟩
                      · obtain ⟨x15_1, ho⟩ : ∃ z, z = o_4 := ⟨_, rfl⟩
                        subst ho
                        rintro _ mm_3 t_6 ⟨rfl, rfl, g15, g0, g1, g2, g3, g9, g11, g12, g13⟩
                        refine bk_hit ?_
                        refine nx_norm (w_seq (w_ops (wo_step (s_pure (p_mv g15)) (wo_step (s_pure (p_mv g13)) ?_))))
                        obtain ⟨c108, e108, z74⟩ := forceB_inv z58
                        refine wo_step (s_pure (p_bin rfl rfl (b_neq.trans (cb e108)))) (wo_nil (nx_norm ?_))
                        rcases cond_inv z74 with ⟨rfl, z75⟩ | ⟨rfl, z75⟩
                        · refine w_condT rfl ?_
                          refine w_seq (w_ops (wo_step (v := (.b false)) (s_pure (p_mv rfl)) (wo_nil (nx_norm ?_))))
                          refine w_ret ?_
                          refine bk_ret ?_
                          cases z75
                          exact ⟨_, _, rfl, rfl, rfl, gl rfl⟩
                        · refine w_condF rfl ?_
                          refine w_skip ?_
                          refine bk_norm ?_
                          cases z75
                          exact ⟨_, _, rfl, rfl, rfl, gl g11, gl g0, gl g1, gl g2, gl g3, gl g9, gl g12⟩
              · clear z42
                have hr := hk
                clear hk
                rcases o_3 with o_3 | o_3 | o_3
                · obtain ⟨v11_1, m_13⟩ := o_3
                  rintro _ mm_5 t_7 ⟨rfl, rfl, g11, g0, g1, g2, g3, g9, g12⟩
                  refine nx_norm (w_ops (wo_step (s_pure (p_mv g12)) ?_))
                  obtain ⟨x66, e66, z76⟩ := forceI_inv hr
                  refine wo_step (s_pure (p_bin rfl rfl (b_add.trans (ci e66)))) (wo_step (v := (.i .i64 x66)) (s_pure (p_mv rfl)) (wo_nil ?_))
                  cases z76
                  exact ⟨_, _, rfl, rfl, rfl, gl g11, gl rfl, gl g0, gl g1, gl g2, gl g3, gl g9⟩
                · obtain ⟨m_14, ho⟩ : ∃ z, z = o_3 := ⟨_, rfl⟩
                  subst ho
                  rintro _ mm_6 t_8 ⟨rfl, rfl, g0, g1, g2, g3⟩
                  refine nx_exit ?_
                  cases hr
                  exact ⟨_, _, rfl, ne_norm_exit, rfl, rfl, gl g0, gl g1, gl g2, gl g3⟩
                · obtain ⟨c8, m_15⟩ := o_3
                  rintro _ mm_7 t_9 ⟨rfl, rfl, g8⟩
                  refine nx_ret ?_
                  cases hr
                  exact ⟨_, _, rfl, ne_norm_ret, rfl, rfl, gl g8⟩
            · refine w_condF rfl ?_
              refine w_exit ?_
              refine nx_exit ?_
              cases z41
              exact ⟨_, _, rfl, ne_norm_exit, rfl, rfl, gl g0, gl g1, gl g2, gl g3⟩
          · rcases o_5 with o_5 | o_5
            · obtain ⟨m_16, ho⟩ : ∃ z, z = o_5 := ⟨_, rfl⟩
              subst ho
              rintro _ mm_21 t_10 ⟨rfl, rfl, g0, g1, g2, g3⟩
              refine bk_hit ?_
              refine nx_norm (w_seq (w_ops (wo_step (s_pure (p_mv g0)) (wo_step (s_pure (p_mv g1)) (wo_step (s_pure (p_mv g2)) (wo_step (s_pure (p_mv g3)) ?_))))))
              obtain ⟨v114, m_17, e114, z77⟩ := bindP_inv z36
              refine wo_step (s_call (mc rfl (mc rfl (mc rfl (mc rfl mn)))) (callM_le hM.call e114)) (wo_step (v := v114) (s_pure (p_mv rfl)) ?_)
              obtain ⟨v115, e115, z78⟩ := bindO_inv z77
              obtain ⟨x115, rfl, z79⟩ := asI_inv z78
              refine wo_step (s_pure (o_ext rfl e115)) ?_
              obtain ⟨v116, e116, z80⟩ := bindO_inv z79
              obtain ⟨x116, rfl, z81⟩ := asI_inv z80
              refine wo_step (s_pure (o_ext rfl e116)) (wo_step (v := (.i .i64 x115)) (s_pure (p_mv rfl)) (wo_step (v := (.i .i64 x116)) (s_pure (p_mv rfl)) (wo_nil (nx_norm (w_seq (w_seq (w_ops (wo_step (s_pure (p_mv g2)) (wo_step (s_pure (p_mv g3)) ?_)))))))))
              obtain ⟨v119, m_18, e119, z82⟩ := bindP_inv z81
              obtain ⟨x119, rfl, z83⟩ := asI_inv z82
              refine wo_step (s_call (mc rfl (mc rfl mn)) (callM_le hM.call e119)) ?_
              obtain ⟨c120, e120, z84⟩ := forceB_inv z83
              refine wo_step (s_pure (p_bin rfl rfl (b_neq.trans (cb e120)))) (wo_nil (nx_norm ?_))
              rcases cond_inv z84 with ⟨rfl, z85⟩ | ⟨rfl, z85⟩
              · refine w_condT rfl ?_
                refine w_seq (w_ops (wo_step (v := (.i .i64 x116)) (s_pure (p_mv rfl)) (wo_step (s_pure (p_mv g2)) (wo_step (s_pure (p_mv g3)) ?_))))
                obtain ⟨v124, m_19, e124, z86⟩ := bindP_inv z85
                obtain ⟨x124, rfl, z87⟩ := asI_inv z86
                refine wo_step (s_call (mc rfl (mc rfl mn)) (callM_le hM.call e124)) ?_
                obtain ⟨c125, e125, z88⟩ := forceB_inv z87
                refine wo_step (s_pure (p_bin rfl rfl (b_eql.trans (cb e125)))) (wo_step (v := (.b c125)) (s_pure (p_mv rfl)) ?_)
                obtain ⟨o_6, z89, hk⟩ := bindO_inv z88
                refine wo_join 3 (g11_J6 m_19 o_6) ?_ ?_
                · clear hk
                  rcases cond_inv z89 with ⟨rfl, z90⟩ | ⟨rfl, z90⟩
                  · refine wo_take (v := (.i .i64 x115)) rfl (s_pure (p_mv rfl)) ?_
                    obtain ⟨c128, e128, z91⟩ := forceB_inv z90
                    refine wo_take (v := (.b c128)) rfl (s_pure (p_bin rfl rfl (b_eql.trans (cb e128)))) (wo_step (v := (.b c128)) (s_pure (p_pickT rfl rfl)) (wo_nil ?_))
                    cases z91
                    exact ⟨_, _, rfl, rfl, gl rfl⟩
                  · refine wo_skip (v := (.b false)) rfl rfl (wo_skip (v := (.b false)) rfl rfl (wo_step (v := (.b false)) (s_pure (p_pickF rfl rfl)) (wo_nil ?_)))
                    cases z90
                    exact ⟨_, _, rfl, rfl, gl rfl⟩
                · clear z89
                  have hr := hk
                  clear hk
                  obtain ⟨c129, ho⟩ : ∃ z, z = o_6 := ⟨_, rfl⟩
                  subst ho
                  rintro mm_8 t_11 ⟨rfl, g129⟩
                  refine wo_step (s_pure (p_mv g129)) ?_
                  obtain ⟨o_7, z92, hk⟩ := bindO_inv hr
                  refine wo_join 2 (g11_J7  o_7) ?_ ?_
                  · clear hk
                    rcases cond_inv z92 with ⟨rfl, z93⟩ | ⟨rfl, z93⟩
                    · obtain ⟨v131, m_21, e131, z94⟩ := bindP_inv z93
                      obtain ⟨c131, rfl, z95⟩ := asB_inv z94
                      refine wo_take (v := (.b c131)) rfl (s_call mn (callM_le hM.call e131)) (wo_step (v := (.b c131)) (s_pure (p_pickT rfl rfl)) (wo_nil ?_))
                      cases z95
                      exact ⟨_, _, rfl, rfl, gl rfl⟩
                    · refine wo_skip (v := (.b false)) rfl rfl (wo_step (v := (.b false)) (s_pure (p_pickF rfl rfl)) (wo_nil ?_))
                      cases z93
                      exact ⟨_, _, rfl, rfl, gl rfl⟩
                  · clear z92
                    have hr := hk
                    clear hk
                    obtain ⟨c132, m_20⟩ := o_7
                    rintro mm_9 t_12 ⟨rfl, g132⟩
                    refine wo_step (s_pure (p_mv g132)) (wo_nil (nx_norm ?_))
                    refine w_ret ?_
                    refine nx_ret ?_
                    exact qf ret_ok (rt rfl rn) hr
              · refine w_condF rfl ?_
                refine w_skip (nx_norm (w_seq (w_seq (w_ops (wo_step (v := (.i .i64 0)) (s_pure (p_mv rfl)) (wo_nil (nx_norm ?_)))))))
                refine w_block ?_
                obtain ⟨o_14, hl_1, z96⟩ := bindO_inv z85
                obtain ⟨n_1, hl_1⟩ := hM.loop _ _ _ hl_1
                refine jp_mono (w_loop _ (g11_I8 v0 s1 v2 s3 x116 x115) (g11_J8 v0 s1 v2 s3 x116 x115) ?_ n_1 _ _ _ _ hl_1 ⟨rfl, gl rfl, gl g0, gl g1, gl g2, gl g3, gl rfl, gl rfl⟩) ?_
                · clear z96 hl_1
                  intro s mm_20 t_13 o hi hr
                  obtain ⟨x18, m_22⟩ := s
                  obtain ⟨rfl, g18, g0, g1, g2, g3, g10, g17⟩ := hi
                  unfold g11_b8 at hr
                  refine w_seq (w_seq (w_ops (wo_step (s_pure (p_mv g18)) ?_)))
                  obtain ⟨c134, e134, z97⟩ := forceB_inv hr
                  refine wo_step (s_pure (p_bin rfl rfl (b_lss.trans (cb e134)))) (wo_nil (nx_norm ?_))
                  rcases cond_inv z97 with ⟨rfl, z98⟩ | ⟨rfl, z98⟩
                  · refine w_condT rfl ?_
                    refine w_skip (nx_norm (w_seq ?_))
                    refine w_block ?_
                    refine w_seq (w_ops (wo_step (s_pure (p_mv g0)) (wo_step (s_pure (p_mv g1)) (wo_step (s_pure (p_mv g18)) ?_))))
                    obtain ⟨v141, m_23, e141, z99⟩ := bindP_inv z98
                    refine wo_step (s_call (mc rfl (mc rfl (mc rfl mn))) (callM_le hM.call e141)) (wo_step (v := v141) (s_pure (p_mv rfl)) ?_)
                    obtain ⟨v142, e142, z100⟩ := bindO_inv z99
                    obtain ⟨x142, rfl, z101⟩ := asI_inv z100
                    refine wo_step (s_pure (o_ext rfl e142)) ?_
                    obtain ⟨v143, e143, z102⟩ := bindO_inv z101
                    obtain ⟨x143, rfl, z103⟩ := asI_inv z102
                    refine wo_step (s_pure (o_ext rfl e143)) (wo_step (v := (.i .i64 x142)) (s_pure (p_mv rfl)) (wo_step (v := (.i .i64 x143)) (s_pure (p_mv rfl)) (wo_nil (nx_norm (w_seq (w_ops (wo_step (s_pure (p_mv g2)) (wo_step (s_pure (p_mv g3)) (wo_step (s_pure (p_mv g18)) ?_)))))))))
                    obtain ⟨v148, m_24, e148, z104⟩ := bindP_inv z103
                    refine wo_step (s_call (mc rfl (mc rfl (mc rfl mn))) (callM_le hM.call e148)) (wo_step (v := v148) (s_pure (p_mv rfl)) ?_)
                    obtain ⟨v149, e149, z105⟩ := bindO_inv z104
                    obtain ⟨x149, rfl, z106⟩ := asI_inv z105
                    refine wo_step (s_pure (o_ext rfl e149)) ?_
                    obtain ⟨v150, e150, z107⟩ := bindO_inv z106
                    obtain ⟨x150, rfl, z108⟩ := asI_inv z107
                    refine wo_step (s_pure (o_ext rfl e150)) (wo_step (v := (.i .i64 x149)) (s_pure (p_mv rfl)) (wo_step (v := (.i .i64 x150)) (s_pure (p_mv rfl)) (wo_nil (nx_norm (w_seq (w_seq (w_ops (wo_step (v := (.i .i64 x143)) (s_pure (p_mv rfl)) ?_))))))))
                    obtain ⟨c152, e152, z109⟩ := forceB_inv z108
                    refine wo_step (s_pure (p_bin rfl rfl (b_neq.trans (cb e152)))) (wo_step (v := (.b c152)) (s_pure (p_mv rfl)) ?_)
                    obtain ⟨o_8, z110, hk⟩ := bindO_inv z109
                    refine wo_join 3 (g11_J9 v0 s1 v2 s3 x116 x115 x18 x142 x143 x149 x150 m_24 o_8) ?_ ?_
                    · clear hk
                      rcases cond_inv z110 with ⟨rfl, z111⟩ | ⟨rfl, z111⟩
                      · refine wo_skip (v := (.b true)) rfl rfl (wo_skip (v := (.b true)) rfl rfl (wo_step (v := (.b true)) (s_pure (p_pickT rfl rfl)) (wo_nil ?_)))
                        cases z111
                        exact ⟨_, _, rfl, rfl, gl rfl, gl g0, gl g1, gl g2, gl g3, gl g10, gl g17, gl g18, gl rfl, gl rfl, gl rfl, gl rfl⟩
                      · refine wo_take (v := (.i .i64 x150)) rfl (s_pure (p_mv rfl)) ?_
                        obtain ⟨c155, e155, z112⟩ := forceB_inv z111
                        refine wo_take (v := (.b c155)) rfl (s_pure (p_bin rfl rfl (b_neq.trans (cb e155)))) (wo_step (v := (.b c155)) (s_pure (p_pickF rfl rfl)) (wo_nil ?_))
                        cases z112
                        exact ⟨_, _, rfl, rfl, gl rfl, gl g0, gl g1, gl g2, gl g3, gl g10, gl g17, gl g18, gl rfl, gl rfl, gl rfl, gl rfl⟩
                    · clear z110
                      have hr := hk
                      clear hk
                      obtain ⟨c156, ho⟩ : ∃ z, z = o_8 := ⟨_, rfl⟩
                      subst ho
                      rintro mm_10 t_14 ⟨rfl, g156, g0, g1, g2, g3, g10, g17, g18, g19, g20, g21, g22⟩
                      refine wo_nil (nx_norm ?_)
                      rcases cond_inv hr with ⟨rfl, z113⟩ | ⟨rfl, z113⟩
                      · refine w_condT g156 ?_
                        refine w_seq (w_ops (wo_step (s_pure (p_mv g10)) ?_))
                        obtain ⟨c158, e158, z114⟩ := forceB_inv z113
                        refine wo_step (s_pure (p_bin rfl rfl (b_eql.trans (cb e158)))) (wo_step (v := (.b c158)) (s_pure (p_mv rfl)) ?_)
                        obtain ⟨o_9, z115, hk⟩ := bindO_inv z114
                        refine wo_join 4 (g11_J10 m_24 o_9) ?_ ?_
                        · clear hk
                          rcases cond_inv z115 with ⟨rfl, z116⟩ | ⟨rfl, z116⟩
                          · refine wo_skip (v := (.b true)) rfl rfl (wo_skip (v := (.b true)) rfl rfl (wo_skip (v := (.b true)) rfl rfl (wo_step (v := (.b true)) (s_pure (p_pickT rfl rfl)) (wo_nil ?_))))
                            cases z116
                            exact ⟨_, _, rfl, rfl, gl rfl⟩
                          · refine wo_take (v := (.i .i64 x143)) rfl (s_pure (p_mv g20)) (wo_take (v := (.i .i64 x150)) rfl (s_pure (p_mv g22)) ?_)
                            obtain ⟨c162, e162, z117⟩ := forceB_inv z116
                            refine wo_take (v := (.b c162)) rfl (s_pure (p_bin rfl rfl (b_eql.trans (cb e162)))) (wo_step (v := (.b c162)) (s_pure (p_pickF rfl rfl)) (wo_nil ?_))
                            cases z117
                            exact ⟨_, _, rfl, rfl, gl rfl⟩
                        · clear z115
                          have hr := hk
                          clear hk
                          obtain ⟨c163, ho⟩ : ∃ z, z = o_9 := ⟨_, rfl⟩
                          subst ho
                          rintro mm_11 t_15 ⟨rfl, g163⟩
                          refine wo_step (s_pure (p_mv g163)) ?_
                          obtain ⟨o_10, z118, hk⟩ := bindO_inv hr
                          refine wo_join 2 (g11_J11  o_10) ?_ ?_
                          · clear hk
                            rcases cond_inv z118 with ⟨rfl, z119⟩ | ⟨rfl, z119⟩
                            · obtain ⟨v165, m_26, e165, z120⟩ := bindP_inv z119
                              obtain ⟨c165, rfl, z121⟩ := asB_inv z120
                              refine wo_take (v := (.b c165)) rfl (s_call mn (callM_le hM.call e165)) (wo_step (v := (.b c165)) (s_pure (p_pickT rfl rfl)) (wo_nil ?_))
                              cases z121
                              exact ⟨_, _, rfl, rfl, gl rfl⟩
                            · refine wo_skip (v := (.b false)) rfl rfl (wo_step (v := (.b false)) (s_pure (p_pickF rfl rfl)) (wo_nil ?_))
                              cases z119
                              exact ⟨_, _, rfl, rfl, gl rfl⟩
                          · clear z118
                            have hr := hk
                            clear hk
                            obtain ⟨c166, m_25⟩ := o_10
                            rintro mm_12 t_16 ⟨rfl, g166⟩
                            refine wo_step (s_pure (p_mv g166)) (wo_nil (nx_norm ?_))
                            refine w_ret ?_
                            refine nx_ret ?_
                            refine bk_ret ?_
                            refine nx_ret ?_
                            cases hr
                            exact ⟨_, _, rfl, ne_norm_ret, rfl, rfl, gl rfl⟩
                      · refine w_condF g156 ?_
                        refine w_skip (nx_norm (w_seq (w_ops (wo_step (s_pure (p_mv g19)) (wo_step (s_pure (p_mv g21)) ?_)))))
                        obtain ⟨c169, e169, z122⟩ := forceB_inv z113
                        refine wo_step (s_pure (p_bin rfl rfl (b_neq.trans (cb e169)))) (wo_nil (nx_norm ?_))
                        rcases cond_inv z122 with ⟨rfl, z123⟩ | ⟨rfl, z123⟩
                        · refine w_condT rfl ?_
                          refine w_seq (w_ops (wo_step (s_pure (p_mv g10)) ?_))
                          obtain ⟨c171, e171, z124⟩ := forceB_inv z123
                          refine wo_step (s_pure (p_bin rfl rfl (b_eql.trans (cb e171)))) (wo_step (v := (.b c171)) (s_pure (p_mv rfl)) ?_)
                          obtain ⟨o_11, z125, hk⟩ := bindO_inv z124
                          refine wo_join 4 (g11_J12 v0 v2 x18 m_24 o_11) ?_ ?_
                          · clear hk
                            rcases cond_inv z125 with ⟨rfl, z126⟩ | ⟨rfl, z126⟩
                            · refine wo_take (v := (.i .i64 x115)) rfl (s_pure (p_mv g17)) (wo_take (v := (.i .i64 x18)) rfl (s_pure (p_mv g18)) ?_)
                              obtain ⟨c175, e175, z127⟩ := forceB_inv z126
                              refine wo_take (v := (.b c175)) rfl (s_pure (p_bin rfl rfl (b_eql.trans (cb e175)))) (wo_step (v := (.b c175)) (s_pure (p_pickT rfl rfl)) (wo_nil ?_))
                              cases z127
                              exact ⟨_, _, rfl, rfl, gl rfl, gl g0, gl g2, gl g18⟩
                            · refine wo_skip (v := (.b false)) rfl rfl (wo_skip (v := (.b false)) rfl rfl (wo_skip (v := (.b false)) rfl rfl (wo_step (v := (.b false)) (s_pure (p_pickF rfl rfl)) (wo_nil ?_))))
                              cases z126
                              exact ⟨_, _, rfl, rfl, gl rfl, gl g0, gl g2, gl g18⟩
                          · clear z125
                            have hr := hk
                            clear hk
                            obtain ⟨c176, ho⟩ : ∃ z, z = o_11 := ⟨_, rfl⟩
                            subst ho
                            rintro mm_13 t_17 ⟨rfl, g176, g0, g2, g18⟩
                            refine wo_step (s_pure (p_mv g176)) ?_
                            obtain ⟨o_12, z128, hk⟩ := bindO_inv hr
                            refine wo_join 8 (g11_J13 m_24 o_12) ?_ ?_
                            · clear hk
                              rcases cond_inv z128 with ⟨rfl, z129⟩ | ⟨rfl, z129⟩
                              · refine wo_take (v := (.i .i64 x18)) rfl (s_pure (p_mv g18)) (wo_take (v := v0) rfl (s_pure (p_mv g0)) ?_)
                                obtain ⟨v180, e180, z130⟩ := bindO_inv z129
                                obtain ⟨x180, rfl, z131⟩ := asI_inv z130
                                refine wo_take (v := (.i .i64 x180)) rfl (s_pure (o_len rfl e180)) (wo_take (v := v2) rfl (s_pure (p_mv g2)) ?_)
                                obtain ⟨v182, e182, z132⟩ := bindO_inv z131
                                obtain ⟨x182, rfl, z133⟩ := asI_inv z132
                                refine wo_take (v := (.i .i64 x182)) rfl (s_pure (o_len rfl e182)) ?_
                                obtain ⟨x183, e183, z134⟩ := forceI_inv z133
                                refine wo_take (v := (.i .i64 x183)) rfl (s_pure (p_bin rfl rfl (b_add.trans (ci e183)))) ?_
                                obtain ⟨c184, e184, z135⟩ := forceB_inv z134
                                refine wo_take (v := (.b c184)) rfl (s_pure (p_bin rfl rfl (b_lss.trans (cb e184)))) (wo_step (v := (.b c184)) (s_pure (p_pickT rfl rfl)) (wo_nil ?_))
                                cases z135
                                exact ⟨_, _, rfl, rfl, gl rfl⟩
                              · refine wo_skip (v := (.b false)) rfl rfl (wo_skip (v := (.b false)) rfl rfl (wo_skip (v := (.b false)) rfl rfl (wo_skip (v := (.b false)) rfl rfl (wo_skip (v := (.b false)) rfl rfl (wo_skip (v := (.b false)) rfl rfl (wo_skip (v := (.b false)) rfl rfl (wo_step (v := (.b false)) (s_pure (p_pickF rfl rfl)) (wo_nil ?_))))))))
                                cases z129
                                exact ⟨_, _, rfl, rfl, gl rfl⟩
                            · clear z128
                              have hr := hk
                              clear hk
                              obtain ⟨c185, ho⟩ : ∃ z, z = o_12 := ⟨_, rfl⟩
                              subst ho
                              rintro mm_14 t_18 ⟨rfl, g185⟩
                              refine wo_step (s_pure (p_mv g185)) ?_
                              obtain ⟨o_13, z136, hk⟩ := bindO_inv hr
                              refine wo_join 2 (g11_J14  o_13) ?_ ?_
                              · clear hk
                                rcases cond_inv z136 with ⟨rfl, z137⟩ | ⟨rfl, z137⟩
                                · obtain ⟨v187, m_28, e187, z138⟩ := bindP_inv z137
                                  obtain ⟨c187, rfl, z139⟩ := asB_inv z138
                                  refine wo_take (v := (.b c187)) rfl (s_call mn (callM_le hM.call e187)) (wo_step (v := (.b c187)) (s_pure (p_pickT rfl rfl)) (wo_nil ?_))
                                  cases z139
                                  exact ⟨_, _, rfl, rfl, gl rfl⟩
                                · refine wo_skip (v := (.b false)) rfl rfl (wo_step (v := (.b false)) (s_pure (p_pickF rfl rfl)) (wo_nil ?_))
                                  cases z137
                                  exact ⟨_, _, rfl, rfl, gl rfl⟩
                              · clear z136
                                have hr := hk
                                clear hk
                                obtain ⟨c188, m_27⟩ := o_13
                                rintro mm_15 t_19 ⟨rfl, g188⟩
                                refine wo_step (s_pure (p_mv g188)) (wo_nil (nx_norm ?_))
                                refine w_ret ?_
                                refine bk_ret ?_
                                refine nx_ret ?_
                                cases hr
                                exact ⟨_, _, rfl, ne_norm_ret, rfl, rfl, gl rfl⟩
                        · refine w_condF rfl ?_
                          refine w_skip ?_
                          refine bk_norm ?_
                          refine nx_norm (w_ops (wo_step (s_pure (p_mv g18)) ?_))
                          obtain ⟨x136, e136, z140⟩ := forceI_inv z123
                          refine wo_step (s_pure (p_bin rfl rfl (b_add.trans (ci e136)))) (wo_step (v := (.i .i64 x136)) (s_pure (p_mv rfl)) (wo_nil ?_))
                          cases z140
                          exact ⟨_, _, rfl, rfl, rfl, gl rfl, gl g0, gl g1, gl g2, gl g3, gl g10, gl g17⟩
                  · refine w_condF rfl ?_
                    refine w_exit ?_
                    refine nx_exit ?_
                    cases z98
                    exact ⟨_, _, rfl, ne_norm_exit, rfl, rfl, gl g10, gl g17⟩
                · rcases o_14 with o_14 | o_14
                  · obtain ⟨m_29, ho⟩ : ∃ z, z = o_14 := ⟨_, rfl⟩
                    subst ho
                    rintro _ mm_18 t_20 ⟨rfl, rfl, g10, g17⟩
                    refine bk_hit ?_
                    refine nx_norm (w_seq (w_ops (wo_step (s_pure (p_mv g10)) ?_)))
                    obtain ⟨c190, e190, z141⟩ := forceB_inv z96
                    refine wo_step (s_pure (p_bin rfl rfl (b_eql.trans (cb e190)))) (wo_step (v := (.b c190)) (s_pure (p_mv rfl)) ?_)
                    obtain ⟨o_15, z142, hk⟩ := bindO_inv z141
                    refine wo_join 3 (g11_J15 m_29 o_15) ?_ ?_
                    · clear hk
                      rcases cond_inv z142 with ⟨rfl, z143⟩ | ⟨rfl, z143⟩
                      · refine wo_take (v := (.i .i64 x115)) rfl (s_pure (p_mv g17)) ?_
                        obtain ⟨c193, e193, z144⟩ := forceB_inv z143
                        refine wo_take (v := (.b c193)) rfl (s_pure (p_bin rfl rfl (b_eql.trans (cb e193)))) (wo_step (v := (.b c193)) (s_pure (p_pickT rfl rfl)) (wo_nil ?_))
                        cases z144
                        exact ⟨_, _, rfl, rfl, gl rfl⟩
                      · refine wo_skip (v := (.b false)) rfl rfl (wo_skip (v := (.b false)) rfl rfl (wo_step (v := (.b false)) (s_pure (p_pickF rfl rfl)) (wo_nil ?_)))
                        cases z143
                        exact ⟨_, _, rfl, rfl, gl rfl⟩
                    · clear z142
                      have hr := hk
                      clear hk
                      obtain ⟨c194, ho⟩ : ∃ z, z = o_15 := ⟨_, rfl⟩
                      subst ho
                      rintro mm_16 t_21 ⟨rfl, g194⟩
                      refine wo_step (s_pure (p_mv g194)) ?_
                      obtain ⟨o_16, z145, hk⟩ := bindO_inv hr
                      refine wo_join 2 (g11_J16  o_16) ?_ ?_
                      · clear hk
                        rcases cond_inv z145 with ⟨rfl, z146⟩ | ⟨rfl, z146⟩
                        · obtain ⟨v196, m_31, e196, z147⟩ := bindP_inv z146
                          obtain ⟨c196, rfl, z148⟩ := asB_inv z147
                          refine wo_take (v := (.b c196)) rfl (s_call mn (callM_le hM.call e196)) (wo_step (v := (.b c196)) (s_pure (p_pickT rfl rfl)) (wo_nil ?_))
                          cases z148
                          exact ⟨_, _, rfl, rfl, gl rfl⟩
                        · refine wo_skip (v := (.b false)) rfl rfl (wo_step (v := (.b false)) (s_pure (p_pickF rfl rfl)) (wo_nil ?_))
                          cases z146
                          exact ⟨_, _, rfl, rfl, gl rfl⟩
                      · clear z145
                        have hr := hk
                        clear hk
                        obtain ⟨c197, m_30⟩ := o_16
                        rintro mm_17 t_22 ⟨rfl, g197⟩
                        refine wo_step (s_pure (p_mv g197)) (wo_nil (nx_norm ?_))
                        refine w_ret ?_
                        exact qf ret_ok (rt rfl rn) hr
                  · obtain ⟨c8_1, m_32⟩ := o_14
                    rintro _ mm_19 t_23 ⟨rfl, rfl, g8⟩
                    refine bk_ret ?_
                    refine nx_ret ?_
                    exact qf ret_ok (rt g8 rn) z96
            · obtain ⟨c8_2, m_33⟩ := o_5
              rintro _ mm_22 t_24 ⟨rfl, rfl, g8⟩
              refine bk_ret ?_
              refine nx_ret ?_
              exact qf ret_ok (rt g8 rn) z36
/- dibber/dibberlaw03.few -/
abbrev g15_I0 (v0 : AVal) (s1 : List UInt8) (m0 : Mm) (s : Int) (m1 : Mm) (t1 : Tr) : Prop :=
  match s with
  | x5 => m0 = m1 ∧ t1.get 5 = (.i .i64 x5) ∧ t1.get 0 = v0 ∧ t1.get 1 = (.s s1)
abbrev g15_J0 (v0 : AVal) (s1 : List UInt8) (m0 : Mm) (o : (Unit ⊕ Bool)) (e : AExit) (m1 : Mm) (t1 : Tr) : Prop :=
  match o with
  | (.inl _) => e = (.exit 0) ∧ m0 = m1 ∧ t1.get 1 = (.s s1)
  | (.inr y4) => e = .ret ∧ m0 = m1 ∧ t1.get 4 = (.b y4)
abbrev g15_J1 (v0 : AVal) (s1 : List UInt8) (x5 : Int) (m0 : Mm) (o : Bool) (m1 : Mm) (t1 : Tr) : Prop :=
  match o with
  | c21 => m0 = m1 ∧ t1.get 21 = (.b c21) ∧ t1.get 0 = v0 ∧ t1.get 1 = (.s s1) ∧ t1.get 5 = (.i .i64 x5)
def g15_b0 (M : Means) (ro : List ABlk) (v0 : AVal) (s1 : List UInt8) (m0 : Mm) (x5 : Int) : Option ((Int) ⊕ ((Unit ⊕ Bool))) :=
  bindO (evP .e (.len false (.c v0))) fun v8 =>
  asI .i64 v8 fun x8 =>
  forceB (ltI x5 x8) fun c9 =>
  cond c9 (
    forceB (!ltI x5 20) fun c13 =>
    bindO (cond c13 (
      some true) (
      bindO (evP .e (.ixS 1 (.c v0) (.c (.i .i64 x5)))) fun v17 =>
      bindO (ldM ro m0 true 1 v17) fun v18 =>
      asS v18 fun s18 =>
      bindO (evP .e (.len true (.c (.s s18)))) fun v19 =>
      asI .i64 v19 fun x19 =>
      forceB (ltI 50 x19) fun c20 =>
      some c20)) fun c21 =>
    cond c21 (
      some (.inr (.inr false))) (
      forceI (wr .i64 (x5 + 1)) fun x11 =>
      some (.inl x11))) (
    some (.inr (.inl ())))
def g15 (M : Means) (ro : List ABlk) (v0 : AVal) (s1 : List UInt8) (m0 : Mm) : Option (AVal × Heap × Nat × Nat) :=
  bindO (M.loop (S := Int) (R := (Unit ⊕ Bool)) (fun s => g15_b0 M ro v0 s1 m0 s) 0) fun o_1 => match o_1 with
  | (.inl _) =>
    bindO (evP .e (.len true (.c (.s s1)))) fun v23 =>
    asI .i64 v23 fun x23 =>
    forceB (!ltI 100 x23) fun c24 =>
    finM m0.h.length (tupA [(.b c24)]) m0
  | (.inr c4) =>
    finM m0.h.length (tupA [(.b c4)]) m0
theorem g15_ok {ro : List ABlk} {O : Caller} {M : Means} (hM : M.Ok ⟨F, O⟩ ro) {v0 s1 h r} (ho : O 15 [v0, (.s s1)] h = none) (hr : g15 M ro v0 s1 ⟨h, h.length, h.length⟩ = some r) : callX ⟨F, O⟩ ro 15 [v0, (.s s1)] h = some r := by
  refine callX_of (F := ⟨F, O⟩) (fn := fn15) (g := g15 M ro v0 s1) ho rfl rfl hr ?_
  clear ho
  clear hr
  intro m0 t0 ht hr
  have g0 : t0.get 0 = v0 := ht 0
  have g1 : t0.get 1 = (.s s1) := ht 1
  clear ht
  unfold g15 at hr
  refine w_seq (w_ops (wo_step (v := (.b false)) (s_pure (p_mv rfl)) (wo_nil (nx_norm (w_seq (w_seq (w_ops (wo_step (v := (.i .i64 0)) (s_pure (p_mv rfl)) (wo_nil (nx_norm ?_))))))))))
  refine w_block ?_
  obtain ⟨o_1, hl, z1⟩ := bindO_inv hr
  obtain ⟨n, hl⟩ := hM.loop _ _ _ hl
  refine jp_mono (w_loop _ (g15_I0 v0 s1 m0) (g15_J0 v0 s1 m0) ?_ n _ _ _ _ hl ⟨rfl, gl rfl, gl g0, gl g1⟩) ?_
  · clear z1 hl
    intro s mm_3 t_1 o hi hr
    obtain ⟨x5, hs⟩ : ∃ z, z = s := ⟨_, rfl⟩
    subst hs
    obtain ⟨rfl, g5, g0, g1⟩ := hi
    unfold g15_b0 at hr
    refine w_seq (w_seq (w_ops (wo_step (s_pure (p_mv g5)) (wo_step (s_pure (p_mv g0)) ?_))))
    obtain ⟨v8, e8, z2⟩ := bindO_inv hr
    obtain ⟨x8, rfl, z3⟩ := asI_inv z2
    refine wo_step (s_pure (o_len rfl e8)) ?_
    obtain ⟨c9, e9, z4⟩ := forceB_inv z3
    refine wo_step (s_pure (p_bin rfl rfl (b_lss.trans (cb e9)))) (wo_nil (nx_norm ?_))
    rcases cond_inv z4 with ⟨rfl, z5⟩ | ⟨rfl, z5⟩
    · refine w_condT rfl ?_
      refine w_skip (nx_norm (w_seq ?_))
      refine w_block ?_
      refine w_seq (w_ops (wo_step (s_pure (p_mv g5)) ?_))
      obtain ⟨c13, e13, z6⟩ := forceB_inv z5
      refine wo_step (s_pure (p_bin rfl rfl (b_geq.trans (cb e13)))) (wo_step (v := (.b c13)) (s_pure (p_mv rfl)) ?_)
      obtain ⟨o, z7, hk⟩ := bindO_inv z6
      refine wo_join 7 (g15_J1 v0 s1 x5 m0 o) ?_ ?_
      · clear hk
        rcases cond_inv z7 with ⟨rfl, z8⟩ | ⟨rfl, z8⟩
        · refine wo_skip (v := (.b true)) rfl rfl (wo_skip (v := (.b true)) rfl rfl (wo_skip (v := (.b true)) rfl rfl (wo_skip (v := (.b true)) rfl rfl (wo_skip (v := (.b true)) rfl rfl (wo_skip (v := (.b true)) rfl rfl (wo_step (v := (.b true)) (s_pure (p_pickT rfl rfl)) (wo_nil ?_)))))))
          cases z8
          exact ⟨_, _, rfl, rfl, gl rfl, gl g0, gl g1, gl g5⟩
        · refine wo_take (v := v0) rfl (s_pure (p_mv g0)) (wo_take (v := (.i .i64 x5)) rfl (s_pure (p_mv g5)) ?_)
          obtain ⟨v17, e17, z9⟩ := bindO_inv z8
          refine wo_take (v := v17) rfl (s_pure (o_ixS rfl rfl e17)) ?_
          obtain ⟨v18, e18, z10⟩ := bindO_inv z9
          obtain ⟨s18, rfl, z11⟩ := asS_inv z10
          refine wo_take (v := (.s s18)) rfl (s_ld rfl e18) ?_
          obtain ⟨v19, e19, z12⟩ := bindO_inv z11
          obtain ⟨x19, rfl, z13⟩ := asI_inv z12
          refine wo_take (v := (.i .i64 x19)) rfl (s_pure (o_len rfl e19)) ?_
          obtain ⟨c20, e20, z14⟩ := forceB_inv z13
          refine wo_take (v := (.b c20)) rfl (s_pure (p_bin rfl rfl (b_gtr.trans (cb e20)))) (wo_step (v := (.b c20)) (s_pure (p_pickF rfl rfl)) (wo_nil ?_))
          cases z14
          exact ⟨_, _, rfl, rfl, gl rfl, gl g0, gl g1, gl g5⟩
      · clear z7
        have hr := hk
        clear hk
        obtain ⟨c21, ho⟩ : ∃ z, z = o := ⟨_, rfl⟩
        subst ho
        rintro mm t_2 ⟨rfl, g21, g0, g1, g5⟩
        refine wo_nil (nx_norm ?_)
        rcases cond_inv hr with ⟨rfl, z15⟩ | ⟨rfl, z15⟩
        · refine w_condT g21 ?_
          refine w_seq (w_ops (wo_step (v := (.b false)) (s_pure (p_mv rfl)) (wo_nil (nx_norm ?_))))
          refine w_ret ?_
          refine bk_ret ?_
          refine nx_ret ?_
          cases z15
          exact ⟨_, _, rfl, ne_norm_ret, rfl, rfl, gl rfl⟩
        · refine w_condF g21 ?_
          refine w_skip ?_
          refine bk_norm ?_
          refine nx_norm (w_ops (wo_step (s_pure (p_mv g5)) ?_))
          obtain ⟨x11, e11, z16⟩ := forceI_inv z15
          refine wo_step (s_pure (p_bin rfl rfl (b_add.trans (ci e11)))) (wo_step (v := (.i .i64 x11)) (s_pure (p_mv rfl)) (wo_nil ?_))
          cases z16
          exact ⟨_, _, rfl, rfl, rfl, gl rfl, gl g0, gl g1⟩
    · refine w_condF rfl ?_
      refine w_exit ?_
      refine nx_exit ?_
      cases z5
      exact ⟨_, _, rfl, ne_norm_exit, rfl, rfl, gl g1⟩
  · rcases o_1 with o_1 | o_1
    · rintro _ mm_1 t_3 ⟨rfl, rfl, g1⟩
      refine bk_hit ?_
      refine nx_norm (w_seq (w_ops (wo_step (s_pure (p_mv g1)) ?_)))
      obtain ⟨v23, e23, z17⟩ := bindO_inv z1
      obtain ⟨x23, rfl, z18⟩ := asI_inv z17
      refine wo_step (s_pure (o_len rfl e23)) ?_
      obtain ⟨c24, e24, z19⟩ := forceB_inv z18
      refine wo_step (s_pure (p_bin rfl rfl (b_leq.trans (cb e24)))) (wo_step (v := (.b c24)) (s_pure (p_mv rfl)) (wo_nil (nx_norm ?_)))
      refine w_ret ?_
      exact qf ret_ok (rt rfl rn) z19
    · obtain ⟨c4, ho⟩ : ∃ z, z = o_1 := ⟨_, rfl⟩
      subst ho
      rintro _ mm_2 t_4 ⟨rfl, rfl, g4⟩
      refine bk_ret ?_
      refine nx_ret ?_
      exact qf ret_ok (rt g4 rn) z1
/- dibber/vine.Long -/

def g19 (M : Means) (ro : List ABlk) (v0 : AVal) (s1 : List UInt8) (x2 : Int) (m0 : Mm) : Option (AVal × Heap × Nat × Nat) :=
  bindP (callM M.call m0 47 [v0, (.s s1), (.i .i64 x2)]) fun v15 m_1 =>
  bindO (evP .e (.ext 0 (.c v15))) fun v16 =>
  bindO (evP .e (.ext 1 (.c v15))) fun v17 =>
  asI .i64 v17 fun x17 =>
  forceB (!eqI x17 0) fun c19 =>
  cond c19 (
    finM m0.h.length (tupA [(.i .i64 0), (.i .i64 x17)]) m_1) (
    bindP (callM M.call m_1 48 [v16, (.i .i64 x2)]) fun v23 m_2 =>
    bindO (evP .e (.ixS 1 (.c v23) (.c (.i .i64 x2)))) fun v25 =>
    bindO (ldM ro m_2 true 1 v25) fun v26 =>
    bindP (callM M.call m_2 49 [v26, (.s s1)]) fun v28 m_3 =>
    asI .u64 v28 fun x28 =>
    forceB (ltI 1152921504606846976 x28) fun c30 =>
    cond c30 (
      finM m0.h.length (tupA [(.i .i64 0), (.i .i64 4)]) m_3) (
      forceI (wr .i64 x28) fun x32 =>
      finM m0.h.length (tupA [(.i .i64 x32), (.i .i64 0)]) m_3))
theorem g19_ok {ro : List ABlk} {O : Caller} {M : Means} (hM : M.Ok ⟨F, O⟩ ro) {v0 s1 x2 h r} (ho : O 19 [v0, (.s s1), (.i .i64 x2)] h = none) (hr : g19 M ro v0 s1 x2 ⟨h, h.length, h.length⟩ = some r) : callX ⟨F, O⟩ ro 19 [v0, (.s s1), (.i .i64 x2)] h = some r := by
  refine callX_of (F := ⟨F, O⟩) (fn := fn19) (g := g19 M ro v0 s1 x2) ho rfl rfl hr ?_
  clear ho
  clear hr
  intro m0 t0 ht hr
  have g0 : t0.get 0 = v0 := ht 0
  have g1 : t0.get 1 = (.s s1) := ht 1
  have g2 : t0.get 2 = (.i .i64 x2) := ht 2
  clear ht
  unfold g19 at hr
  refine w_seq (w_ops (wo_step (v := (.i .i64 0)) (s_pure (p_mv rfl)) (wo_step (v := (.i .i64 0)) (s_pure (p_mv rfl)) (wo_nil (nx_norm (w_seq (w_ops (wo_step (s_pure (p_mv g0)) (wo_step (s_pure (p_mv g1)) (wo_step (s_pure (p_mv g2)) ?_))))))))))
  obtain ⟨v15, m_1, e15, z1⟩ := bindP_inv hr
  refine wo_step (s_call (mc rfl (mc rfl (mc rfl mn))) (callM_le hM.call e15)) (wo_step (v := v15) (s_pure (p_mv rfl)) ?_)
  obtain ⟨v16, e16, z2⟩ := bindO_inv z1
  refine wo_step (s_pure (o_ext rfl e16)) ?_
  obtain ⟨v17, e17, z3⟩ := bindO_inv z2
  obtain ⟨x17, rfl, z4⟩ := asI_inv z3
  refine wo_step (s_pure (o_ext rfl e17)) (wo_step (v := v16) (s_pure (p_mv rfl)) (wo_step (v := (.i .i64 x17)) (s_pure (p_mv rfl)) (wo_nil (nx_norm (w_seq (w_seq (w_ops (wo_step (v := (.i .i64 x17)) (s_pure (p_mv rfl)) ?_))))))))
  obtain ⟨c19, e19, z5⟩ := forceB_inv z4
  refine wo_step (s_pure (p_bin rfl rfl (b_neq.trans (cb e19)))) (wo_nil (nx_norm ?_))
  rcases cond_inv z5 with ⟨rfl, z6⟩ | ⟨rfl, z6⟩
  · refine w_condT rfl ?_
    refine w_seq (w_ops (wo_step (v := (.i .i64 x17)) (s_pure (p_mv rfl)) (wo_step (v := (.i .i64 0)) (s_pure (p_mv rfl)) (wo_step (v := (.i .i64 x17)) (s_pure (p_mv rfl)) (wo_nil (nx_norm ?_))))))
    refine w_ret ?_
    refine nx_ret ?_
    exact qf ret_ok (rt rfl (rt rfl rn)) z6
  · refine w_condF rfl ?_
    refine w_skip (nx_norm (w_seq (w_ops (wo_step (v := v16) (s_pure (p_mv rfl)) (wo_step (s_pure (p_mv g2)) ?_)))))
    obtain ⟨v23, m_2, e23, z7⟩ := bindP_inv z6
    refine wo_step (s_call (mc rfl (mc rfl mn)) (callM_le hM.call e23)) (wo_step (s_pure (p_mv g2)) ?_)
    obtain ⟨v25, e25, z8⟩ := bindO_inv z7
    refine wo_step (s_pure (o_ixS rfl rfl e25)) ?_
    obtain ⟨v26, e26, z9⟩ := bindO_inv z8
    refine wo_step (s_ld rfl e26) (wo_step (s_pure (p_mv g1)) ?_)
    obtain ⟨v28, m_3, e28, z10⟩ := bindP_inv z9
    obtain ⟨x28, rfl, z11⟩ := asI_inv z10
    refine wo_step (s_call (mc rfl (mc rfl mn)) (callM_le hM.call e28)) (wo_step (v := (.i .u64 x28)) (s_pure (p_mv rfl)) (wo_nil (nx_norm (w_seq (w_seq (w_ops (wo_step (v := (.i .u64 x28)) (s_pure (p_mv rfl)) ?_)))))))
    obtain ⟨c30, e30, z12⟩ := forceB_inv z11
    refine wo_step (s_pure (p_bin rfl rfl (b_gtr.trans (cb e30)))) (wo_nil (nx_norm ?_))
    rcases cond_inv z12 with ⟨rfl, z13⟩ | ⟨rfl, z13⟩
    · refine w_condT rfl ?_
      refine w_seq (w_ops (wo_step (v := (.i .i64 0)) (s_pure (p_mv rfl)) (wo_step (v := (.i .i64 4)) (s_pure (p_mv rfl)) (wo_nil (nx_norm ?_)))))
      refine w_ret ?_
      refine nx_ret ?_
      exact qf ret_ok (rt rfl (rt rfl rn)) z13
    · refine w_condF rfl ?_
      refine w_skip (nx_norm (w_seq (w_ops (wo_step (v := (.i .u64 x28)) (s_pure (p_mv rfl)) ?_))))
      obtain ⟨x32, e32, z14⟩ := forceI_inv z13
      refine wo_step (s_pure ((p_conv rfl).trans (ci e32))) (wo_step (v := (.i .i64 x32)) (s_pure (p_mv rfl)) (wo_step (v := (.i .i64 0)) (s_pure (p_mv rfl)) (wo_nil (nx_norm ?_))))
      refine w_ret ?_
      exact qf ret_ok (rt rfl (rt rfl rn)) z14
/- dibber/vine.Same -/
abbrev g30_I0 (s1 : List UInt8) (s3 : List UInt8) (v36 : AVal) (v39 : AVal) (x33 : Int) (s : Int × Mm) (m1 : Mm) (t1 : Tr) : Prop :=
  match s with
  | (x41, m_4) => m_4 = m1 ∧ t1.get 41 = (.i .i64 x41) ∧ t1.get 1 = (.s s1) ∧ t1.get 3 = (.s s3) ∧ t1.get 14 = v36 ∧ t1.get 15 = v39 ∧ t1.get 40 = (.i .i64 x33)
abbrev g30_J0 (s1 : List UInt8) (s3 : List UInt8) (v36 : AVal) (v39 : AVal) (x33 : Int) (o : (Mm ⊕ (Int × Int × Mm))) (e : AExit) (m1 : Mm) (t1 : Tr) : Prop :=
  match o with
  | (.inl mo) => e = (.exit 0) ∧ mo = m1
  | (.inr (y8, y9, mo)) => e = .ret ∧ mo = m1 ∧ t1.get 8 = (.i .i64 y8) ∧ t1.get 9 = (.i .i64 y9)
def g30_b0 (M : Means) (ro : List ABlk) (s1 : List UInt8) (s3 : List UInt8) (v36 : AVal) (v39 : AVal) (x33 : Int) (x41 : Int) (m_4 : Mm) : Option ((Int × Mm) ⊕ ((Mm ⊕ (Int × Int × Mm)))) :=
  forceB (ltI x41 x33) fun c42 =>
  cond c42 (
    bindO (some (Mm.base m_4)) fun m_5 =>
    bindO (evP .e (.ixS 1 (.c v36) (.c (.i .i64 x41)))) fun v46 =>
    bindO (ldM ro m_5 true 1 v46) fun v47 =>
    bindP (callM M.call m_5 49 [v47, (.s s1)]) fun v49 m_6 =>
    asI .u64 v49 fun x49 =>
    chk (!Nat.blt m_6.lw m_4.h.length) <|
    bindO (evP .e (.ixS 1 (.c v39) (.c (.i .i64 x41)))) fun v52 =>
    bindO (ldA ro m_4.h true 1 v52) fun v53 =>
    bindP (callM M.call m_6 49 [v53, (.s s3)]) fun v55 m_7 =>
    asI .u64 v55 fun x55 =>
    forceB (!eqI x49 x55) fun c56 =>
    bindO (some (Mm.join m_4 m_7)) fun m_8 =>
    cond c56 (
      some (.inr (.inr (x41, 0, m_8)))) (
      forceI (wr .i64 (x41 + 1)) fun x58 =>
      some (.inl (x58, m_8)))) (
    some (.inr (.inl m_4)))
def g30 (M : Means) (ro : List ABlk) (v0 : AVal) (s1 : List UInt8) (v2 : AVal) (s3 : List UInt8) (m0 : Mm) : Option (AVal × Heap × Nat × Nat) :=
  bindP (callM M.call m0 69 [v0, (.s s1), v2, (.s s3)]) fun v22 m_1 =>
  bindO (evP .e (.ext 0 (.c v22))) fun v23 =>
  bindO (evP .e (.ext 1 (.c v22))) fun v24 =>
  bindO (evP .e (.ext 2 (.c v22))) fun v25 =>
  asI .i64 v25 fun x25 =>
  forceB (!eqI x25 0) fun c27 =>
  cond c27 (
    finM m0.h.length (tupA [(.i .i64 0), (.i .i64 x25)]) m_1) (
    bindO (evP .e (.len false (.c v23))) fun v30 =>
    asI .i64 v30 fun x30 =>
    bindO (evP .e (.len false (.c v24))) fun v32 =>
    asI .i64 v32 fun x32 =>
    forceI (wr .i64 (x30 + x32)) fun x33 =>
    bindP (callM M.call m_1 48 [v23, (.i .i64 x33)]) fun v36 m_2 =>
    bindP (callM M.call m_2 48 [v24, (.i .i64 x33)]) fun v39 m_3 =>
    bindO (M.loop (S := Int × Mm) (R := (Mm ⊕ (Int × Int × Mm))) (fun s => g30_b0 M ro s1 s3 v36 v39 x33 s.1 s.2) (0, m_3)) fun o => match o with
    | (.inl m_9) =>
      finM m0.h.length (tupA [(.i .i64 0), (.i .i64 10)]) m_9
    | (.inr (x8, x9, m_10)) =>
      finM m0.h.length (tupA [(.i .i64 x8), (.i .i64 x9)]) m_10)
theorem g30_ok {ro : List ABlk} {O : Caller} {M : Means} (hM : M.Ok ⟨F, O⟩ ro) {v0 s1 v2 s3 h r} (ho : O 30 [v0, (.s s1), v2, (.s s3)] h = none) (hr : g30 M ro v0 s1 v2 s3 ⟨h, h.length, h.length⟩ = some r) : callX ⟨F, O⟩ ro 30 [v0, (.s s1), v2, (.s s3)] h = some r := by
  refine callX_of (F := ⟨F, O⟩) (fn := fn30) (g := g30 M ro v0 s1 v2 s3) ho rfl rfl hr ?_
  clear ho
  clear hr
  intro m0 t0 ht hr
  have g0 : t0.get 0 = v0 := ht 0
  have g1 : t0.get 1 = (.s s1) := ht 1
  have g2 : t0.get 2 = v2 := ht 2
  have g3 : t0.get 3 = (.s s3) := ht 3
  clear ht
  unfold g30 at hr
  refine w_seq (w_ops (wo_step (v := (.i .i64 0)) (s_pure (p_mv rfl)) (wo_step (v := (.i .i64 0)) (s_pure (p_mv rfl)) (wo_nil (nx_norm (w_seq (w_ops (wo_step (s_pure (p_mv g0)) (wo_step (s_pure (p_mv g1)) (wo_step (s_pure (p_mv g2)) (wo_step (s_pure (p_mv g3)) ?_)))))))))))
  obtain ⟨v22, m_1, e22, z1⟩ := bindP_inv hr
  refine wo_step (s_call (mc rfl (mc rfl (mc rfl (mc rfl mn)))) (callM_le hM.call e22)) (wo_step (v := v22) (s_pure (p_mv rfl)) ?_)
  obtain ⟨v23, e23, z2⟩ := bindO_inv z1
  refine wo_step (s_pure (o_ext rfl e23)) ?_
  obtain ⟨v24, e24, z3⟩ := bindO_inv z2
  refine wo_step (s_pure (o_ext rfl e24)) ?_
  obtain ⟨v25, e25, z4⟩ := bindO_inv z3
  obtain ⟨x25, rfl, z5⟩ := asI_inv z4
  refine wo_step (s_pure (o_ext rfl e25)) (wo_step (v := v23) (s_pure (p_mv rfl)) (wo_step (v := v24) (s_pure (p_mv rfl)) (wo_step (v := (.i .i64 x25)) (s_pure (p_mv rfl)) (wo_nil (nx_norm (w_seq (w_seq (w_ops (wo_step (v := (.i .i64 x25)) (s_pure (p_mv rfl)) ?_)))))))))
  obtain ⟨c27, e27, z6⟩ := forceB_inv z5
  refine wo_step (s_pure (p_bin rfl rfl (b_neq.trans (cb e27)))) (wo_nil (nx_norm ?_))
  rcases cond_inv z6 with ⟨rfl, z7⟩ | ⟨rfl, z7⟩
  · refine w_condT rfl ?_
    refine w_seq (w_ops (wo_step (v := (.i .i64 x25)) (s_pure (p_mv rfl)) (wo_step (v := (.i .i64 0)) (s_pure (p_mv rfl)) (wo_step (v := (.i .i64 x25)) (s_pure (p_mv rfl)) (wo_nil (nx_norm ?_))))))
    refine w_ret ?_
    refine nx_ret ?_
    exact qf ret_ok (rt rfl (rt rfl rn)) z7
  · refine w_condF rfl ?_
    refine w_skip (nx_norm (w_seq (w_ops (wo_step (v := v23) (s_pure (p_mv rfl)) ?_))))
    obtain ⟨v30, e30, z8⟩ := bindO_inv z7
    obtain ⟨x30, rfl, z9⟩ := asI_inv z8
    refine wo_step (s_pure (o_len rfl e30)) (wo_step (v := v24) (s_pure (p_mv rfl)) ?_)
    obtain ⟨v32, e32, z10⟩ := bindO_inv z9
    obtain ⟨x32, rfl, z11⟩ := asI_inv z10
    refine wo_step (s_pure (o_len rfl e32)) ?_
    obtain ⟨x33, e33, z12⟩ := forceI_inv z11
    refine wo_step (s_pure (p_bin rfl rfl (b_add.trans (ci e33)))) (wo_step (v := (.i .i64 x33)) (s_pure (p_mv rfl)) (wo_nil (nx_norm (w_seq (w_ops (wo_step (v := v23) (s_pure (p_mv rfl)) (wo_step (v := (.i .i64 x33)) (s_pure (p_mv rfl)) ?_)))))))
    obtain ⟨v36, m_2, e36, z13⟩ := bindP_inv z12
    refine wo_step (s_call (mc rfl (mc rfl mn)) (callM_le hM.call e36)) (wo_step (v := v24) (s_pure (p_mv rfl)) (wo_step (v := (.i .i64 x33)) (s_pure (p_mv rfl)) ?_))
    obtain ⟨v39, m_3, e39, z14⟩ := bindP_inv z13
    refine wo_step (s_call (mc rfl (mc rfl mn)) (callM_le hM.call e39)) (wo_step (v := v36) (s_pure (p_mv rfl)) (wo_step (v := v39) (s_pure (p_mv rfl)) (wo_nil (nx_norm (w_seq (w_seq (w_ops (wo_step (v := (.i .i64 x33)) (s_pure (p_mv rfl)) (wo_step (v := (.i .i64 0)) (s_pure (p_mv rfl)) (wo_nil (nx_norm ?_)))))))))))
    refine w_block ?_
    obtain ⟨o, hl, z15⟩ := bindO_inv z14
    obtain ⟨n, hl⟩ := hM.loop _ _ _ hl
    refine jp_mono (w_loop _ (g30_I0 s1 s3 v36 v39 x33) (g30_J0 s1 s3 v36 v39 x33) ?_ n _ _ _ _ hl ⟨rfl, gl rfl, gl g1, gl g3, gl rfl, gl rfl, gl rfl⟩) ?_
    · clear z15 hl
      intro s mm_2 t_1 o hi hr
      obtain ⟨x41, m_4⟩ := s
      obtain ⟨rfl, g41, g1, g3, g14, g15, g40⟩ := hi
      unfold g30_b0 at hr
      refine w_seq (w_ops ?_)
      obtain ⟨c42, e42, z16⟩ := forceB_inv hr
      refine wo_step (s_pure (p_bin g41 g40 (b_lss.trans (cb e42)))) (wo_nil (nx_norm (w_seq ?_)))
      rcases cond_inv z16 with ⟨rfl, z17⟩ | ⟨rfl, z17⟩
      · refine w_condT rfl ?_
        refine w_skip (nx_norm (w_seq ?_))
        refine w_block ?_
        refine w_seq (w_ops (wo_step (s_pure (p_mv g41)) (wo_step (v := (.i .i64 x41)) (s_pure (p_mv rfl)) (wo_nil (nx_norm (w_seq ?_))))))
        obtain ⟨m_5, ef, z18⟩ := bindO_inv z17
        refine w_flt (af := true) rfl ef ?_
        refine wf_step (v := v36) (f_P rfl (s_pure (p_mv g14))) ?_
        refine wf_step (v := (.i .i64 x41)) (f_P rfl (s_pure (p_mv rfl))) ?_
        obtain ⟨v46, e46, z19⟩ := bindO_inv z18
        refine wf_step (v := v46) (f_P rfl (s_pure (o_ixS rfl rfl e46))) ?_
        obtain ⟨v47, e47, z20⟩ := bindO_inv z19
        refine wf_step (v := v47) (f_P rfl (s_ld rfl e47)) ?_
        refine wf_step (v := (.s s1)) (f_P rfl (s_pure (p_mv g1))) ?_
        obtain ⟨v49, m_6, e49, z21⟩ := bindP_inv z20
        obtain ⟨x49, rfl, z22⟩ := asI_inv z21
        obtain ⟨hc49, z23⟩ := chk_inv z22
        refine wf_step (v := (.i .u64 x49)) (f_M hc49 (s_call (mc rfl (mc rfl mn)) (callM_le hM.call e49))) ?_
        refine wf_step (v := v39) (f_P rfl (s_pure (p_mv g15))) ?_
        refine wf_step (v := (.i .i64 x41)) (f_P rfl (s_pure (p_mv rfl))) ?_
        obtain ⟨v52, e52, z24⟩ := bindO_inv z23
        refine wf_step (v := v52) (f_P rfl (s_pure (o_ixS rfl rfl e52))) ?_
        obtain ⟨v53, e53, z25⟩ := bindO_inv z24
        refine wf_step (v := v53) (f_ld rfl e53) ?_
        refine wf_step (v := (.s s3)) (f_P rfl (s_pure (p_mv g3))) ?_
        obtain ⟨v55, m_7, e55, z26⟩ := bindP_inv z25
        obtain ⟨x55, rfl, z27⟩ := asI_inv z26
        refine wf_step (v := (.i .u64 x55)) (f_F rfl (s_call (mc rfl (mc rfl mn)) (callM_le hM.call e55))) ?_
        obtain ⟨c56, e56, z28⟩ := forceB_inv z27
        refine wf_step (v := (.b c56)) (f_P rfl (s_pure (p_bin rfl rfl (b_neq.trans (cb e56))))) ?_
        obtain ⟨m_8, ef_1, z29⟩ := bindO_inv z28
        refine wf_end ef_1 ?_
        refine nx_norm ?_
        rcases cond_inv z29 with ⟨rfl, z30⟩ | ⟨rfl, z30⟩
        · refine w_condT rfl ?_
          refine w_seq (w_ops (wo_step (v := (.i .i64 x41)) (s_pure (p_mv rfl)) (wo_step (v := (.i .i64 x41)) (s_pure (p_mv rfl)) (wo_step (v := (.i .i64 0)) (s_pure (p_mv rfl)) (wo_nil (nx_norm ?_))))))
          refine w_ret ?_
          refine bk_ret ?_
          refine nx_ret ?_
          cases z30
          exact ⟨_, _, rfl, ne_norm_ret, rfl, rfl, gl rfl, gl rfl⟩
        · refine w_condF rfl ?_
          refine w_skip ?_
          refine bk_norm ?_
          refine nx_norm (w_ops ?_)
          obtain ⟨x58, e58, z31⟩ := forceI_inv z30
          refine wo_step (s_pure (p_bin g41 rfl (b_add.trans (ci e58)))) (wo_step (v := (.i .i64 x58)) (s_pure (p_mv rfl)) (wo_nil ?_))
          cases z31
          exact ⟨_, _, rfl, rfl, rfl, gl rfl, gl g1, gl g3, gl g14, gl g15, gl g40⟩
      · refine w_condF rfl ?_
        refine w_exit ?_
        refine nx_exit ?_
        cases z17
        exact ⟨_, _, rfl, ne_norm_exit, rfl, rfl⟩
    · rcases o with o | o
      · obtain ⟨m_9, ho⟩ : ∃ z, z = o := ⟨_, rfl⟩
        subst ho
        rintro _ mm t_2 ⟨rfl, rfl⟩
        refine bk_hit ?_
        refine nx_norm (w_seq (w_ops (wo_step (v := (.i .i64 0)) (s_pure (p_mv rfl)) (wo_step (v := (.i .i64 10)) (s_pure (p_mv rfl)) (wo_nil (nx_norm ?_))))))
        refine w_ret ?_
        exact qf ret_ok (rt rfl (rt rfl rn)) z15
      · obtain ⟨x8, x9, m_10⟩ := o
        rintro _ mm_1 t_3 ⟨rfl, rfl, g8, g9⟩
        refine bk_ret ?_
        refine nx_ret ?_
        exact qf ret_ok (rt g8 (rt g9 rn)) z15
/- dibber/vine.Factors -/
abbrev g38_J0 (x2 : Int) (v20 : AVal) (x21 : Int) (m_1 : Mm) (o : Bool) (m1 : Mm) (t1 : Tr) : Prop :=
  match o with
  | c31 => m_1 = m1 ∧ t1.get 31 = (.b c31) ∧ t1.get 2 = (.i .i64 x2) ∧ t1.get 8 = v20 ∧ t1.get 9 = (.i .i64 x21)
abbrev k38a0 : ACode := (.ops [(.mk (some 13) none (.pure (.mv (.t 36))))])
abbrev k38c0 : ACode := (.block 1 (.ops [(.mk (some 37) none (.ld true 1 (.t 11))), (.mk (some 38) none (.pure (.mv (.t 13)))), (.mk (some 39) none (.bsl 5 1 [(.i .u8 0)] 1 [((0, 1), (.t 38))])), (.mk (some 40) none (.app 5 1 1 [(.i .u8 0)] (.t 37) (.t 39))), (.mk none none (.st 1 (.t 11) (.t 40)))]))
abbrev g38_P0 (v11 : AVal) (t1 : Tr) : Prop := True ∧ t1.get 11 = v11
def g38_r0 (M : Means) (ro : List ABlk) (v11 : AVal) (b : Nat) (v35 : AVal) (v36 : AVal) (m0 : Mm) : Option (AVal × Heap × Nat × Nat) :=
  bindO (rndB b m0) fun m_4 =>
  bindO (ldM ro m_4 true 1 v11) fun v37 =>
  bindP (stepM ro m_4 (.bsl 5 1 [(AVal.i IntKind.u8 0)] 1 [((0, 1), .c v36)])) fun v39 m_5 =>
  bindP (stepM ro m_5 (.app 5 1 1 [(AVal.i IntKind.u8 0)] (.c v37) (.c v39))) fun v40 m_6 =>
  bindP (stepM ro m_6 (.st 1 (.c v11) (.c v40))) fun vn m_7 =>
  rndE m0.h.length b .norm m_7
abbrev g38_I1 (x2 : Int) (v11 : AVal) (v41 : AVal) (s : Int × Mm) (m1 : Mm) (t1 : Tr) : Prop :=
  match s with
  | (x15, m_10) => m_10 = m1 ∧ t1.get 15 = (.i .i64 x15) ∧ t1.get 2 = (.i .i64 x2) ∧ t1.get 11 = v11 ∧ t1.get 14 = v41
abbrev g38_J1 (x2 : Int) (v11 : AVal) (v41 : AVal) (o : Mm) (e : AExit) (m1 : Mm) (t1 : Tr) : Prop :=
  match o with
  | mo => e = (.exit 2) ∧ mo = m1 ∧ t1.get 14 = v41
def g38_b1 (M : Means) (ro : List ABlk) (x2 : Int) (v11 : AVal) (v41 : AVal) (x15 : Int) (m_10 : Mm) : Option ((Int × Mm) ⊕ (Mm)) :=
  bindO (ldM ro m_10 true 1 v11) fun v44 =>
  bindO (evP .e (.len false (.c v44))) fun v45 =>
  asI .i64 v45 fun x45 =>
  forceB (!ltI x45 x15) fun c46 =>
  cond c46 (
    bindO (ldM ro m_10 true 1 v11) fun v50 =>
    forceI (wr .i64 (x15 - x2)) fun x53 =>
    bindO (evP .e (.slS 1 (.c v50) (some (.c (.i .i64 x53))) (some (.c (.i .i64 x15))) none)) fun v55 =>
    bindO (btsM ro m_10 v55) fun v56 =>
    asS v56 fun s56 =>
    bindP (stepM ro m_10 (.mup (.c v41) (.c (.s s56)) (.c (.b true)))) fun vn_1 m_11 =>
    forceI (wr .i64 (x15 + 1)) fun x48 =>
    some (.inl (x48, m_11))) (
    some (.inr m_10))
noncomputable def g38 (M : Means) (ro : List ABlk) (v0 : AVal) (s1 : List UInt8) (x2 : Int) (m0 : Mm) : Option (AVal × Heap × Nat × Nat) :=
  bindP (callM M.call m0 74 [v0, (.s s1)]) fun v19 m_1 =>
  bindO (evP .e (.ext 0 (.c v19))) fun v20 =>
  bindO (evP .e (.ext 1 (.c v19))) fun v21 =>
  asI .i64 v21 fun x21 =>
  bindO (evP .e (.ext 2 (.c v19))) fun v22 =>
  asI .i64 v22 fun x22 =>
  forceB (!eqI x22 0) fun c24 =>
  cond c24 (
    finM m0.h.length (tupA [(.i .i64 0), (.i .i64 x22)]) m_1) (
    forceB (ltI x2 1) fun c27 =>
    bindO (cond c27 (
      some true) (
      forceB (ltI 10 x2) fun c30 =>
      some c30)) fun c31 =>
    cond c31 (
      finM m0.h.length (tupA [(.i .i64 0), (.i .i64 2)]) m_1) (
      bindP (stepM ro m_1 (.al 52 [AVal.nsl])) fun v11 m_2 =>
      bindP (callM M.call m_2 75 [v20, (.i .i64 x21)]) fun v34 m_3 =>
      rngK M.call (g38_P0 v11) [35, 36] k38a0 k38c0 v34 m_3 fun ⟨ex, m_8⟩ => onE ex (
        bindP (stepM ro m_8 .mkm) fun v41 m_9 =>
        bindO (M.loop (S := Int × Mm) (R := Mm) (fun s => g38_b1 M ro x2 v11 v41 s.1 s.2) (x2, m_9)) fun m_12 =>
        bindP (stepM ro m_12 (.mln (.c v41))) fun v58 m_13 =>
        asI .i64 v58 fun x58 =>
        finM m0.h.length (tupA [(.i .i64 x58), (.i .i64 0)]) m_13) (
        none) (fun ix =>
        none)))
theorem g38_r0_ok {ro : List ABlk} {O : Caller} {M : Means} (hM : M.Ok ⟨F, O⟩ ro) {v11} {v35} {v36} {b h r bk t p} (hb : lget h b = some (some bk)) (hg : bk.g = some (.lp ⟨t, [35, 36], k38a0, k38c0⟩ .ready p)) (hP : g38_P0 v11 t) (hr : g38_r0 M ro v11 b v35 v36 ⟨h, h.length, h.length⟩ = some r) : roundX ⟨F, O⟩ ro b [v35, v36] h = some r := by
  refine roundX_on (F := ⟨F, O⟩) (g := g38_r0 M ro v11 b v35 v36) hb hg rfl hr ?_
  clear hb hg hr
  intro m0 t0 ht hr
  obtain ⟨-, g11⟩ := hP
  have g35 : t0.get 35 = v35 := by rw [ht]; simp [putPs, get_set]
  have g36 : t0.get 36 = v36 := by rw [ht]; simp [putPs, get_set]
  have g11 : t0.get 11 = v11 := by rw [ht]; simp only [putPs, get_set]; simpa using g11
  clear ht
  unfold g38_r0 at hr
  show W _ _ k38a0 _ _
  unfold k38a0
  refine w_ops (wo_step (s_pure (p_mv g36)) (wo_nil ?_))
  obtain ⟨m_4, eb, z1⟩ := bindO_inv hr
  refine qb eb ?_
  unfold k38c0
  refine w_block ?_
  refine w_ops ?_
  obtain ⟨v37, e37, z2⟩ := bindO_inv z1
  refine wo_step (s_ld g11 e37) (wo_step (v := v36) (s_pure (p_mv rfl)) ?_)
  obtain ⟨v39, m_5, e39, z3⟩ := bindP_inv z2
  refine wo_step (s_bsl (qc rfl qn) e39) ?_
  obtain ⟨v40, m_6, e40, z4⟩ := bindP_inv z3
  refine wo_step (s_app rfl rfl e40) ?_
  obtain ⟨vn, m_7, en, z5⟩ := bindP_inv z4
  refine wo_stepN (s_st g11 rfl en) ?_
  refine wo_nil ?_
  refine bk_norm ?_
  exact z5

theorem g38_ok {ro : List ABlk} {O : Caller} {M : Means} (hM : M.Ok ⟨F, O⟩ ro) {v0 s1 x2 h r} (ho : O 38 [v0, (.s s1), (.i .i64 x2)] h = none) (hr : g38 M ro v0 s1 x2 ⟨h, h.length, h.length⟩ = some r) : callX ⟨F, O⟩ ro 38 [v0, (.s s1), (.i .i64 x2)] h = some r := by
  refine callX_of (F := ⟨F, O⟩) (fn := fn38) (g := g38 M ro v0 s1 x2) ho rfl rfl hr ?_
  clear ho
  clear hr
  intro m0 t0 ht hr
  have g0 : t0.get 0 = v0 := ht 0
  have g1 : t0.get 1 = (.s s1) := ht 1
  have g2 : t0.get 2 = (.i .i64 x2) := ht 2
  clear ht
  unfold g38 at hr
  refine w_seq (w_ops (wo_step (v := (.i .i64 0)) (s_pure (p_mv rfl)) (wo_step (v := (.i .i64 0)) (s_pure (p_mv rfl)) (wo_nil (nx_norm (w_seq (w_ops (wo_step (s_pure (p_mv g0)) (wo_step (s_pure (p_mv g1)) ?_)))))))))
  obtain ⟨v19, m_1, e19, z1⟩ := bindP_inv hr
  refine wo_step (s_call (mc rfl (mc rfl mn)) (callM_le hM.call e19)) (wo_step (v := v19) (s_pure (p_mv rfl)) ?_)
  obtain ⟨v20, e20, z2⟩ := bindO_inv z1
  refine wo_step (s_pure (o_ext rfl e20)) ?_
  obtain ⟨v21, e21, z3⟩ := bindO_inv z2
  obtain ⟨x21, rfl, z4⟩ := asI_inv z3
  refine wo_step (s_pure (o_ext rfl e21)) ?_
  obtain ⟨v22, e22, z5⟩ := bindO_inv z4
  obtain ⟨x22, rfl, z6⟩ := asI_inv z5
  refine wo_step (s_pure (o_ext rfl e22)) (wo_step (v := v20) (s_pure (p_mv rfl)) (wo_step (v := (.i .i64 x21)) (s_pure (p_mv rfl)) (wo_step (v := (.i .i64 x22)) (s_pure (p_mv rfl)) (wo_nil (nx_norm (w_seq (w_seq (w_ops (wo_step (v := (.i .i64 x22)) (s_pure (p_mv rfl)) ?_)))))))))
  obtain ⟨c24, e24, z7⟩ := forceB_inv z6
  refine wo_step (s_pure (p_bin rfl rfl (b_neq.trans (cb e24)))) (wo_nil (nx_norm ?_))
  rcases cond_inv z7 with ⟨rfl, z8⟩ | ⟨rfl, z8⟩
  · refine w_condT rfl ?_
    refine w_seq (w_ops (wo_step (v := (.i .i64 x22)) (s_pure (p_mv rfl)) (wo_step (v := (.i .i64 0)) (s_pure (p_mv rfl)) (wo_step (v := (.i .i64 x22)) (s_pure (p_mv rfl)) (wo_nil (nx_norm ?_))))))
    refine w_ret ?_
    refine nx_ret ?_
    exact qf ret_ok (rt rfl (rt rfl rn)) z8
  · refine w_condF rfl ?_
    refine w_skip (nx_norm (w_seq (w_seq (w_ops (wo_step (s_pure (p_mv g2)) ?_)))))
    obtain ⟨c27, e27, z9⟩ := forceB_inv z8
    refine wo_step (s_pure (p_bin rfl rfl (b_lss.trans (cb e27)))) (wo_step (v := (.b c27)) (s_pure (p_mv rfl)) ?_)
    obtain ⟨o, z10, hk⟩ := bindO_inv z9
    refine wo_join 3 (g38_J0 x2 v20 x21 m_1 o) ?_ ?_
    · clear hk
      rcases cond_inv z10 with ⟨rfl, z11⟩ | ⟨rfl, z11⟩
      · refine wo_skip (v := (.b true)) rfl rfl (wo_skip (v := (.b true)) rfl rfl (wo_step (v := (.b true)) (s_pure (p_pickT rfl rfl)) (wo_nil ?_)))
        cases z11
        exact ⟨_, _, rfl, rfl, gl rfl, gl g2, gl rfl, gl rfl⟩
      · refine wo_take (v := (.i .i64 x2)) rfl (s_pure (p_mv g2)) ?_
        obtain ⟨c30, e30, z12⟩ := forceB_inv z11
        refine wo_take (v := (.b c30)) rfl (s_pure (p_bin rfl rfl (b_gtr.trans (cb e30)))) (wo_step (v := (.b c30)) (s_pure (p_pickF rfl rfl)) (wo_nil ?_))
        cases z12
        exact ⟨_, _, rfl, rfl, gl rfl, gl g2, gl rfl, gl rfl⟩
    · clear z10
      have hr := hk
      clear hk
      obtain ⟨c31, ho⟩ : ∃ z, z = o := ⟨_, rfl⟩
      subst ho
      rintro mm t_1 ⟨rfl, g31, g2, g8, g9⟩
      refine wo_nil (nx_norm ?_)
      rcases cond_inv hr with ⟨rfl, z13⟩ | ⟨rfl, z13⟩
      · refine w_condT g31 ?_
        refine w_seq (w_ops (wo_step (v := (.i .i64 0)) (s_pure (p_mv rfl)) (wo_step (v := (.i .i64 2)) (s_pure (p_mv rfl)) (wo_nil (nx_norm ?_)))))
        refine w_ret ?_
        refine nx_ret ?_
        exact qf ret_ok (rt rfl (rt rfl rn)) z13
      · refine w_condF g31 ?_
        refine w_skip (nx_norm (w_seq (w_ops ?_)))
        obtain ⟨v11, m_2, e11, z14⟩ := bindP_inv z13
        refine wo_step (s_al e11) (wo_nil (nx_norm (w_seq (w_seq (w_ops (wo_step (s_pure (p_mv g8)) (wo_step (s_pure (p_mv g9)) ?_)))))))
        obtain ⟨v34, m_3, e34, z15⟩ := bindP_inv z14
        refine wo_step (s_call (mc rfl (mc rfl mn)) (callM_le hM.call e34)) (wo_nil (nx_norm ?_))
        refine w_block ?_
        refine w_rngK hM.call rfl z15 ⟨trivial, gl rfl⟩ ?_
        clear z15
        intro ex m_8 hr
        rcases onE_inv hr with ⟨rfl, z16⟩ | ⟨rfl, z16⟩ | ⟨ix, rfl, z16⟩
        · refine bk_norm ?_
          refine nx_norm (w_seq (w_ops ?_))
          obtain ⟨v41, m_9, e41, z17⟩ := bindP_inv z16
          refine wo_step (s_mkm e41) (wo_step (v := v41) (s_pure (p_mv rfl)) (wo_nil (nx_norm (w_seq (w_seq (w_ops (wo_step (s_pure (p_mv g2)) (wo_step (v := (.i .i64 x2)) (s_pure (p_mv rfl)) (wo_nil (nx_norm ?_))))))))))
          refine w_block ?_
          obtain ⟨o_1, hl, z18⟩ := bindO_inv z17
          obtain ⟨n, hl⟩ := hM.loop _ _ _ hl
          refine jp_mono (w_loop _ (g38_I1 x2 v11 v41) (g38_J1 x2 v11 v41) ?_ n _ _ _ _ hl ⟨rfl, gl rfl, gl g2, gl rfl, gl rfl⟩) ?_
          · clear z18 hl
            intro s mm_2 t_2 o hi hr
            obtain ⟨x15, m_10⟩ := s
            obtain ⟨rfl, g15, g2, g11, g14⟩ := hi
            unfold g38_b1 at hr
            refine w_seq (w_seq (w_ops (wo_step (s_pure (p_mv g15)) ?_)))
            obtain ⟨v44, e44, z19⟩ := bindO_inv hr
            refine wo_step (s_ld g11 e44) ?_
            obtain ⟨v45, e45, z20⟩ := bindO_inv z19
            obtain ⟨x45, rfl, z21⟩ := asI_inv z20
            refine wo_step (s_pure (o_len rfl e45)) ?_
            obtain ⟨c46, e46, z22⟩ := forceB_inv z21
            refine wo_step (s_pure (p_bin rfl rfl (b_leq.trans (cb e46)))) (wo_nil (nx_norm ?_))
            rcases cond_inv z22 with ⟨rfl, z23⟩ | ⟨rfl, z23⟩
            · refine w_condT rfl ?_
              refine w_skip (nx_norm (w_seq ?_))
              refine w_block ?_
              refine w_ops (wo_step (s_pure (p_mv g14)) ?_)
              obtain ⟨v50, e50, z24⟩ := bindO_inv z23
              refine wo_step (s_ld g11 e50) (wo_step (s_pure (p_mv g15)) (wo_step (s_pure (p_mv g2)) ?_))
              obtain ⟨x53, e53, z25⟩ := forceI_inv z24
              refine wo_step (s_pure (p_bin rfl rfl (b_sub.trans (ci e53)))) (wo_step (s_pure (p_mv g15)) ?_)
              obtain ⟨v55, e55, z26⟩ := bindO_inv z25
              refine wo_step (s_pure (o_slS rfl (os rfl) (os rfl) on e55)) ?_
              obtain ⟨v56, e56, z27⟩ := bindO_inv z26
              obtain ⟨s56, rfl, z28⟩ := asS_inv z27
              refine wo_step (s_bts rfl e56) ?_
              obtain ⟨vn_1, m_11, en_1, z29⟩ := bindP_inv z28
              refine wo_stepN (s_mup rfl rfl rfl en_1) ?_
              refine wo_nil ?_
              refine bk_norm ?_
              refine nx_norm (w_ops (wo_step (s_pure (p_mv g15)) ?_))
              obtain ⟨x48, e48, z30⟩ := forceI_inv z29
              refine wo_step (s_pure (p_bin rfl rfl (b_add.trans (ci e48)))) (wo_step (v := (.i .i64 x48)) (s_pure (p_mv rfl)) (wo_nil ?_))
              cases z30
              exact ⟨_, _, rfl, rfl, rfl, gl rfl, gl g2, gl g11, gl g14⟩
            · refine w_condF rfl ?_
              refine w_exit ?_
              refine nx_exit ?_
              cases z23
              exact ⟨_, _, rfl, ne_norm_exit, rfl, rfl, gl g14⟩
          · obtain ⟨m_12, ho⟩ : ∃ z, z = o_1 := ⟨_, rfl⟩
            subst ho
            rintro _ mm_1 t_3 ⟨rfl, rfl, g14⟩
            refine bk_hit ?_
            refine nx_norm (w_seq (w_ops (wo_step (s_pure (p_mv g14)) ?_)))
            obtain ⟨v58, m_13, e58, z31⟩ := bindP_inv z18
            obtain ⟨x58, rfl, z32⟩ := asI_inv z31
            refine wo_step (s_mln rfl e58) (wo_step (v := (.i .i64 x58)) (s_pure (p_mv rfl)) (wo_step (v := (.i .i64 0)) (s_pure (p_mv rfl)) (wo_nil (nx_norm ?_))))
            refine w_ret ?_
            exact qf ret_ok (rt rfl (rt rfl rn)) z32
        · cases z16
        · cases z16
/- dibber/vine.Recurrence -/
abbrev g40_I0 (v24 : AVal) (v27 : AVal) (x32 : Int) (s : AVal × Int × Mm) (m1 : Mm) (t1 : Tr) : Prop :=
  match s with
  | (v10, x33, m_5) => m_5 = m1 ∧ t1.get 10 = v10 ∧ t1.get 33 = (.i .i64 x33) ∧ t1.get 8 = v24 ∧ t1.get 9 = v27 ∧ t1.get 32 = (.i .i64 x32)
abbrev g40_J0 (v24 : AVal) (v27 : AVal) (x32 : Int) (o : Mm) (e : AExit) (m1 : Mm) (t1 : Tr) : Prop :=
  match o with
  | mo => e = (.exit 0) ∧ mo = m1 ∧ t1.get 9 = v27
abbrev g40_I1 (v24 : AVal) (v27 : AVal) (v38 : AVal) (x33 : Int) (x43 : Int) (x32 : Int) (x45 : Int) (s : Int × Mm) (m1 : Mm) (t1 : Tr) : Prop :=
  match s with
  | (x46, m_8) => m_8 = m1 ∧ t1.get 46 = (.i .i64 x46) ∧ t1.get 8 = v24 ∧ t1.get 9 = v27 ∧ t1.get 10 = v38 ∧ t1.get 11 = (.i .i64 x33) ∧ t1.get 12 = (.i .i64 x43) ∧ t1.get 32 = (.i .i64 x32) ∧ t1.get 33 = (.i .i64 x33) ∧ t1.get 45 = (.i .i64 x45)
abbrev g40_J1 (v24 : AVal) (v27 : AVal) (v38 : AVal) (x33 : Int) (x43 : Int) (x32 : Int) (x45 : Int) (o : Mm) (e : AExit) (m1 : Mm) (t1 : Tr) : Prop :=
  match o with
  | mo => e = (.exit 2) ∧ mo = m1 ∧ t1.get 8 = v24 ∧ t1.get 9 = v27 ∧ t1.get 10 = v38 ∧ t1.get 11 = (.i .i64 x33) ∧ t1.get 12 = (.i .i64 x43) ∧ t1.get 32 = (.i .i64 x32) ∧ t1.get 33 = (.i .i64 x33)
def g40_b1 (M : Means) (ro : List ABlk) (v24 : AVal) (v27 : AVal) (v38 : AVal) (x33 : Int) (x43 : Int) (x32 : Int) (x45 : Int) (x46 : Int) (m_8 : Mm) : Option ((Int × Mm) ⊕ (Mm)) :=
  forceB (ltI x46 x45) fun c47 =>
  cond c47 (
    bindO (evP .e (.ixS 1 (.c v38) (.c (.i .i64 x46)))) fun v51 =>
    bindO (ldM ro m_8 true 1 v51) fun v52 =>
    bindO (evP .e (.ixS 1 (.c v52) (.c (.i .i64 x46)))) fun v54 =>
    bindO (ldM ro m_8 true 1 v54) fun v55 =>
    asI .i64 v55 fun x55 =>
    forceI (wr .i64 (x55 - x43)) fun x57 =>
    bindO (evP .e (.ixS 1 (.c v52) (.c (.i .i64 x46)))) fun v58 =>
    bindP (stepM ro m_8 (.st 1 (.c v58) (.c (.i .i64 x57)))) fun vn m_9 =>
    forceI (wr .i64 (x46 + 1)) fun x59 =>
    some (.inl (x59, m_9))) (
    some (.inr m_8))
def g40_b0 (M : Means) (ro : List ABlk) (v24 : AVal) (v27 : AVal) (x32 : Int) (v10 : AVal) (x33 : Int) (m_5 : Mm) : Option ((AVal × Int × Mm) ⊕ (Mm)) :=
  forceB (ltI x33 x32) fun c34 =>
  cond c34 (
    bindP (callM M.call m_5 82 [v24, v10]) fun v38 m_6 =>
    bindP (callM M.call m_6 83 [v38]) fun v40 m_7 =>
    asI .i64 v40 fun x40 =>
    forceI (wr .i64 (x33 + 1)) fun x42 =>
    chk (!eqI x42 (.ofNat 0)) <|
    forceI (wr .i64 (Int.tdiv x40 x42)) fun x43 =>
    bindO (evP .e (.len false (.c v38))) fun v45 =>
    asI .i64 v45 fun x45 =>
    bindO (M.loop (S := Int × Mm) (R := Mm) (fun s => g40_b1 M ro v24 v27 v38 x33 x43 x32 x45 s.1 s.2) (0, m_7)) fun m_10 =>
    bindO (evP .e (.ixS 1 (.c v27) (.c (.i .i64 x33)))) fun v63 =>
    bindP (stepM ro m_10 (.st 1 (.c v63) (.c (.i .i64 x43)))) fun vn_1 m_11 =>
    forceI (wr .i64 (x33 + 1)) fun x64 =>
    some (.inl (v38, x64, m_11))) (
    some (.inr m_5))
def g40 (M : Means) (ro : List ABlk) (v0 : AVal) (s1 : List UInt8) (m0 : Mm) : Option (AVal × Heap × Nat × Nat) :=
  bindP (callM M.call m0 60 [v0, (.s s1)]) fun v17 m_1 =>
  bindO (evP .e (.ext 0 (.c v17))) fun v18 =>
  bindO (evP .e (.ext 1 (.c v17))) fun v19 =>
  asI .i64 v19 fun x19 =>
  forceB (!eqI x19 0) fun c21 =>
  cond c21 (
    finM m0.h.length (tupA [AVal.nsl, (.i .i64 x19)]) m_1) (
    bindP (callM M.call m_1 79 [v18, (AVal.fn 80 [] [])]) fun v24 m_2 =>
    bindO (evP .e (.len false (.c v18))) fun v26 =>
    asI .i64 v26 fun x26 =>
    bindP (stepM ro m_2 (.mk 3 1 8 [(AVal.i IntKind.i64 0)] (.c (.i .i64 x26)) (.c (.i .i64 x26)))) fun v27 m_3 =>
    bindO (evP .e (.len false (.c v18))) fun v29 =>
    asI .i64 v29 fun x29 =>
    bindP (callM M.call m_3 81 [(.i .i64 x29)]) fun v30 m_4 =>
    bindO (evP .e (.len false (.c v27))) fun v32 =>
    asI .i64 v32 fun x32 =>
    bindO (M.loop (S := AVal × Int × Mm) (R := Mm) (fun s => g40_b0 M ro v24 v27 x32 s.1 s.2.1 s.2.2) (v30, 0, m_4)) fun m_12 =>
    finM m0.h.length (tupA [v27, (.i .i64 0)]) m_12)
theorem g40_ok {ro : List ABlk} {O : Caller} {M : Means} (hM : M.Ok ⟨F, O⟩ ro) {v0 s1 h r} (ho : O 40 [v0, (.s s1)] h = none) (hr : g40 M ro v0 s1 ⟨h, h.length, h.length⟩ = some r) : callX ⟨F, O⟩ ro 40 [v0, (.s s1)] h = some r := by
  refine callX_of (F := ⟨F, O⟩) (fn := fn40) (g := g40 M ro v0 s1) ho rfl rfl hr ?_
  clear ho
  clear hr
  intro m0 t0 ht hr
  have g0 : t0.get 0 = v0 := ht 0
  have g1 : t0.get 1 = (.s s1) := ht 1
  clear ht
  unfold g40 at hr
  refine w_seq (w_ops (wo_step (v := AVal.nsl) (s_pure (p_mv rfl)) (wo_step (v := (.i .i64 0)) (s_pure (p_mv rfl)) (wo_nil (nx_norm (w_seq (w_ops (wo_step (s_pure (p_mv g0)) (wo_step (s_pure (p_mv g1)) ?_)))))))))
  obtain ⟨v17, m_1, e17, z1⟩ := bindP_inv hr
  refine wo_step (s_call (mc rfl (mc rfl mn)) (callM_le hM.call e17)) (wo_step (v := v17) (s_pure (p_mv rfl)) ?_)
  obtain ⟨v18, e18, z2⟩ := bindO_inv z1
  refine wo_step (s_pure (o_ext rfl e18)) ?_
  obtain ⟨v19, e19, z3⟩ := bindO_inv z2
  obtain ⟨x19, rfl, z4⟩ := asI_inv z3
  refine wo_step (s_pure (o_ext rfl e19)) (wo_step (v := v18) (s_pure (p_mv rfl)) (wo_step (v := (.i .i64 x19)) (s_pure (p_mv rfl)) (wo_nil (nx_norm (w_seq (w_seq (w_ops (wo_step (v := (.i .i64 x19)) (s_pure (p_mv rfl)) ?_))))))))
  obtain ⟨c21, e21, z5⟩ := forceB_inv z4
  refine wo_step (s_pure (p_bin rfl rfl (b_neq.trans (cb e21)))) (wo_nil (nx_norm ?_))
  rcases cond_inv z5 with ⟨rfl, z6⟩ | ⟨rfl, z6⟩
  · refine w_condT rfl ?_
    refine w_seq (w_ops (wo_step (v := (.i .i64 x19)) (s_pure (p_mv rfl)) (wo_step (v := AVal.nsl) (s_pure (p_mv rfl)) (wo_step (v := (.i .i64 x19)) (s_pure (p_mv rfl)) (wo_nil (nx_norm ?_))))))
    refine w_ret ?_
    refine nx_ret ?_
    exact qf ret_ok (rt rfl (rt rfl rn)) z6
  · refine w_condF rfl ?_
    refine w_skip (nx_norm (w_seq (w_ops (wo_step (v := v18) (s_pure (p_mv rfl)) ?_))))
    obtain ⟨v24, m_2, e24, z7⟩ := bindP_inv z6
    refine wo_step (s_call (mc rfl (mc rfl mn)) (callM_le hM.call e24)) (wo_step (v := v24) (s_pure (p_mv rfl)) (wo_nil (nx_norm (w_seq (w_ops (wo_step (v := v18) (s_pure (p_mv rfl)) ?_))))))
    obtain ⟨v26, e26, z8⟩ := bindO_inv z7
    obtain ⟨x26, rfl, z9⟩ := asI_inv z8
    refine wo_step (s_pure (o_len rfl e26)) ?_
    obtain ⟨v27, m_3, e27, z10⟩ := bindP_inv z9
    refine wo_step (s_mk rfl rfl e27) (wo_step (v := v27) (s_pure (p_mv rfl)) (wo_nil (nx_norm (w_seq (w_ops (wo_step (v := v18) (s_pure (p_mv rfl)) ?_))))))
    obtain ⟨v29, e29, z11⟩ := bindO_inv z10
    obtain ⟨x29, rfl, z12⟩ := asI_inv z11
    refine wo_step (s_pure (o_len rfl e29)) ?_
    obtain ⟨v30, m_4, e30, z13⟩ := bindP_inv z12
    refine wo_step (s_call (mc rfl mn) (callM_le hM.call e30)) (wo_step (v := v30) (s_pure (p_mv rfl)) (wo_nil (nx_norm (w_seq (w_seq (w_ops (wo_step (v := v27) (s_pure (p_mv rfl)) ?_)))))))
    obtain ⟨v32, e32, z14⟩ := bindO_inv z13
    obtain ⟨x32, rfl, z15⟩ := asI_inv z14
    refine wo_step (s_pure (o_len rfl e32)) (wo_step (v := (.i .i64 0)) (s_pure (p_mv rfl)) (wo_nil (nx_norm ?_)))
    refine w_block ?_
    obtain ⟨o_1, hl_1, z16⟩ := bindO_inv z15
    obtain ⟨n_1, hl_1⟩ := hM.loop _ _ _ hl_1
    refine jp_mono (w_loop _ (g40_I0 v24 v27 x32) (g40_J0 v24 v27 x32) ?_ n_1 _ _ _ _ hl_1 ⟨rfl, gl rfl, gl rfl, gl rfl, gl rfl, gl rfl⟩) ?_
    · clear z16 hl_1
      intro s mm_3 t_1 o hi hr
      obtain ⟨v10, x33, m_5⟩ := s
      obtain ⟨rfl, g10, g33, g8, g9, g32⟩ := hi
      unfold g40_b0 at hr
      refine w_seq (w_ops ?_)
      obtain ⟨c34, e34, z17⟩ := forceB_inv hr
      refine wo_step (s_pure (p_bin g33 g32 (b_lss.trans (cb e34)))) (wo_nil (nx_norm (w_seq ?_)))
      rcases cond_inv z17 with ⟨rfl, z18⟩ | ⟨rfl, z18⟩
      · refine w_condT rfl ?_
        refine w_skip (nx_norm (w_seq ?_))
        refine w_block ?_
        refine w_seq (w_ops (wo_step (s_pure (p_mv g33)) (wo_step (v := (.i .i64 x33)) (s_pure (p_mv rfl)) (wo_nil (nx_norm (w_seq (w_ops (wo_step (s_pure (p_mv g8)) (wo_step (s_pure (p_mv g10)) ?_)))))))))
        obtain ⟨v38, m_6, e38, z19⟩ := bindP_inv z18
        refine wo_step (s_call (mc rfl (mc rfl mn)) (callM_le hM.call e38)) (wo_step (v := v38) (s_pure (p_mv rfl)) (wo_nil (nx_norm (w_seq (w_ops (wo_step (v := v38) (s_pure (p_mv rfl)) ?_))))))
        obtain ⟨v40, m_7, e40, z20⟩ := bindP_inv z19
        obtain ⟨x40, rfl, z21⟩ := asI_inv z20
        refine wo_step (s_call (mc rfl mn) (callM_le hM.call e40)) (wo_step (v := (.i .i64 x33)) (s_pure (p_mv rfl)) ?_)
        obtain ⟨x42, e42, z22⟩ := forceI_inv z21
        refine wo_step (s_pure (p_bin rfl rfl (b_add.trans (ci e42)))) ?_
        obtain ⟨hc43, z23⟩ := chk_inv z22
        obtain ⟨x43, e43, z24⟩ := forceI_inv z23
        refine wo_step (s_pure (p_bin rfl rfl ((b_quo hc43).trans (ci e43)))) (wo_step (v := (.i .i64 x43)) (s_pure (p_mv rfl)) (wo_nil (nx_norm (w_seq (w_seq (w_ops (wo_step (v := v38) (s_pure (p_mv rfl)) ?_)))))))
        obtain ⟨v45, e45, z25⟩ := bindO_inv z24
        obtain ⟨x45, rfl, z26⟩ := asI_inv z25
        refine wo_step (s_pure (o_len rfl e45)) (wo_step (v := (.i .i64 0)) (s_pure (p_mv rfl)) (wo_nil (nx_norm ?_)))
        refine w_block ?_
        obtain ⟨o, hl, z27⟩ := bindO_inv z26
        obtain ⟨n, hl⟩ := hM.loop _ _ _ hl
        refine jp_mono (w_loop _ (g40_I1 v24 v27 v38 x33 x43 x32 x45) (g40_J1 v24 v27 v38 x33 x43 x32 x45) ?_ n _ _ _ _ hl ⟨rfl, gl rfl, gl g8, gl g9, gl rfl, gl rfl, gl rfl, gl g32, gl g33, gl rfl⟩) ?_
        · clear z27 hl
          intro s mm_1 t_2 o hi hr
          obtain ⟨x46, m_8⟩ := s
          obtain ⟨rfl, g46, g8, g9, g10, g11, g12, g32, g33, g45⟩ := hi
          unfold g40_b1 at hr
          refine w_seq (w_ops ?_)
          obtain ⟨c47, e47, z28⟩ := forceB_inv hr
          refine wo_step (s_pure (p_bin g46 g45 (b_lss.trans (cb e47)))) (wo_nil (nx_norm (w_seq ?_)))
          rcases cond_inv z28 with ⟨rfl, z29⟩ | ⟨rfl, z29⟩
          · refine w_condT rfl ?_
            refine w_skip (nx_norm (w_seq ?_))
            refine w_block ?_
            refine w_seq (w_ops (wo_step (s_pure (p_mv g46)) (wo_step (v := (.i .i64 x46)) (s_pure (p_mv rfl)) (wo_nil (nx_norm (w_ops (wo_step (s_pure (p_mv g10)) (wo_step (v := (.i .i64 x46)) (s_pure (p_mv rfl)) ?_))))))))
            obtain ⟨v51, e51, z30⟩ := bindO_inv z29
            refine wo_step (s_pure (o_ixS rfl rfl e51)) ?_
            obtain ⟨v52, e52, z31⟩ := bindO_inv z30
            refine wo_step (s_ld rfl e52) (wo_step (v := (.i .i64 x46)) (s_pure (p_mv rfl)) ?_)
            obtain ⟨v54, e54, z32⟩ := bindO_inv z31
            refine wo_step (s_pure (o_ixS rfl rfl e54)) ?_
            obtain ⟨v55, e55, z33⟩ := bindO_inv z32
            obtain ⟨x55, rfl, z34⟩ := asI_inv z33
            refine wo_step (s_ld rfl e55) (wo_step (s_pure (p_mv g12)) ?_)
            obtain ⟨x57, e57, z35⟩ := forceI_inv z34
            refine wo_step (s_pure (p_bin rfl rfl (b_sub.trans (ci e57)))) ?_
            obtain ⟨v58, e58, z36⟩ := bindO_inv z35
            refine wo_step (s_pure (o_ixS rfl rfl e58)) ?_
            obtain ⟨vn, m_9, en, z37⟩ := bindP_inv z36
            refine wo_stepN (s_st rfl rfl en) ?_
            refine wo_nil ?_
            refine bk_norm ?_
            refine nx_norm (w_ops ?_)
            obtain ⟨x59, e59, z38⟩ := forceI_inv z37
            refine wo_step (s_pure (p_bin g46 rfl (b_add.trans (ci e59)))) (wo_step (v := (.i .i64 x59)) (s_pure (p_mv rfl)) (wo_nil ?_))
            cases z38
            exact ⟨_, _, rfl, rfl, rfl, gl rfl, gl g8, gl g9, gl g10, gl g11, gl g12, gl g32, gl g33, gl g45⟩
          · refine w_condF rfl ?_
            refine w_exit ?_
            refine nx_exit ?_
            cases z29
            exact ⟨_, _, rfl, ne_norm_exit, rfl, rfl, gl g8, gl g9, gl g10, gl g11, gl g12, gl g32, gl g33⟩
        · obtain ⟨m_10, ho⟩ : ∃ z, z = o := ⟨_, rfl⟩
          subst ho
          rintro _ mm t_3 ⟨rfl, rfl, g8, g9, g10, g11, g12, g32, g33⟩
          refine bk_hit ?_
          refine nx_norm (w_ops (wo_step (s_pure (p_mv g9)) (wo_step (s_pure (p_mv g11)) (wo_step (s_pure (p_mv g12)) ?_))))
          obtain ⟨v63, e63, z39⟩ := bindO_inv z27
          refine wo_step (s_pure (o_ixS rfl rfl e63)) ?_
          obtain ⟨vn_1, m_11, en_1, z40⟩ := bindP_inv z39
          refine wo_stepN (s_st rfl rfl en_1) ?_
          refine wo_nil ?_
          refine bk_norm ?_
          refine nx_norm (w_ops ?_)
          obtain ⟨x64, e64, z41⟩ := forceI_inv z40
          refine wo_step (s_pure (p_bin g33 rfl (b_add.trans (ci e64)))) (wo_step (v := (.i .i64 x64)) (s_pure (p_mv rfl)) (wo_nil ?_))
          cases z41
          exact ⟨_, _, rfl, rfl, rfl, gl g10, gl rfl, gl g8, gl g9, gl g32⟩
      · refine w_condF rfl ?_
        refine w_exit ?_
        refine nx_exit ?_
        cases z18
        exact ⟨_, _, rfl, ne_norm_exit, rfl, rfl, gl g9⟩
    · obtain ⟨m_12, ho⟩ : ∃ z, z = o_1 := ⟨_, rfl⟩
      subst ho
      rintro _ mm_2 t_4 ⟨rfl, rfl, g9⟩
      refine bk_hit ?_
      refine nx_norm (w_seq (w_ops (wo_step (s_pure (p_mv g9)) (wo_step (v := v27) (s_pure (p_mv rfl)) (wo_step (v := (.i .i64 0)) (s_pure (p_mv rfl)) (wo_nil (nx_norm ?_)))))))
      refine w_ret ?_
      exact qf ret_ok (rt rfl (rt rfl rn)) z16
/- dibber/dibberref03.Shoot -/
abbrev g42_J0 (x7 : Int) (o : Bool × Mm) (m1 : Mm) (t1 : Tr) : Prop :=
  match o with
  | (c20, m_2) => m_2 = m1 ∧ t1.get 20 = (.b c20) ∧ t1.get 5 = (.i .i64 x7)
abbrev g42_J1 (x7 : Int) (o : Bool × Mm) (m1 : Mm) (t1 : Tr) : Prop :=
  match o with
  | (c20_1, m_3) => m_3 = m1 ∧ t1.get 20 = (.b c20_1) ∧ t1.get 5 = (.i .i64 x7)
abbrev g42_J2 (m_2 : Mm) (o : Int) (e : AExit) (m1 : Mm) (t1 : Tr) : Prop :=
  match o with
  | y5 => e = .norm ∧ m_2 = m1 ∧ t1.get 5 = (.i .i64 y5)
def g42 (M : Means) (ro : List ABlk) (v0 : AVal) (s1 : List UInt8) (m0 : Mm) : Option (AVal × Heap × Nat × Nat) :=
  bindP (callM M.call m0 46 [v0]) fun v7 m_1 =>
  asI .i64 v7 fun x7 =>
  forceB (eqI x7 0) fun c9 =>
  bindO (cond c9 (
    bindO (evP .e (.len true (.c (.s s1)))) fun v12 =>
    asI .i64 v12 fun x12 =>
    forceB (ltI 30 x12) fun c13 =>
    bindO (cond c13 (
      some (true, m_1)) (
      bindP (callM M.call m_1 85 [v0, (.s s1)]) fun v17 m_4 =>
      asB v17 fun c17 =>
      forceB (!c17) fun c18 =>
      some (c18, m_4))) fun ⟨c20_1, m_3⟩ =>
    some (c20_1, m_3)) (
    some (false, m_1))) fun ⟨c20, m_2⟩ =>
  bindO (α := Int) (
    cond c20 (
      some 5) (
      some x7)) fun x5 =>
  finM m0.h.length (tupA [(.i .i64 x5)]) m_2
theorem g42_ok {ro : List ABlk} {O : Caller} {M : Means} (hM : M.Ok ⟨F, O⟩ ro) {v0 s1 h r} (ho : O 42 [v0, (.s s1)] h = none) (hr : g42 M ro v0 s1 ⟨h, h.length, h.length⟩ = some r) : callX ⟨F, O⟩ ro 42 [v0, (.s s1)] h = some r := by
  refine callX_of (F := ⟨F, O⟩) (fn := fn42) (g := g42 M ro v0 s1) ho rfl rfl hr ?_
  clear ho
  clear hr
  intro m0 t0 ht hr
  have g0 : t0.get 0 = v0 := ht 0
  have g1 : t0.get 1 = (.s s1) := ht 1
  clear ht
  unfold g42 at hr
  refine w_seq (w_ops (wo_step (v := (.i .i64 0)) (s_pure (p_mv rfl)) (wo_nil (nx_norm (w_seq (w_ops (wo_step (s_pure (p_mv g0)) ?_)))))))
  obtain ⟨v7, m_1, e7, z1⟩ := bindP_inv hr
  obtain ⟨x7, rfl, z2⟩ := asI_inv z1
  refine wo_step (s_call (mc rfl mn) (callM_le hM.call e7)) (wo_step (v := (.i .i64 x7)) (s_pure (p_mv rfl)) (wo_nil (nx_norm (w_seq (w_seq (w_ops (wo_step (v := (.i .i64 x7)) (s_pure (p_mv rfl)) ?_)))))))
  obtain ⟨c9, e9, z3⟩ := forceB_inv z2
  refine wo_step (s_pure (p_bin rfl rfl (b_eql.trans (cb e9)))) (wo_step (v := (.b c9)) (s_pure (p_mv rfl)) ?_)
  obtain ⟨o, z4, hk⟩ := bindO_inv z3
  refine wo_join 10 (g42_J0 x7 o) ?_ ?_
  · clear hk
    rcases cond_inv z4 with ⟨rfl, z5⟩ | ⟨rfl, z5⟩
    · refine wo_take (v := (.s s1)) rfl (s_pure (p_mv g1)) ?_
      obtain ⟨v12, e12, z6⟩ := bindO_inv z5
      obtain ⟨x12, rfl, z7⟩ := asI_inv z6
      refine wo_take (v := (.i .i64 x12)) rfl (s_pure (o_len rfl e12)) ?_
      obtain ⟨c13, e13, z8⟩ := forceB_inv z7
      refine wo_take (v := (.b c13)) rfl (s_pure (p_bin rfl rfl (b_gtr.trans (cb e13)))) (wo_take (v := (.b c13)) rfl (s_pure (p_mv rfl)) ?_)
      obtain ⟨o_1, z9, hk⟩ := bindO_inv z8
      refine wo_join 6 (g42_J1 x7 o_1) ?_ ?_
      · clear hk
        rcases cond_inv z9 with ⟨rfl, z10⟩ | ⟨rfl, z10⟩
        · refine wo_skip (v := (.b true)) rfl rfl (wo_skip (v := (.b true)) rfl rfl (wo_skip (v := (.b true)) rfl rfl (wo_skip (v := (.b true)) rfl rfl (wo_take (v := (.b true)) rfl (s_pure (p_pickT rfl rfl)) (wo_step (v := (.b true)) (s_pure (p_pickT rfl rfl)) (wo_nil ?_))))))
          cases z10
          exact ⟨_, _, rfl, rfl, gl rfl, gl rfl⟩
        · refine wo_take (v := v0) rfl (s_pure (p_mv g0)) (wo_take (v := (.s s1)) rfl (s_pure (p_mv g1)) ?_)
          obtain ⟨v17, m_4, e17, z11⟩ := bindP_inv z10
          obtain ⟨c17, rfl, z12⟩ := asB_inv z11
          refine wo_take (v := (.b c17)) rfl (s_call (mc rfl (mc rfl mn)) (callM_le hM.call e17)) ?_
          obtain ⟨c18, e18, z13⟩ := forceB_inv z12
          refine wo_take (v := (.b c18)) rfl (s_pure ((p_not rfl).trans (cb e18))) (wo_take (v := (.b c18)) rfl (s_pure (p_pickF rfl rfl)) (wo_step (v := (.b c18)) (s_pure (p_pickT rfl rfl)) (wo_nil ?_)))
          cases z13
          exact ⟨_, _, rfl, rfl, gl rfl, gl rfl⟩
      · clear z9
        have hr := hk
        clear hk
        obtain ⟨c20_1, m_3⟩ := o_1
        rintro mm t_1 ⟨rfl, g20, g5⟩
        refine wo_nil ?_
        cases hr
        exact ⟨_, _, rfl, rfl, gl g20, gl g5⟩
    · refine wo_skip (v := (.b false)) rfl rfl (wo_skip (v := (.b false)) rfl rfl (wo_skip (v := (.b false)) rfl rfl (wo_skip (v := (.b false)) rfl rfl (wo_skip (v := und) rfl rfl (wo_skip (v := und) rfl rfl (wo_skip (v := und) rfl rfl (wo_skip (v := und) rfl rfl (wo_skip (v := (.b false)) rfl rfl (wo_step (v := (.b false)) (s_pure (p_pickF rfl rfl)) (wo_nil ?_))))))))))
      cases z5
      exact ⟨_, _, rfl, rfl, gl rfl, gl rfl⟩
  · clear z4
    have hr := hk
    clear hk
    obtain ⟨c20, m_2⟩ := o
    rintro mm_1 t_2 ⟨rfl, g20, g5⟩
    refine wo_nil (nx_norm ?_)
    obtain ⟨o_2, z14, hk⟩ := bindO_inv hr
    refine jp_mono (J := g42_J2 m_2 o_2) ?_ ?_
    · clear hk
      rcases cond_inv z14 with ⟨rfl, z15⟩ | ⟨rfl, z15⟩
      · refine w_condT g20 ?_
        refine w_ops (wo_step (v := (.i .i64 5)) (s_pure (p_mv rfl)) (wo_nil ?_))
        cases z15
        exact ⟨_, _, rfl, rfl, rfl, gl rfl⟩
      · refine w_condF g20 ?_
        refine w_skip ?_
        cases z15
        exact ⟨_, _, rfl, rfl, rfl, gl g5⟩
    · clear z14
      have hr := hk
      clear hk
      obtain ⟨x5, ho⟩ : ∃ z, z = o_2 := ⟨_, rfl⟩
      subst ho
      rintro _ mm_2 t_3 ⟨rfl, rfl, g5⟩
      refine nx_norm (w_seq (w_ops (wo_step (s_pure (p_mv g5)) (wo_step (v := (.i .i64 x5)) (s_pure (p_mv rfl)) (wo_nil (nx_norm ?_))))))
      refine w_ret ?_
      exact qf ret_ok (rt rfl rn) hr
/- dibber/dibberref03.Vine -/
abbrev g46_J0 (v0 : AVal) (m0 : Mm) (o : Bool) (m1 : Mm) (t1 : Tr) : Prop :=
  match o with
  | c11 => m0 = m1 ∧ t1.get 11 = (.b c11) ∧ t1.get 0 = v0
abbrev g46_I1 (v0 : AVal) (s : Int × Mm) (m1 : Mm) (t1 : Tr) : Prop :=
  match s with
  | (x3, m_1) => m_1 = m1 ∧ t1.get 3 = (.i .i64 x3) ∧ t1.get 0 = v0
abbrev g46_J1 (v0 : AVal) (o : (Mm ⊕ (Int × Mm))) (e : AExit) (m1 : Mm) (t1 : Tr) : Prop :=
  match o with
  | (.inl mo) => e = (.exit 0) ∧ mo = m1
  | (.inr (y2, mo)) => e = .ret ∧ mo = m1 ∧ t1.get 2 = (.i .i64 y2)
abbrev g46_J2 (v0 : AVal) (x3 : Int) (o : Bool × Mm) (m1 : Mm) (t1 : Tr) : Prop :=
  match o with
  | (c32, m_2) => m_2 = m1 ∧ t1.get 32 = (.b c32) ∧ t1.get 0 = v0 ∧ t1.get 3 = (.i .i64 x3)
def g46_b1 (M : Means) (ro : List ABlk) (v0 : AVal) (x3 : Int) (m_1 : Mm) : Option ((Int × Mm) ⊕ ((Mm ⊕ (Int × Mm)))) :=
  bindO (evP .e (.len false (.c v0))) fun v14 =>
  asI .i64 v14 fun x14 =>
  forceB (ltI x3 x14) fun c15 =>
  cond c15 (
    bindO (evP .e (.ixS 1 (.c v0) (.c (.i .i64 x3)))) fun v20 =>
    bindO (ldM ro m_1 true 1 v20) fun v21 =>
    asS v21 fun s21 =>
    bindO (evP .e (.len true (.c (.s s21)))) fun v22 =>
    asI .i64 v22 fun x22 =>
    forceB (ltI 8 x22) fun c23 =>
    bindO (cond c23 (
      some (true, m_1)) (
      bindO (evP .e (.ixS 1 (.c v0) (.c (.i .i64 x3)))) fun v28 =>
      bindO (ldM ro m_1 true 1 v28) fun v29 =>
      asS v29 fun s29 =>
      bindP (callM M.call m_1 85 [v0, (.s s29)]) fun v30 m_3 =>
      asB v30 fun c30 =>
      forceB (!c30) fun c31 =>
      some (c31, m_3))) fun ⟨c32, m_2⟩ =>
    cond c32 (
      some (.inr (.inr (5, m_2)))) (
      forceI (wr .i64 (x3 + 1)) fun x17 =>
      some (.inl (x17, m_2)))) (
    some (.inr (.inl m_1)))
def g46 (M : Means) (ro : List ABlk) (v0 : AVal) (m0 : Mm) : Option (AVal × Heap × Nat × Nat) :=
  bindO (evP .e (.len false (.c v0))) fun v5 =>
  asI .i64 v5 fun x5 =>
  forceB (ltI x5 1) fun c6 =>
  bindO (cond c6 (
    some true) (
    bindO (evP .e (.len false (.c v0))) fun v9 =>
    asI .i64 v9 fun x9 =>
    forceB (ltI 6 x9) fun c10 =>
    some c10)) fun c11 =>
  cond c11 (
    finM m0.h.length (tupA [(.i .i64 2)]) m0) (
    bindO (M.loop (S := Int × Mm) (R := (Mm ⊕ (Int × Mm))) (fun s => g46_b1 M ro v0 s.1 s.2) (0, m0)) fun o_2 => match o_2 with
    | (.inl m_4) =>
      finM m0.h.length (tupA [(.i .i64 0)]) m_4
    | (.inr (x2, m_5)) =>
      finM m0.h.length (tupA [(.i .i64 x2)]) m_5)
theorem g46_ok {ro : List ABlk} {O : Caller} {M : Means} (hM : M.Ok ⟨F, O⟩ ro) {v0 h r} (ho : O 46 [v0] h = none) (hr : g46 M ro v0 ⟨h, h.length, h.length⟩ = some r) : callX ⟨F, O⟩ ro 46 [v0] h = some r := by
  refine callX_of (F := ⟨F, O⟩) (fn := fn46) (g := g46 M ro v0) ho rfl rfl hr ?_
  clear ho
  clear hr
  intro m0 t0 ht hr
  have g0 : t0.get 0 = v0 := ht 0
  clear ht
  unfold g46 at hr
  refine w_seq (w_ops (wo_step (v := (.i .i64 0)) (s_pure (p_mv rfl)) (wo_nil (nx_norm (w_seq (w_seq (w_ops (wo_step (s_pure (p_mv g0)) ?_))))))))
  obtain ⟨v5, e5, z1⟩ := bindO_inv hr
  obtain ⟨x5, rfl, z2⟩ := asI_inv z1
  refine wo_step (s_pure (o_len rfl e5)) ?_
  obtain ⟨c6, e6, z3⟩ := forceB_inv z2
  refine wo_step (s_pure (p_bin rfl rfl (b_lss.trans (cb e6)))) (wo_step (v := (.b c6)) (s_pure (p_mv rfl)) ?_)
  obtain ⟨o, z4, hk⟩ := bindO_inv z3
  refine wo_join 4 (g46_J0 v0 m0 o) ?_ ?_
  · clear hk
    rcases cond_inv z4 with ⟨rfl, z5⟩ | ⟨rfl, z5⟩
    · refine wo_skip (v := (.b true)) rfl rfl (wo_skip (v := (.b true)) rfl rfl (wo_skip (v := (.b true)) rfl rfl (wo_step (v := (.b true)) (s_pure (p_pickT rfl rfl)) (wo_nil ?_))))
      cases z5
      exact ⟨_, _, rfl, rfl, gl rfl, gl g0⟩
    · refine wo_take (v := v0) rfl (s_pure (p_mv g0)) ?_
      obtain ⟨v9, e9, z6⟩ := bindO_inv z5
      obtain ⟨x9, rfl, z7⟩ := asI_inv z6
      refine wo_take (v := (.i .i64 x9)) rfl (s_pure (o_len rfl e9)) ?_
      obtain ⟨c10, e10, z8⟩ := forceB_inv z7
      refine wo_take (v := (.b c10)) rfl (s_pure (p_bin rfl rfl (b_gtr.trans (cb e10)))) (wo_step (v := (.b c10)) (s_pure (p_pickF rfl rfl)) (wo_nil ?_))
      cases z8
      exact ⟨_, _, rfl, rfl, gl rfl, gl g0⟩
  · clear z4
    have hr := hk
    clear hk
    obtain ⟨c11, ho⟩ : ∃ z, z = o := ⟨_, rfl⟩
    subst ho
    rintro mm t_1 ⟨rfl, g11, g0⟩
    refine wo_nil (nx_norm ?_)
    rcases cond_inv hr with ⟨rfl, z9⟩ | ⟨rfl, z9⟩
    · refine w_condT g11 ?_
      refine w_seq (w_ops (wo_step (v := (.i .i64 2)) (s_pure (p_mv rfl)) (wo_nil (nx_norm ?_))))
      refine w_ret ?_
      refine nx_ret ?_
      exact qf ret_ok (rt rfl rn) z9
    · refine w_condF g11 ?_
      refine w_skip (nx_norm (w_seq (w_seq (w_ops (wo_step (v := (.i .i64 0)) (s_pure (p_mv rfl)) (wo_nil (nx_norm ?_)))))))
      refine w_block ?_
      obtain ⟨o_2, hl, z10⟩ := bindO_inv z9
      obtain ⟨n, hl⟩ := hM.loop _ _ _ hl
      refine jp_mono (w_loop _ (g46_I1 v0) (g46_J1 v0) ?_ n _ _ _ _ hl ⟨rfl, gl rfl, gl g0⟩) ?_
      · clear z10 hl
        intro s mm_4 t_2 o hi hr
        obtain ⟨x3, m_1⟩ := s
        obtain ⟨rfl, g3, g0⟩ := hi
        unfold g46_b1 at hr
        refine w_seq (w_seq (w_ops (wo_step (s_pure (p_mv g3)) (wo_step (s_pure (p_mv g0)) ?_))))
        obtain ⟨v14, e14, z11⟩ := bindO_inv hr
        obtain ⟨x14, rfl, z12⟩ := asI_inv z11
        refine wo_step (s_pure (o_len rfl e14)) ?_
        obtain ⟨c15, e15, z13⟩ := forceB_inv z12
        refine wo_step (s_pure (p_bin rfl rfl (b_lss.trans (cb e15)))) (wo_nil (nx_norm ?_))
        rcases cond_inv z13 with ⟨rfl, z14⟩ | ⟨rfl, z14⟩
        · refine w_condT rfl ?_
          refine w_skip (nx_norm (w_seq ?_))
          refine w_block ?_
          refine w_seq (w_ops (wo_step (s_pure (p_mv g0)) (wo_step (s_pure (p_mv g3)) ?_)))
          obtain ⟨v20, e20, z15⟩ := bindO_inv z14
          refine wo_step (s_pure (o_ixS rfl rfl e20)) ?_
          obtain ⟨v21, e21, z16⟩ := bindO_inv z15
          obtain ⟨s21, rfl, z17⟩ := asS_inv z16
          refine wo_step (s_ld rfl e21) ?_
          obtain ⟨v22, e22, z18⟩ := bindO_inv z17
          obtain ⟨x22, rfl, z19⟩ := asI_inv z18
          refine wo_step (s_pure (o_len rfl e22)) ?_
          obtain ⟨c23, e23, z20⟩ := forceB_inv z19
          refine wo_step (s_pure (p_bin rfl rfl (b_gtr.trans (cb e23)))) (wo_step (v := (.b c23)) (s_pure (p_mv rfl)) ?_)
          obtain ⟨o_1, z21, hk⟩ := bindO_inv z20
          refine wo_join 8 (g46_J2 v0 x3 o_1) ?_ ?_
          · clear hk
            rcases cond_inv z21 with ⟨rfl, z22⟩ | ⟨rfl, z22⟩
            · refine wo_skip (v := (.b true)) rfl rfl (wo_skip (v := (.b true)) rfl rfl (wo_skip (v := (.b true)) rfl rfl (wo_skip (v := (.b true)) rfl rfl (wo_skip (v := (.b true)) rfl rfl (wo_skip (v := (.b true)) rfl rfl (wo_skip (v := (.b true)) rfl rfl (wo_step (v := (.b true)) (s_pure (p_pickT rfl rfl)) (wo_nil ?_))))))))
              cases z22
              exact ⟨_, _, rfl, rfl, gl rfl, gl g0, gl g3⟩
            · refine wo_take (v := v0) rfl (s_pure (p_mv g0)) (wo_take (v := v0) rfl (s_pure (p_mv g0)) (wo_take (v := (.i .i64 x3)) rfl (s_pure (p_mv g3)) ?_))
              obtain ⟨v28, e28, z23⟩ := bindO_inv z22
              refine wo_take (v := v28) rfl (s_pure (o_ixS rfl rfl e28)) ?_
              obtain ⟨v29, e29, z24⟩ := bindO_inv z23
              obtain ⟨s29, rfl, z25⟩ := asS_inv z24
              refine wo_take (v := (.s s29)) rfl (s_ld rfl e29) ?_
              obtain ⟨v30, m_3, e30, z26⟩ := bindP_inv z25
              obtain ⟨c30, rfl, z27⟩ := asB_inv z26
              refine wo_take (v := (.b c30)) rfl (s_call (mc rfl (mc rfl mn)) (callM_le hM.call e30)) ?_
              obtain ⟨c31, e31, z28⟩ := forceB_inv z27
              refine wo_take (v := (.b c31)) rfl (s_pure ((p_not rfl).trans (cb e31))) (wo_step (v := (.b c31)) (s_pure (p_pickF rfl rfl)) (wo_nil ?_))
              cases z28
              exact ⟨_, _, rfl, rfl, gl rfl, gl g0, gl g3⟩
          · clear z21
            have hr := hk
            clear hk
            obtain ⟨c32, m_2⟩ := o_1
            rintro mm_1 t_3 ⟨rfl, g32, g0, g3⟩
            refine wo_nil (nx_norm ?_)
            rcases cond_inv hr with ⟨rfl, z29⟩ | ⟨rfl, z29⟩
            · refine w_condT g32 ?_
              refine w_seq (w_ops (wo_step (v := (.i .i64 5)) (s_pure (p_mv rfl)) (wo_nil (nx_norm ?_))))
              refine w_ret ?_
              refine bk_ret ?_
              refine nx_ret ?_
              cases z29
              exact ⟨_, _, rfl, ne_norm_ret, rfl, rfl, gl rfl⟩
            · refine w_condF g32 ?_
              refine w_skip ?_
              refine bk_norm ?_
              refine nx_norm (w_ops (wo_step (s_pure (p_mv g3)) ?_))
              obtain ⟨x17, e17, z30⟩ := forceI_inv z29
              refine wo_step (s_pure (p_bin rfl rfl (b_add.trans (ci e17)))) (wo_step (v := (.i .i64 x17)) (s_pure (p_mv rfl)) (wo_nil ?_))
              cases z30
              exact ⟨_, _, rfl, rfl, rfl, gl rfl, gl g0⟩
        · refine w_condF rfl ?_
          refine w_exit ?_
          refine nx_exit ?_
          cases z14
          exact ⟨_, _, rfl, ne_norm_exit, rfl, rfl⟩
      · rcases o_2 with o_2 | o_2
        · obtain ⟨m_4, ho⟩ : ∃ z, z = o_2 := ⟨_, rfl⟩
          subst ho
          rintro _ mm_2 t_4 ⟨rfl, rfl⟩
          refine bk_hit ?_
          refine nx_norm (w_seq (w_ops (wo_step (v := (.i .i64 0)) (s_pure (p_mv rfl)) (wo_nil (nx_norm ?_)))))
          refine w_ret ?_
          exact qf ret_ok (rt rfl rn) z10
        · obtain ⟨x2, m_5⟩ := o_2
          rintro _ mm_3 t_5 ⟨rfl, rfl, g2⟩
          refine bk_ret ?_
          refine nx_ret ?_
          exact qf ret_ok (rt g2 rn) z10
/- dibber/vine.readYears -/
abbrev g47_J0 (v14 : AVal) (m_1 : Mm) (o : Bool) (m1 : Mm) (t1 : Tr) : Prop :=
  match o with
  | c24 => m_1 = m1 ∧ t1.get 24 = (.b c24) ∧ t1.get 8 = v14
def g47 (M : Means) (ro : List ABlk) (v0 : AVal) (s1 : List UInt8) (x2 : Int) (m0 : Mm) : Option (AVal × Heap × Nat × Nat) :=
  bindP (callM M.call m0 60 [v0, (.s s1)]) fun v13 m_1 =>
  bindO (evP .e (.ext 0 (.c v13))) fun v14 =>
  bindO (evP .e (.ext 1 (.c v13))) fun v15 =>
  asI .i64 v15 fun x15 =>
  forceB (!eqI x15 0) fun c17 =>
  cond c17 (
    finM m0.h.length (tupA [AVal.nsl, (.i .i64 x15)]) m_1) (
    forceB (ltI x2 0) fun c20 =>
    bindO (cond c20 (
      some true) (
      forceB (ltI 1000 x2) fun c23 =>
      some c23)) fun c24 =>
    cond c24 (
      finM m0.h.length (tupA [AVal.nsl, (.i .i64 3)]) m_1) (
      finM m0.h.length (tupA [v14, (.i .i64 0)]) m_1))
theorem g47_ok {ro : List ABlk} {O : Caller} {M : Means} (hM : M.Ok ⟨F, O⟩ ro) {v0 s1 x2 h r} (ho : O 47 [v0, (.s s1), (.i .i64 x2)] h = none) (hr : g47 M ro v0 s1 x2 ⟨h, h.length, h.length⟩ = some r) : callX ⟨F, O⟩ ro 47 [v0, (.s s1), (.i .i64 x2)] h = some r := by
  refine callX_of (F := ⟨F, O⟩) (fn := fn47) (g := g47 M ro v0 s1 x2) ho rfl rfl hr ?_
  clear ho
  clear hr
  intro m0 t0 ht hr
  have g0 : t0.get 0 = v0 := ht 0
  have g1 : t0.get 1 = (.s s1) := ht 1
  have g2 : t0.get 2 = (.i .i64 x2) := ht 2
  clear ht
  unfold g47 at hr
  refine w_seq (w_ops (wo_step (v := AVal.nsl) (s_pure (p_mv rfl)) (wo_step (v := (.i .i64 0)) (s_pure (p_mv rfl)) (wo_nil (nx_norm (w_seq (w_ops (wo_step (s_pure (p_mv g0)) (wo_step (s_pure (p_mv g1)) ?_)))))))))
  obtain ⟨v13, m_1, e13, z1⟩ := bindP_inv hr
  refine wo_step (s_call (mc rfl (mc rfl mn)) (callM_le hM.call e13)) (wo_step (v := v13) (s_pure (p_mv rfl)) ?_)
  obtain ⟨v14, e14, z2⟩ := bindO_inv z1
  refine wo_step (s_pure (o_ext rfl e14)) ?_
  obtain ⟨v15, e15, z3⟩ := bindO_inv z2
  obtain ⟨x15, rfl, z4⟩ := asI_inv z3
  refine wo_step (s_pure (o_ext rfl e15)) (wo_step (v := v14) (s_pure (p_mv rfl)) (wo_step (v := (.i .i64 x15)) (s_pure (p_mv rfl)) (wo_nil (nx_norm (w_seq (w_seq (w_ops (wo_step (v := (.i .i64 x15)) (s_pure (p_mv rfl)) ?_))))))))
  obtain ⟨c17, e17, z5⟩ := forceB_inv z4
  refine wo_step (s_pure (p_bin rfl rfl (b_neq.trans (cb e17)))) (wo_nil (nx_norm ?_))
  rcases cond_inv z5 with ⟨rfl, z6⟩ | ⟨rfl, z6⟩
  · refine w_condT rfl ?_
    refine w_seq (w_ops (wo_step (v := (.i .i64 x15)) (s_pure (p_mv rfl)) (wo_step (v := AVal.nsl) (s_pure (p_mv rfl)) (wo_step (v := (.i .i64 x15)) (s_pure (p_mv rfl)) (wo_nil (nx_norm ?_))))))
    refine w_ret ?_
    refine nx_ret ?_
    exact qf ret_ok (rt rfl (rt rfl rn)) z6
  · refine w_condF rfl ?_
    refine w_skip (nx_norm (w_seq (w_seq (w_ops (wo_step (s_pure (p_mv g2)) ?_)))))
    obtain ⟨c20, e20, z7⟩ := forceB_inv z6
    refine wo_step (s_pure (p_bin rfl rfl (b_lss.trans (cb e20)))) (wo_step (v := (.b c20)) (s_pure (p_mv rfl)) ?_)
    obtain ⟨o, z8, hk⟩ := bindO_inv z7
    refine wo_join 3 (g47_J0 v14 m_1 o) ?_ ?_
    · clear hk
      rcases cond_inv z8 with ⟨rfl, z9⟩ | ⟨rfl, z9⟩
      · refine wo_skip (v := (.b true)) rfl rfl (wo_skip (v := (.b true)) rfl rfl (wo_step (v := (.b true)) (s_pure (p_pickT rfl rfl)) (wo_nil ?_)))
        cases z9
        exact ⟨_, _, rfl, rfl, gl rfl, gl rfl⟩
      · refine wo_take (v := (.i .i64 x2)) rfl (s_pure (p_mv g2)) ?_
        obtain ⟨c23, e23, z10⟩ := forceB_inv z9
        refine wo_take (v := (.b c23)) rfl (s_pure (p_bin rfl rfl (b_gtr.trans (cb e23)))) (wo_step (v := (.b c23)) (s_pure (p_pickF rfl rfl)) (wo_nil ?_))
        cases z10
        exact ⟨_, _, rfl, rfl, gl rfl, gl rfl⟩
    · clear z8
      have hr := hk
      clear hk
      obtain ⟨c24, ho⟩ : ∃ z, z = o := ⟨_, rfl⟩
      subst ho
      rintro mm t_1 ⟨rfl, g24, g8⟩
      refine wo_nil (nx_norm ?_)
      rcases cond_inv hr with ⟨rfl, z11⟩ | ⟨rfl, z11⟩
      · refine w_condT g24 ?_
        refine w_seq (w_ops (wo_step (v := AVal.nsl) (s_pure (p_mv rfl)) (wo_step (v := (.i .i64 3)) (s_pure (p_mv rfl)) (wo_nil (nx_norm ?_)))))
        refine w_ret ?_
        refine nx_ret ?_
        exact qf ret_ok (rt rfl (rt rfl rn)) z11
      · refine w_condF g24 ?_
        refine w_skip (nx_norm (w_seq (w_ops (wo_step (s_pure (p_mv g8)) (wo_step (v := v14) (s_pure (p_mv rfl)) (wo_step (v := (.i .i64 0)) (s_pure (p_mv rfl)) (wo_nil (nx_norm ?_))))))))
        refine w_ret ?_
        exact qf ret_ok (rt rfl (rt rfl rn)) z11
/- (dibber/vine.rules).lengths -/
abbrev g48_I0 (x1 : Int) (v10 : AVal) (v13 : AVal) (x15 : Int) (s : Int × Mm) (m1 : Mm) (t1 : Tr) : Prop :=
  match s with
  | (x16, m_3) => m_3 = m1 ∧ t1.get 16 = (.i .i64 x16) ∧ t1.get 1 = (.i .i64 x1) ∧ t1.get 5 = v10 ∧ t1.get 6 = v13 ∧ t1.get 15 = (.i .i64 x15)
abbrev g48_J0 (x1 : Int) (v10 : AVal) (v13 : AVal) (x15 : Int) (o : Mm) (e : AExit) (m1 : Mm) (t1 : Tr) : Prop :=
  match o with
  | mo => e = (.exit 0) ∧ mo = m1 ∧ t1.get 1 = (.i .i64 x1) ∧ t1.get 5 = v10 ∧ t1.get 6 = v13
def g48_b0 (M : Means) (ro : List ABlk) (x1 : Int) (v10 : AVal) (v13 : AVal) (x15 : Int) (x16 : Int) (m_3 : Mm) : Option ((Int × Mm) ⊕ (Mm)) :=
  forceB (ltI x16 x15) fun c17 =>
  cond c17 (
    bindO (evP .e (.ixS 1 (.c v13) (.c (.i .i64 x16)))) fun v21 =>
    bindP (stepM ro m_3 (.st 1 (.c v21) (.c (.i .u64 1)))) fun vn m_4 =>
    forceI (wr .i64 (x16 + 1)) fun x22 =>
    some (.inl (x22, m_4))) (
    some (.inr m_3))
abbrev g48_I1 (v10 : AVal) (x1 : Int) (s : AVal × AVal × Int × Mm) (m1 : Mm) (t1 : Tr) : Prop :=
  match s with
  | (v6, v8, x26, m_7) => m_7 = m1 ∧ t1.get 6 = v6 ∧ t1.get 8 = v8 ∧ t1.get 26 = (.i .i64 x26) ∧ t1.get 5 = v10 ∧ t1.get 25 = (.i .i64 x1)
abbrev g48_J1 (v10 : AVal) (x1 : Int) (o : (AVal × Mm)) (e : AExit) (m1 : Mm) (t1 : Tr) : Prop :=
  match o with
  | (y8, mo) => e = (.exit 2) ∧ mo = m1 ∧ t1.get 8 = y8
def g48_b1 (M : Means) (ro : List ABlk) (v10 : AVal) (x1 : Int) (v6 : AVal) (v8 : AVal) (x26 : Int) (m_7 : Mm) : Option ((AVal × AVal × Int × Mm) ⊕ ((AVal × Mm))) :=
  forceB (ltI x26 x1) fun c27 =>
  cond c27 (
    bindP (stepM ro m_7 (.bsl 63 1 [AVal.nsl] 1 [((0, 1), .c v6)])) fun v29 m_8 =>
    bindP (callM M.call m_8 57 [v29, v10]) fun v31 m_9 =>
    bindO (evP .e (.ixS 1 (.c v31) (.c (.i .i64 0)))) fun v32 =>
    bindO (ldM ro m_9 true 1 v32) fun v33 =>
    bindP (stepM ro m_9 (.bsl 63 1 [AVal.nsl] 1 [((0, 1), .c v33)])) fun v36 m_10 =>
    bindP (stepM ro m_10 (.app 63 1 24 [AVal.nsl] (.c v8) (.c v36))) fun v37 m_11 =>
    forceI (wr .i64 (x26 + 1)) fun x38 =>
    some (.inl (v33, v37, x38, m_11))) (
    some (.inr (v8, m_7)))
def g48 (M : Means) (ro : List ABlk) (v0 : AVal) (x1 : Int) (m0 : Mm) : Option (AVal × Heap × Nat × Nat) :=
  bindP (callM M.call m0 55 [v0, (AVal.fn 56 [] [])]) fun v10 m_1 =>
  bindO (evP .e (.len false (.c v0))) fun v12 =>
  asI .i64 v12 fun x12 =>
  bindP (stepM ro m_1 (.mk 61 1 8 [(AVal.i IntKind.u64 0)] (.c (.i .i64 x12)) (.c (.i .i64 x12)))) fun v13 m_2 =>
  bindO (evP .e (.len false (.c v13))) fun v15 =>
  asI .i64 v15 fun x15 =>
  bindO (M.loop (S := Int × Mm) (R := Mm) (fun s => g48_b0 M ro x1 v10 v13 x15 s.1 s.2) (0, m_2)) fun m_5 =>
  bindP (stepM ro m_5 (.bsl 63 1 [AVal.nsl] 1 [((0, 1), .c v13)])) fun v24 m_6 =>
  bindO (M.loop (S := AVal × AVal × Int × Mm) (R := (AVal × Mm)) (fun s => g48_b1 M ro v10 x1 s.1 s.2.1 s.2.2.1 s.2.2.2) (v13, v24, 0, m_6)) fun ⟨v8_1, m_12⟩ =>
  finM m0.h.length (tupA [v8_1]) m_12
theorem g48_ok {ro : List ABlk} {O : Caller} {M : Means} (hM : M.Ok ⟨F, O⟩ ro) {v0 x1 h r} (ho : O 48 [v0, (.i .i64 x1)] h = none) (hr : g48 M ro v0 x1 ⟨h, h.length, h.length⟩ = some r) : callX ⟨F, O⟩ ro 48 [v0, (.i .i64 x1)] h = some r := by
  refine callX_of (F := ⟨F, O⟩) (fn := fn48) (g := g48 M ro v0 x1) ho rfl rfl hr ?_
  clear ho
  clear hr
  intro m0 t0 ht hr
  have g0 : t0.get 0 = v0 := ht 0
  have g1 : t0.get 1 = (.i .i64 x1) := ht 1
  clear ht
  unfold g48 at hr
  refine w_seq (w_ops (wo_step (v := AVal.nsl) (s_pure (p_mv rfl)) (wo_nil (nx_norm (w_seq (w_ops (wo_step (s_pure (p_mv g0)) ?_)))))))
  obtain ⟨v10, m_1, e10, z1⟩ := bindP_inv hr
  refine wo_step (s_call (mc rfl (mc rfl mn)) (callM_le hM.call e10)) (wo_step (v := v10) (s_pure (p_mv rfl)) (wo_nil (nx_norm (w_seq (w_ops (wo_step (s_pure (p_mv g0)) ?_))))))
  obtain ⟨v12, e12, z2⟩ := bindO_inv z1
  obtain ⟨x12, rfl, z3⟩ := asI_inv z2
  refine wo_step (s_pure (o_len rfl e12)) ?_
  obtain ⟨v13, m_2, e13, z4⟩ := bindP_inv z3
  refine wo_step (s_mk rfl rfl e13) (wo_step (v := v13) (s_pure (p_mv rfl)) (wo_nil (nx_norm (w_seq (w_seq (w_ops (wo_step (v := v13) (s_pure (p_mv rfl)) ?_)))))))
  obtain ⟨v15, e15, z5⟩ := bindO_inv z4
  obtain ⟨x15, rfl, z6⟩ := asI_inv z5
  refine wo_step (s_pure (o_len rfl e15)) (wo_step (v := (.i .i64 0)) (s_pure (p_mv rfl)) (wo_nil (nx_norm ?_)))
  refine w_block ?_
  obtain ⟨o, hl_1, z7⟩ := bindO_inv z6
  obtain ⟨n_1, hl_1⟩ := hM.loop _ _ _ hl_1
  refine jp_mono (w_loop _ (g48_I0 x1 v10 v13 x15) (g48_J0 x1 v10 v13 x15) ?_ n_1 _ _ _ _ hl_1 ⟨rfl, gl rfl, gl g1, gl rfl, gl rfl, gl rfl⟩) ?_
  · clear z7 hl_1
    intro s mm_3 t_1 o hi hr
    obtain ⟨x16, m_3⟩ := s
    obtain ⟨rfl, g16, g1, g5, g6, g15⟩ := hi
    unfold g48_b0 at hr
    refine w_seq (w_ops ?_)
    obtain ⟨c17, e17, z8⟩ := forceB_inv hr
    refine wo_step (s_pure (p_bin g16 g15 (b_lss.trans (cb e17)))) (wo_nil (nx_norm (w_seq ?_)))
    rcases cond_inv z8 with ⟨rfl, z9⟩ | ⟨rfl, z9⟩
    · refine w_condT rfl ?_
      refine w_skip (nx_norm (w_seq ?_))
      refine w_block ?_
      refine w_seq (w_ops (wo_step (s_pure (p_mv g16)) (wo_step (v := (.i .i64 x16)) (s_pure (p_mv rfl)) (wo_nil (nx_norm (w_ops (wo_step (s_pure (p_mv g6)) (wo_step (v := (.i .i64 x16)) (s_pure (p_mv rfl)) ?_))))))))
      obtain ⟨v21, e21, z10⟩ := bindO_inv z9
      refine wo_step (s_pure (o_ixS rfl rfl e21)) ?_
      obtain ⟨vn, m_4, en, z11⟩ := bindP_inv z10
      refine wo_stepN (s_st rfl rfl en) ?_
      refine wo_nil ?_
      refine bk_norm ?_
      refine nx_norm (w_ops ?_)
      obtain ⟨x22, e22, z12⟩ := forceI_inv z11
      refine wo_step (s_pure (p_bin g16 rfl (b_add.trans (ci e22)))) (wo_step (v := (.i .i64 x22)) (s_pure (p_mv rfl)) (wo_nil ?_))
      cases z12
      exact ⟨_, _, rfl, rfl, rfl, gl rfl, gl g1, gl g5, gl g6, gl g15⟩
    · refine w_condF rfl ?_
      refine w_exit ?_
      refine nx_exit ?_
      cases z9
      exact ⟨_, _, rfl, ne_norm_exit, rfl, rfl, gl g1, gl g5, gl g6⟩
  · obtain ⟨m_5, ho⟩ : ∃ z, z = o := ⟨_, rfl⟩
    subst ho
    rintro _ mm_2 t_2 ⟨rfl, rfl, g1, g5, g6⟩
    refine bk_hit ?_
    refine nx_norm (w_seq (w_ops (wo_step (s_pure (p_mv g6)) ?_)))
    obtain ⟨v24, m_6, e24, z13⟩ := bindP_inv z7
    refine wo_step (s_bsl (qc rfl qn) e24) (wo_step (v := v24) (s_pure (p_mv rfl)) (wo_nil (nx_norm (w_seq (w_seq (w_ops (wo_step (s_pure (p_mv g1)) (wo_step (v := (.i .i64 0)) (s_pure (p_mv rfl)) (wo_nil (nx_norm ?_))))))))))
    refine w_block ?_
    obtain ⟨o_1, hl, z14⟩ := bindO_inv z13
    obtain ⟨n, hl⟩ := hM.loop _ _ _ hl
    refine jp_mono (w_loop _ (g48_I1 v10 x1) (g48_J1 v10 x1) ?_ n _ _ _ _ hl ⟨rfl, gl g6, gl rfl, gl rfl, gl g5, gl rfl⟩) ?_
    · clear z14 hl
      intro s mm_1 t_3 o hi hr
      obtain ⟨v6, v8, x26, m_7⟩ := s
      obtain ⟨rfl, g6, g8, g26, g5, g25⟩ := hi
      unfold g48_b1 at hr
      refine w_seq (w_ops ?_)
      obtain ⟨c27, e27, z15⟩ := forceB_inv hr
      refine wo_step (s_pure (p_bin g26 g25 (b_lss.trans (cb e27)))) (wo_nil (nx_norm (w_seq ?_)))
      rcases cond_inv z15 with ⟨rfl, z16⟩ | ⟨rfl, z16⟩
      · refine w_condT rfl ?_
        refine w_skip (nx_norm (w_seq ?_))
        refine w_block ?_
        refine w_seq (w_ops (wo_step (s_pure (p_mv g6)) ?_))
        obtain ⟨v29, m_8, e29, z17⟩ := bindP_inv z16
        refine wo_step (s_bsl (qc rfl qn) e29) (wo_step (s_pure (p_mv g5)) ?_)
        obtain ⟨v31, m_9, e31, z18⟩ := bindP_inv z17
        refine wo_step (s_call (mc rfl (mc rfl mn)) (callM_le hM.call e31)) ?_
        obtain ⟨v32, e32, z19⟩ := bindO_inv z18
        refine wo_step (s_pure (o_ixS rfl rfl e32)) ?_
        obtain ⟨v33, e33, z20⟩ := bindO_inv z19
        refine wo_step (s_ld rfl e33) (wo_step (v := v33) (s_pure (p_mv rfl)) (wo_nil (nx_norm (w_ops (wo_step (s_pure (p_mv g8)) (wo_step (v := v33) (s_pure (p_mv rfl)) ?_))))))
        obtain ⟨v36, m_10, e36, z21⟩ := bindP_inv z20
        refine wo_step (s_bsl (qc rfl qn) e36) ?_
        obtain ⟨v37, m_11, e37, z22⟩ := bindP_inv z21
        refine wo_step (s_app rfl rfl e37) (wo_step (v := v37) (s_pure (p_mv rfl)) (wo_nil ?_))
        refine bk_norm ?_
        refine nx_norm (w_ops ?_)
        obtain ⟨x38, e38, z23⟩ := forceI_inv z22
        refine wo_step (s_pure (p_bin g26 rfl (b_add.trans (ci e38)))) (wo_step (v := (.i .i64 x38)) (s_pure (p_mv rfl)) (wo_nil ?_))
        cases z23
        exact ⟨_, _, rfl, rfl, rfl, gl rfl, gl rfl, gl rfl, gl g5, gl g25⟩
      · refine w_condF rfl ?_
        refine w_exit ?_
        refine nx_exit ?_
        cases z16
        exact ⟨_, _, rfl, ne_norm_exit, rfl, rfl, gl g8⟩
    · obtain ⟨v8_1, m_12⟩ := o_1
      rintro _ mm t_4 ⟨rfl, rfl, g8⟩
      refine bk_hit ?_
      refine nx_norm (w_seq (w_ops (wo_step (s_pure (p_mv g8)) (wo_step (v := v8_1) (s_pure (p_mv rfl)) (wo_nil (nx_norm ?_))))))
      refine w_ret ?_
      exact qf ret_ok (rt rfl rn) z14
/- dibber/vine.long -/
abbrev g49_I0 (v0 : AVal) (s1 : List UInt8) (x8 : Int) (s : Int × Int × Mm) (m1 : Mm) (t1 : Tr) : Prop :=
  match s with
  | (x5, x9, m_1) => m_1 = m1 ∧ t1.get 5 = (.i .u64 x5) ∧ t1.get 9 = (.i .i64 x9) ∧ t1.get 0 = v0 ∧ t1.get 1 = (.s s1) ∧ t1.get 8 = (.i .i64 x8)
abbrev g49_J0 (v0 : AVal) (s1 : List UInt8) (x8 : Int) (o : (Int × Mm)) (e : AExit) (m1 : Mm) (t1 : Tr) : Prop :=
  match o with
  | (y5, mo) => e = (.exit 0) ∧ mo = m1 ∧ t1.get 5 = (.i .u64 y5)
def g49_b0 (M : Means) (ro : List ABlk) (v0 : AVal) (s1 : List UInt8) (x8 : Int) (x5 : Int) (x9 : Int) (m_1 : Mm) : Option ((Int × Int × Mm) ⊕ ((Int × Mm))) :=
  forceB (ltI x9 x8) fun c10 =>
  cond c10 (
    bindO (evP .e (.ixStr (.c (.s s1)) (.c (.i .i64 x9)))) fun v16 =>
    asI .u8 v16 fun x16 =>
    bindP (callM M.call m_1 54 [(.i .u8 x16)]) fun v17 m_2 =>
    asI .i64 v17 fun x17 =>
    bindO (evP .e (.ixS 1 (.c v0) (.c (.i .i64 x17)))) fun v18 =>
    bindO (ldM ro m_2 true 1 v18) fun v19 =>
    asI .u64 v19 fun x19 =>
    bindP (callM M.call m_2 86 [(.i .u64 x5), (.i .u64 x19)]) fun v20 m_3 =>
    asI .u64 v20 fun x20 =>
    forceI (wr .i64 (x9 + 1)) fun x21 =>
    some (.inl (x20, x21, m_3))) (
    some (.inr (x5, m_1)))
def g49 (M : Means) (ro : List ABlk) (v0 : AVal) (s1 : List UInt8) (m0 : Mm) : Option (AVal × Heap × Nat × Nat) :=
  bindO (evP .e (.len true (.c (.s s1)))) fun v8 =>
  asI .i64 v8 fun x8 =>
  bindO (M.loop (S := Int × Int × Mm) (R := (Int × Mm)) (fun s => g49_b0 M ro v0 s1 x8 s.1 s.2.1 s.2.2) (0, 0, m0)) fun ⟨x5_1, m_4⟩ =>
  finM m0.h.length (tupA [(.i .u64 x5_1)]) m_4
theorem g49_ok {ro : List ABlk} {O : Caller} {M : Means} (hM : M.Ok ⟨F, O⟩ ro) {v0 s1 h r} (ho : O 49 [v0, (.s s1)] h = none) (hr : g49 M ro v0 s1 ⟨h, h.length, h.length⟩ = some r) : callX ⟨F, O⟩ ro 49 [v0, (.s s1)] h = some r := by
  refine callX_of (F := ⟨F, O⟩) (fn := fn49) (g := g49 M ro v0 s1) ho rfl rfl hr ?_
  clear ho
  clear hr
  intro m0 t0 ht hr
  have g0 : t0.get 0 = v0 := ht 0
  have g1 : t0.get 1 = (.s s1) := ht 1
  clear ht
  unfold g49 at hr
  refine w_seq (w_ops (wo_step (v := (.i .u64 0)) (s_pure (p_mv rfl)) (wo_nil (nx_norm (w_seq (w_ops (wo_step (v := (.i .u64 0)) (s_pure (p_mv rfl)) (wo_nil (nx_norm (w_seq (w_seq ?_)))))))))))
  refine w_ops (wo_step (s_pure (p_mv g1)) ?_)
  obtain ⟨v8, e8, z1⟩ := bindO_inv hr
  obtain ⟨x8, rfl, z2⟩ := asI_inv z1
  refine wo_step (s_pure (o_len rfl e8)) (wo_step (v := (.i .i64 0)) (s_pure (p_mv rfl)) (wo_nil (nx_norm ?_)))
  refine w_block ?_
  obtain ⟨o, hl, z3⟩ := bindO_inv z2
  obtain ⟨n, hl⟩ := hM.loop _ _ _ hl
  refine jp_mono (w_loop _ (g49_I0 v0 s1 x8) (g49_J0 v0 s1 x8) ?_ n _ _ _ _ hl ⟨rfl, gl rfl, gl rfl, gl g0, gl g1, gl rfl⟩) ?_
  · clear z3 hl
    intro s mm_1 t_1 o hi hr
    obtain ⟨x5, x9, m_1⟩ := s
    obtain ⟨rfl, g5, g9, g0, g1, g8⟩ := hi
    unfold g49_b0 at hr
    refine w_seq (w_ops ?_)
    obtain ⟨c10, e10, z4⟩ := forceB_inv hr
    refine wo_step (s_pure (p_bin g9 g8 (b_lss.trans (cb e10)))) (wo_nil (nx_norm (w_seq ?_)))
    rcases cond_inv z4 with ⟨rfl, z5⟩ | ⟨rfl, z5⟩
    · refine w_condT rfl ?_
      refine w_skip (nx_norm (w_seq ?_))
      refine w_block ?_
      refine w_seq (w_ops (wo_step (s_pure (p_mv g9)) (wo_step (v := (.i .i64 x9)) (s_pure (p_mv rfl)) (wo_nil (nx_norm (w_ops (wo_step (s_pure (p_mv g5)) (wo_step (s_pure (p_mv g0)) (wo_step (s_pure (p_mv g1)) (wo_step (v := (.i .i64 x9)) (s_pure (p_mv rfl)) ?_))))))))))
      obtain ⟨v16, e16, z6⟩ := bindO_inv z5
      obtain ⟨x16, rfl, z7⟩ := asI_inv z6
      refine wo_step (s_pure (o_ixStr rfl rfl e16)) ?_
      obtain ⟨v17, m_2, e17, z8⟩ := bindP_inv z7
      obtain ⟨x17, rfl, z9⟩ := asI_inv z8
      refine wo_step (s_call (mc rfl mn) (callM_le hM.call e17)) ?_
      obtain ⟨v18, e18, z10⟩ := bindO_inv z9
      refine wo_step (s_pure (o_ixS rfl rfl e18)) ?_
      obtain ⟨v19, e19, z11⟩ := bindO_inv z10
      obtain ⟨x19, rfl, z12⟩ := asI_inv z11
      refine wo_step (s_ld rfl e19) ?_
      obtain ⟨v20, m_3, e20, z13⟩ := bindP_inv z12
      obtain ⟨x20, rfl, z14⟩ := asI_inv z13
      refine wo_step (s_call (mc rfl (mc rfl mn)) (callM_le hM.call e20)) (wo_step (v := (.i .u64 x20)) (s_pure (p_mv rfl)) (wo_nil ?_))
      refine bk_norm ?_
      refine nx_norm (w_ops ?_)
      obtain ⟨x21, e21, z15⟩ := forceI_inv z14
      refine wo_step (s_pure (p_bin g9 rfl (b_add.trans (ci e21)))) (wo_step (v := (.i .i64 x21)) (s_pure (p_mv rfl)) (wo_nil ?_))
      cases z15
      exact ⟨_, _, rfl, rfl, rfl, gl rfl, gl rfl, gl g0, gl g1, gl g8⟩
    · refine w_condF rfl ?_
      refine w_exit ?_
      refine nx_exit ?_
      cases z5
      exact ⟨_, _, rfl, ne_norm_exit, rfl, rfl, gl g5⟩
  · obtain ⟨x5_1, m_4⟩ := o
    rintro _ mm t_2 ⟨rfl, rfl, g5⟩
    refine bk_hit ?_
    refine nx_norm (w_seq (w_ops (wo_step (s_pure (p_mv g5)) (wo_step (v := (.i .u64 x5_1)) (s_pure (p_mv rfl)) (wo_nil (nx_norm ?_))))))
    refine w_ret ?_
    exact qf ret_ok (rt rfl rn) z3
/- dibber/vine.part -/

def g54 (M : Means) (ro : List ABlk) (x0 : Int) (m0 : Mm) : Option (AVal × Heap × Nat × Nat) :=
  forceI (wr .i64 x0) fun x4 =>
  forceI (wr .i64 (x4 - 97)) fun x5 =>
  finM m0.h.length (tupA [(.i .i64 x5)]) m0
theorem g54_ok {ro : List ABlk} {O : Caller} {M : Means} (hM : M.Ok ⟨F, O⟩ ro) {x0 h r} (ho : O 54 [(.i .u8 x0)] h = none) (hr : g54 M ro x0 ⟨h, h.length, h.length⟩ = some r) : callX ⟨F, O⟩ ro 54 [(.i .u8 x0)] h = some r := by
  refine callX_of (F := ⟨F, O⟩) (fn := fn54) (g := g54 M ro x0) ho rfl rfl hr ?_
  clear ho
  clear hr
  intro m0 t0 ht hr
  have g0 : t0.get 0 = (.i .u8 x0) := ht 0
  clear ht
  unfold g54 at hr
  refine w_seq (w_ops (wo_step (v := (.i .i64 0)) (s_pure (p_mv rfl)) (wo_nil (nx_norm (w_seq (w_ops (wo_step (s_pure (p_mv g0)) ?_)))))))
  obtain ⟨x4, e4, z1⟩ := forceI_inv hr
  refine wo_step (s_pure ((p_conv rfl).trans (ci e4))) ?_
  obtain ⟨x5, e5, z2⟩ := forceI_inv z1
  refine wo_step (s_pure (p_bin rfl rfl (b_sub.trans (ci e5)))) (wo_step (v := (.i .i64 x5)) (s_pure (p_mv rfl)) (wo_nil (nx_norm ?_)))
  refine w_ret ?_
  exact qf ret_ok (rt rfl rn) z2
/- dibber/vine.matrix[dibber/vine.many] -/
abbrev g55_I0 (v0 : AVal) (v1 : AVal) (v11 : AVal) (x13 : Int) (s : Int × Mm) (m1 : Mm) (t1 : Tr) : Prop :=
  match s with
  | (x14, m_2) => m_2 = m1 ∧ t1.get 14 = (.i .i64 x14) ∧ t1.get 0 = v0 ∧ t1.get 1 = v1 ∧ t1.get 5 = v11 ∧ t1.get 13 = (.i .i64 x13)
abbrev g55_J0 (v0 : AVal) (v1 : AVal) (v11 : AVal) (x13 : Int) (o : Mm) (e : AExit) (m1 : Mm) (t1 : Tr) : Prop :=
  match o with
  | mo => e = (.exit 0) ∧ mo = m1 ∧ t1.get 5 = v11
abbrev g55_I1 (v0 : AVal) (v1 : AVal) (v11 : AVal) (x14 : Int) (x13 : Int) (x18 : Int) (s : Int × Mm) (m1 : Mm) (t1 : Tr) : Prop :=
  match s with
  | (x19, m_3) => m_3 = m1 ∧ t1.get 19 = (.i .i64 x19) ∧ t1.get 0 = v0 ∧ t1.get 1 = v1 ∧ t1.get 5 = v11 ∧ t1.get 6 = (.i .i64 x14) ∧ t1.get 13 = (.i .i64 x13) ∧ t1.get 14 = (.i .i64 x14) ∧ t1.get 17 = v0 ∧ t1.get 18 = (.i .i64 x18)
abbrev g55_J1 (v0 : AVal) (v1 : AVal) (v11 : AVal) (x14 : Int) (x13 : Int) (x18 : Int) (o : Mm) (e : AExit) (m1 : Mm) (t1 : Tr) : Prop :=
  match o with
  | mo => e = (.exit 2) ∧ mo = m1 ∧ t1.get 0 = v0 ∧ t1.get 1 = v1 ∧ t1.get 5 = v11 ∧ t1.get 13 = (.i .i64 x13) ∧ t1.get 14 = (.i .i64 x14)
def g55_b1 (M : Means) (ro : List ABlk) (v0 : AVal) (v1 : AVal) (v11 : AVal) (x14 : Int) (x13 : Int) (x18 : Int) (x19 : Int) (m_3 : Mm) : Option ((Int × Mm) ⊕ (Mm)) :=
  forceB (ltI x19 x18) fun c20 =>
  cond c20 (
    bindO (evP .e (.ixS 1 (.c v0) (.c (.i .i64 x19)))) fun v21 =>
    bindO (ldM ro m_3 true 1 v21) fun v22 =>
    asS v22 fun s22 =>
    bindO (some (Mm.base m_3)) fun m_4 =>
    bindO (evP .e (.ixS 1 (.c v11) (.c (.i .i64 x14)))) fun v27 =>
    bindO (ldA ro m_3.h true 1 v27) fun v28 =>
    bindP (callM M.call m_4 89 [(.i .i64 x14)]) fun v32 m_5 =>
    asS v32 fun s32 =>
    chk (!Nat.blt m_5.lw m_3.h.length) <|
    bindP (callM M.call m_5 88 [(.s s22), (.s s32)]) fun v33 m_6 =>
    asI .i64 v33 fun x33 =>
    chk (!Nat.blt m_6.lw m_3.h.length) <|
    bindP (callvM M.call m_6 v1 [(.i .i64 x33)]) fun v34 m_7 =>
    asI .u64 v34 fun x34 =>
    chk (!Nat.blt m_7.lw m_3.h.length) <|
    bindP (stepM ro m_7 (.bsl 61 1 [(AVal.i IntKind.u64 0)] 1 [((0, 1), .c (.i .u64 x34))])) fun v35 m_8 =>
    chk (!Nat.blt m_8.lw m_3.h.length) <|
    bindP (stepM ro m_8 (.app 61 1 8 [(AVal.i IntKind.u64 0)] (.c v28) (.c v35))) fun v36 m_9 =>
    bindO (evP .e (.ixS 1 (.c v11) (.c (.i .i64 x14)))) fun v37 =>
    bindP (stepM ro m_9 (.st 1 (.c v37) (.c v36))) fun vn m_10 =>
    bindO (some (Mm.join m_3 m_10)) fun m_11 =>
    forceI (wr .i64 (x19 + 1)) fun x38 =>
    some (.inl (x38, m_11))) (
    some (.inr m_3))
def g55_b0 (M : Means) (ro : List ABlk) (v0 : AVal) (v1 : AVal) (v11 : AVal) (x13 : Int) (x14 : Int) (m_2 : Mm) : Option ((Int × Mm) ⊕ (Mm)) :=
  forceB (ltI x14 x13) fun c15 =>
  cond c15 (
    bindO (evP .e (.len false (.c v0))) fun v18 =>
    asI .i64 v18 fun x18 =>
    bindO (M.loop (S := Int × Mm) (R := Mm) (fun s => g55_b1 M ro v0 v1 v11 x14 x13 x18 s.1 s.2) (0, m_2)) fun m_12 =>
    forceI (wr .i64 (x14 + 1)) fun x39 =>
    some (.inl (x39, m_12))) (
    some (.inr m_2))
def g55 (M : Means) (ro : List ABlk) (v0 : AVal) (v1 : AVal) (m0 : Mm) : Option (AVal × Heap × Nat × Nat) :=
  bindO (evP .e (.len false (.c v0))) fun v10 =>
  asI .i64 v10 fun x10 =>
  bindP (stepM ro m0 (.mk 63 1 24 [AVal.nsl] (.c (.i .i64 x10)) (.c (.i .i64 x10)))) fun v11 m_1 =>
  bindO (evP .e (.len false (.c v0))) fun v13 =>
  asI .i64 v13 fun x13 =>
  bindO (M.loop (S := Int × Mm) (R := Mm) (fun s => g55_b0 M ro v0 v1 v11 x13 s.1 s.2) (0, m_1)) fun m_13 =>
  finM m0.h.length (tupA [v11]) m_13
theorem g55_ok {ro : List ABlk} {O : Caller} {M : Means} (hM : M.Ok ⟨F, O⟩ ro) {v0 v1 h r} (ho : O 55 [v0, v1] h = none) (hr : g55 M ro v0 v1 ⟨h, h.length, h.length⟩ = some r) : callX ⟨F, O⟩ ro 55 [v0, v1] h = some r := by
  refine callX_of (F := ⟨F, O⟩) (fn := fn55) (g := g55 M ro v0 v1) ho rfl rfl hr ?_
  clear ho
  clear hr
  intro m0 t0 ht hr
  have g0 : t0.get 0 = v0 := ht 0
  have g1 : t0.get 1 = v1 := ht 1
  clear ht
  unfold g55 at hr
  refine w_seq (w_ops (wo_step (v := AVal.nsl) (s_pure (p_mv rfl)) (wo_nil (nx_norm (w_seq (w_ops (wo_step (s_pure (p_mv g0)) ?_)))))))
  obtain ⟨v10, e10, z1⟩ := bindO_inv hr
  obtain ⟨x10, rfl, z2⟩ := asI_inv z1
  refine wo_step (s_pure (o_len rfl e10)) ?_
  obtain ⟨v11, m_1, e11, z3⟩ := bindP_inv z2
  refine wo_step (s_mk rfl rfl e11) (wo_step (v := v11) (s_pure (p_mv rfl)) (wo_nil (nx_norm (w_seq (w_seq (w_ops (wo_step (s_pure (p_mv g0)) ?_)))))))
  obtain ⟨v13, e13, z4⟩ := bindO_inv z3
  obtain ⟨x13, rfl, z5⟩ := asI_inv z4
  refine wo_step (s_pure (o_len rfl e13)) (wo_step (v := (.i .i64 0)) (s_pure (p_mv rfl)) (wo_nil (nx_norm ?_)))
  refine w_block ?_
  obtain ⟨o_1, hl_1, z6⟩ := bindO_inv z5
  obtain ⟨n_1, hl_1⟩ := hM.loop _ _ _ hl_1
  refine jp_mono (w_loop _ (g55_I0 v0 v1 v11 x13) (g55_J0 v0 v1 v11 x13) ?_ n_1 _ _ _ _ hl_1 ⟨rfl, gl rfl, gl g0, gl g1, gl rfl, gl rfl⟩) ?_
  · clear z6 hl_1
    intro s mm_3 t_1 o hi hr
    obtain ⟨x14, m_2⟩ := s
    obtain ⟨rfl, g14, g0, g1, g5, g13⟩ := hi
    unfold g55_b0 at hr
    refine w_seq (w_ops ?_)
    obtain ⟨c15, e15, z7⟩ := forceB_inv hr
    refine wo_step (s_pure (p_bin g14 g13 (b_lss.trans (cb e15)))) (wo_nil (nx_norm (w_seq ?_)))
    rcases cond_inv z7 with ⟨rfl, z8⟩ | ⟨rfl, z8⟩
    · refine w_condT rfl ?_
      refine w_skip (nx_norm (w_seq ?_))
      refine w_block ?_
      refine w_seq (w_ops (wo_step (s_pure (p_mv g14)) (wo_step (v := (.i .i64 x14)) (s_pure (p_mv rfl)) (wo_nil (nx_norm (w_seq (w_ops (wo_step (s_pure (p_mv g0)) ?_))))))))
      obtain ⟨v18, e18, z9⟩ := bindO_inv z8
      obtain ⟨x18, rfl, z10⟩ := asI_inv z9
      refine wo_step (s_pure (o_len rfl e18)) (wo_step (v := (.i .i64 0)) (s_pure (p_mv rfl)) (wo_nil (nx_norm ?_)))
      refine w_block ?_
      obtain ⟨o, hl, z11⟩ := bindO_inv z10
      obtain ⟨n, hl⟩ := hM.loop _ _ _ hl
      refine jp_mono (w_loop _ (g55_I1 v0 v1 v11 x14 x13 x18) (g55_J1 v0 v1 v11 x14 x13 x18) ?_ n _ _ _ _ hl ⟨rfl, gl rfl, gl g0, gl g1, gl g5, gl rfl, gl g13, gl g14, gl rfl, gl rfl⟩) ?_
      · clear z11 hl
        intro s mm_1 t_2 o hi hr
        obtain ⟨x19, m_3⟩ := s
        obtain ⟨rfl, g19, g0, g1, g5, g6, g13, g14, g17, g18⟩ := hi
        unfold g55_b1 at hr
        refine w_seq (w_ops ?_)
        obtain ⟨c20, e20, z12⟩ := forceB_inv hr
        refine wo_step (s_pure (p_bin g19 g18 (b_lss.trans (cb e20)))) (wo_nil (nx_norm (w_seq ?_)))
        rcases cond_inv z12 with ⟨rfl, z13⟩ | ⟨rfl, z13⟩
        · refine w_condT rfl ?_
          refine w_skip (nx_norm (w_seq ?_))
          refine w_block ?_
          refine w_seq (w_ops ?_)
          obtain ⟨v21, e21, z14⟩ := bindO_inv z13
          refine wo_step (s_pure (o_ixS g17 g19 e21)) ?_
          obtain ⟨v22, e22, z15⟩ := bindO_inv z14
          obtain ⟨s22, rfl, z16⟩ := asS_inv z15
          refine wo_step (s_ld rfl e22) (wo_step (v := (.s s22)) (s_pure (p_mv rfl)) (wo_nil (nx_norm ?_)))
          obtain ⟨m_4, ef, z17⟩ := bindO_inv z16
          refine w_flt (af := true) rfl ef ?_
          refine wf_step (v := v11) (f_P rfl (s_pure (p_mv g5))) ?_
          refine wf_step (v := (.i .i64 x14)) (f_P rfl (s_pure (p_mv g6))) ?_
          refine wf_step (v := v11) (f_P rfl (s_pure (p_mv g5))) ?_
          refine wf_step (v := (.i .i64 x14)) (f_P rfl (s_pure (p_mv g6))) ?_
          obtain ⟨v27, e27, z18⟩ := bindO_inv z17
          refine wf_step (v := v27) (f_P rfl (s_pure (o_ixS rfl rfl e27))) ?_
          obtain ⟨v28, e28, z19⟩ := bindO_inv z18
          refine wf_step (v := v28) (f_ld rfl e28) ?_
          refine wf_step (v := v1) (f_P rfl (s_pure (p_mv g1))) ?_
          refine wf_step (v := (.s s22)) (f_P rfl (s_pure (p_mv rfl))) ?_
          refine wf_step (v := (.i .i64 x14)) (f_P rfl (s_pure (p_mv g6))) ?_
          obtain ⟨v32, m_5, e32, z20⟩ := bindP_inv z19
          obtain ⟨s32, rfl, z21⟩ := asS_inv z20
          obtain ⟨hc32, z22⟩ := chk_inv z21
          refine wf_step (v := (.s s32)) (f_M hc32 (s_call (mc rfl mn) (callM_le hM.call e32))) ?_
          obtain ⟨v33, m_6, e33, z23⟩ := bindP_inv z22
          obtain ⟨x33, rfl, z24⟩ := asI_inv z23
          obtain ⟨hc33, z25⟩ := chk_inv z24
          refine wf_step (v := (.i .i64 x33)) (f_M hc33 (s_call (mc rfl (mc rfl mn)) (callM_le hM.call e33))) ?_
          obtain ⟨v34, m_7, e34, z26⟩ := bindP_inv z25
          obtain ⟨x34, rfl, z27⟩ := asI_inv z26
          obtain ⟨hc34, z28⟩ := chk_inv z27
          refine wf_step (v := (.i .u64 x34)) (f_M hc34 (s_callv rfl (mc rfl mn) (callvM_le hM.call e34))) ?_
          obtain ⟨v35, m_8, e35, z29⟩ := bindP_inv z28
          obtain ⟨hc35, z30⟩ := chk_inv z29
          refine wf_step (v := v35) (f_M hc35 (s_bsl (qc rfl qn) e35)) ?_
          obtain ⟨v36, m_9, e36, z31⟩ := bindP_inv z30
          refine wf_step (v := v36) (f_F rfl (s_app rfl rfl e36)) ?_
          obtain ⟨v37, e37, z32⟩ := bindO_inv z31
          refine wf_step (v := v37) (f_P rfl (s_pure (o_ixS rfl rfl e37))) ?_
          obtain ⟨vn, m_10, en, z33⟩ := bindP_inv z32
          refine wf_stepN (f_F rfl (s_st rfl rfl en)) ?_
          obtain ⟨m_11, ef_1, z34⟩ := bindO_inv z33
          refine wf_end ef_1 ?_
          refine bk_norm ?_
          refine nx_norm (w_ops ?_)
          obtain ⟨x38, e38, z35⟩ := forceI_inv z34
          refine wo_step (s_pure (p_bin g19 rfl (b_add.trans (ci e38)))) (wo_step (v := (.i .i64 x38)) (s_pure (p_mv rfl)) (wo_nil ?_))
          cases z35
          exact ⟨_, _, rfl, rfl, rfl, gl rfl, gl g0, gl g1, gl g5, gl g6, gl g13, gl g14, gl g17, gl g18⟩
        · refine w_condF rfl ?_
          refine w_exit ?_
          refine nx_exit ?_
          cases z13
          exact ⟨_, _, rfl, ne_norm_exit, rfl, rfl, gl g0, gl g1, gl g5, gl g13, gl g14⟩
      · obtain ⟨m_12, ho⟩ : ∃ z, z = o := ⟨_, rfl⟩
        subst ho
        rintro _ mm t_3 ⟨rfl, rfl, g0, g1, g5, g13, g14⟩
        refine bk_hit ?_
        refine bk_norm ?_
        refine nx_norm (w_ops ?_)
        obtain ⟨x39, e39, z36⟩ := forceI_inv z11
        refine wo_step (s_pure (p_bin g14 rfl (b_add.trans (ci e39)))) (wo_step (v := (.i .i64 x39)) (s_pure (p_mv rfl)) (wo_nil ?_))
        cases z36
        exact ⟨_, _, rfl, rfl, rfl, gl rfl, gl g0, gl g1, gl g5, gl g13⟩
    · refine w_condF rfl ?_
      refine w_exit ?_
      refine nx_exit ?_
      cases z8
      exact ⟨_, _, rfl, ne_norm_exit, rfl, rfl, gl g5⟩
  · obtain ⟨m_13, ho⟩ : ∃ z, z = o_1 := ⟨_, rfl⟩
    subst ho
    rintro _ mm_2 t_4 ⟨rfl, rfl, g5⟩
    refine bk_hit ?_
    refine nx_norm (w_seq (w_ops (wo_step (s_pure (p_mv g5)) (wo_step (v := v11) (s_pure (p_mv rfl)) (wo_nil (nx_norm ?_))))))
    refine w_ret ?_
    exact qf ret_ok (rt rfl rn) z6
/- dibber/vine.asMany -/

def g56 (M : Means) (ro : List ABlk) (x0 : Int) (m0 : Mm) : Option (AVal × Heap × Nat × Nat) :=
  forceI (wr .u64 x0) fun x4 =>
  finM m0.h.length (tupA [(.i .u64 x4)]) m0
theorem g56_ok {ro : List ABlk} {O : Caller} {M : Means} (hM : M.Ok ⟨F, O⟩ ro) {x0 h r} (ho : O 56 [(.i .i64 x0)] h = none) (hr : g56 M ro x0 ⟨h, h.length, h.length⟩ = some r) : callX ⟨F, O⟩ ro 56 [(.i .i64 x0)] h = some r := by
  refine callX_of (F := ⟨F, O⟩) (fn := fn56) (g := g56 M ro x0) ho rfl rfl hr ?_
  clear ho
  clear hr
  intro m0 t0 ht hr
  have g0 : t0.get 0 = (.i .i64 x0) := ht 0
  clear ht
  unfold g56 at hr
  refine w_seq (w_ops (wo_step (v := (.i .u64 0)) (s_pure (p_mv rfl)) (wo_nil (nx_norm (w_seq (w_ops (wo_step (s_pure (p_mv g0)) ?_)))))))
  obtain ⟨x4, e4, z1⟩ := forceI_inv hr
  refine wo_step (s_pure ((p_conv rfl).trans (ci e4))) (wo_step (v := (.i .u64 x4)) (s_pure (p_mv rfl)) (wo_nil (nx_norm ?_)))
  refine w_ret ?_
  exact qf ret_ok (rt rfl rn) z1
/- dibber/vine.product[dibber/vine.many] -/
abbrev g57_I0 (v1 : AVal) (v13 : AVal) (v0 : AVal) (x15 : Int) (s : Int × Mm) (m1 : Mm) (t1 : Tr) : Prop :=
  match s with
  | (x16, m_2) => m_2 = m1 ∧ t1.get 16 = (.i .i64 x16) ∧ t1.get 1 = v1 ∧ t1.get 5 = v13 ∧ t1.get 14 = v0 ∧ t1.get 15 = (.i .i64 x15)
abbrev g57_J0 (v1 : AVal) (v13 : AVal) (v0 : AVal) (x15 : Int) (o : Mm) (e : AExit) (m1 : Mm) (t1 : Tr) : Prop :=
  match o with
  | mo => e = (.exit 0) ∧ mo = m1 ∧ t1.get 5 = v13
abbrev g57_I1 (v1 : AVal) (v13 : AVal) (x16 : Int) (v20 : AVal) (v0 : AVal) (x15 : Int) (x33 : Int) (s : Int × Mm) (m1 : Mm) (t1 : Tr) : Prop :=
  match s with
  | (x34, m_5) => m_5 = m1 ∧ t1.get 34 = (.i .i64 x34) ∧ t1.get 1 = v1 ∧ t1.get 5 = v13 ∧ t1.get 6 = (.i .i64 x16) ∧ t1.get 7 = v20 ∧ t1.get 14 = v0 ∧ t1.get 15 = (.i .i64 x15) ∧ t1.get 16 = (.i .i64 x16) ∧ t1.get 33 = (.i .i64 x33)
abbrev g57_J1 (v1 : AVal) (v13 : AVal) (x16 : Int) (v20 : AVal) (v0 : AVal) (x15 : Int) (x33 : Int) (o : Mm) (e : AExit) (m1 : Mm) (t1 : Tr) : Prop :=
  match o with
  | mo => e = (.exit 2) ∧ mo = m1 ∧ t1.get 1 = v1 ∧ t1.get 5 = v13 ∧ t1.get 14 = v0 ∧ t1.get 15 = (.i .i64 x15) ∧ t1.get 16 = (.i .i64 x16)
abbrev g57_I2 (v1 : AVal) (v13 : AVal) (x16 : Int) (v20 : AVal) (x34 : Int) (v0 : AVal) (x15 : Int) (x33 : Int) (x38 : Int) (s : Int × Mm) (m1 : Mm) (t1 : Tr) : Prop :=
  match s with
  | (x39, m_6) => m_6 = m1 ∧ t1.get 39 = (.i .i64 x39) ∧ t1.get 1 = v1 ∧ t1.get 5 = v13 ∧ t1.get 6 = (.i .i64 x16) ∧ t1.get 7 = v20 ∧ t1.get 8 = (.i .i64 x34) ∧ t1.get 14 = v0 ∧ t1.get 15 = (.i .i64 x15) ∧ t1.get 16 = (.i .i64 x16) ∧ t1.get 33 = (.i .i64 x33) ∧ t1.get 34 = (.i .i64 x34) ∧ t1.get 37 = v20 ∧ t1.get 38 = (.i .i64 x38)
abbrev g57_J2 (v1 : AVal) (v13 : AVal) (x16 : Int) (v20 : AVal) (x34 : Int) (v0 : AVal) (x15 : Int) (x33 : Int) (x38 : Int) (o : Mm) (e : AExit) (m1 : Mm) (t1 : Tr) : Prop :=
  match o with
  | mo => e = (.exit 4) ∧ mo = m1 ∧ t1.get 1 = v1 ∧ t1.get 5 = v13 ∧ t1.get 6 = (.i .i64 x16) ∧ t1.get 7 = v20 ∧ t1.get 14 = v0 ∧ t1.get 15 = (.i .i64 x15) ∧ t1.get 16 = (.i .i64 x16) ∧ t1.get 33 = (.i .i64 x33) ∧ t1.get 34 = (.i .i64 x34)
def g57_b2 (M : Means) (ro : List ABlk) (v1 : AVal) (v13 : AVal) (x16 : Int) (v20 : AVal) (x34 : Int) (v0 : AVal) (x15 : Int) (x33 : Int) (x38 : Int) (x39 : Int) (m_6 : Mm) : Option ((Int × Mm) ⊕ (Mm)) :=
  forceB (ltI x39 x38) fun c40 =>
  cond c40 (
    bindO (evP .e (.ixS 1 (.c v20) (.c (.i .i64 x39)))) fun v42 =>
    bindO (ldM ro m_6 true 1 v42) fun v43 =>
    asI .u64 v43 fun x43 =>
    bindO (some (Mm.base m_6)) fun m_7 =>
    bindO (evP .e (.ixS 1 (.c v13) (.c (.i .i64 x16)))) fun v46 =>
    bindO (ldA ro m_6.h true 1 v46) fun v47 =>
    bindO (evP .e (.ixS 1 (.c v13) (.c (.i .i64 x16)))) fun v51 =>
    bindO (ldA ro m_6.h true 1 v51) fun v52 =>
    bindO (evP .e (.ixS 1 (.c v52) (.c (.i .i64 x34)))) fun v54 =>
    bindO (ldA ro m_6.h true 1 v54) fun v55 =>
    asI .u64 v55 fun x55 =>
    bindO (some (AVal.ifc 61 (.i .u64 x55))) fun v56 =>
    bindO (some (AVal.ifc 61 (.i .u64 x43))) fun v58 =>
    bindO (evP .e (.ixS 1 (.c v1) (.c (.i .i64 x39)))) fun v61 =>
    bindO (ldM ro m_7 true 1 v61) fun v62 =>
    bindO (evP .e (.ixS 1 (.c v62) (.c (.i .i64 x34)))) fun v64 =>
    bindO (ldM ro m_7 true 1 v64) fun v65 =>
    asI .u64 v65 fun x65 =>
    bindP (calliM M.call m_7 [(61, (126, [])), (106, (129, [])), (122, (131, []))] v58 [(.i .u64 x65)]) fun v66 m_8 =>
    asI .u64 v66 fun x66 =>
    chk (!Nat.blt m_8.lw m_6.h.length) <|
    bindP (calliM M.call m_8 [(61, (86, [])), (106, (128, [])), (122, (130, []))] v56 [(.i .u64 x66)]) fun v67 m_9 =>
    asI .u64 v67 fun x67 =>
    chk (!Nat.blt m_9.lw m_6.h.length) <|
    bindO (evP .e (.ixS 1 (.c v47) (.c (.i .i64 x34)))) fun v68 =>
    bindP (stepM ro m_9 (.st 1 (.c v68) (.c (.i .u64 x67)))) fun vn_1 m_10 =>
    bindO (some (Mm.join m_6 m_10)) fun m_11 =>
    forceI (wr .i64 (x39 + 1)) fun x69 =>
    some (.inl (x69, m_11))) (
    some (.inr m_6))
def g57_b1 (M : Means) (ro : List ABlk) (v1 : AVal) (v13 : AVal) (x16 : Int) (v20 : AVal) (v0 : AVal) (x15 : Int) (x33 : Int) (x34 : Int) (m_5 : Mm) : Option ((Int × Mm) ⊕ (Mm)) :=
  forceB (ltI x34 x33) fun c35 =>
  cond c35 (
    bindO (evP .e (.len false (.c v20))) fun v38 =>
    asI .i64 v38 fun x38 =>
    bindO (M.loop (S := Int × Mm) (R := Mm) (fun s => g57_b2 M ro v1 v13 x16 v20 x34 v0 x15 x33 x38 s.1 s.2) (0, m_5)) fun m_12 =>
    forceI (wr .i64 (x34 + 1)) fun x70 =>
    some (.inl (x70, m_12))) (
    some (.inr m_5))
def g57_b0 (M : Means) (ro : List ABlk) (v1 : AVal) (v13 : AVal) (v0 : AVal) (x15 : Int) (x16 : Int) (m_2 : Mm) : Option ((Int × Mm) ⊕ (Mm)) :=
  forceB (ltI x16 x15) fun c17 =>
  cond c17 (
    bindO (evP .e (.ixS 1 (.c v0) (.c (.i .i64 x16)))) fun v19 =>
    bindO (ldM ro m_2 true 1 v19) fun v20 =>
    bindO (evP .e (.ixS 1 (.c v1) (.c (.i .i64 0)))) fun v24 =>
    bindO (ldM ro m_2 true 1 v24) fun v25 =>
    bindO (evP .e (.len false (.c v25))) fun v26 =>
    asI .i64 v26 fun x26 =>
    bindP (stepM ro m_2 (.mk 61 1 8 [(AVal.i IntKind.u64 0)] (.c (.i .i64 x26)) (.c (.i .i64 x26)))) fun v27 m_3 =>
    bindO (evP .e (.ixS 1 (.c v13) (.c (.i .i64 x16)))) fun v28 =>
    bindP (stepM ro m_3 (.st 1 (.c v28) (.c v27))) fun vn m_4 =>
    bindO (evP .e (.ixS 1 (.c v13) (.c (.i .i64 x16)))) fun v31 =>
    bindO (ldM ro m_4 true 1 v31) fun v32 =>
    bindO (evP .e (.len false (.c v32))) fun v33 =>
    asI .i64 v33 fun x33 =>
    bindO (M.loop (S := Int × Mm) (R := Mm) (fun s => g57_b1 M ro v1 v13 x16 v20 v0 x15 x33 s.1 s.2) (0, m_4)) fun m_13 =>
    forceI (wr .i64 (x16 + 1)) fun x71 =>
    some (.inl (x71, m_13))) (
    some (.inr m_2))
def g57 (M : Means) (ro : List ABlk) (v0 : AVal) (v1 : AVal) (m0 : Mm) : Option (AVal × Heap × Nat × Nat) :=
  bindO (evP .e (.len false (.c v0))) fun v12 =>
  asI .i64 v12 fun x12 =>
  bindP (stepM ro m0 (.mk 63 1 24 [AVal.nsl] (.c (.i .i64 x12)) (.c (.i .i64 x12)))) fun v13 m_1 =>
  bindO (evP .e (.len false (.c v0))) fun v15 =>
  asI .i64 v15 fun x15 =>
  bindO (M.loop (S := Int × Mm) (R := Mm) (fun s => g57_b0 M ro v1 v13 v0 x15 s.1 s.2) (0, m_1)) fun m_14 =>
  finM m0.h.length (tupA [v13]) m_14
theorem g57_ok {ro : List ABlk} {O : Caller} {M : Means} (hM : M.Ok ⟨F, O⟩ ro) {v0 v1 h r} (ho : O 57 [v0, v1] h = none) (hr : g57 M ro v0 v1 ⟨h, h.length, h.length⟩ = some r) : callX ⟨F, O⟩ ro 57 [v0, v1] h = some r := by
  refine callX_of (F := ⟨F, O⟩) (fn := fn57) (g := g57 M ro v0 v1) ho rfl rfl hr ?_
  clear ho
  clear hr
  intro m0 t0 ht hr
  have g0 : t0.get 0 = v0 := ht 0
  have g1 : t0.get 1 = v1 := ht 1
  clear ht
  unfold g57 at hr
  refine w_seq (w_ops (wo_step (v := AVal.nsl) (s_pure (p_mv rfl)) (wo_nil (nx_norm (w_seq (w_ops (wo_step (s_pure (p_mv g0)) ?_)))))))
  obtain ⟨v12, e12, z1⟩ := bindO_inv hr
  obtain ⟨x12, rfl, z2⟩ := asI_inv z1
  refine wo_step (s_pure (o_len rfl e12)) ?_
  obtain ⟨v13, m_1, e13, z3⟩ := bindP_inv z2
  refine wo_step (s_mk rfl rfl e13) (wo_step (v := v13) (s_pure (p_mv rfl)) (wo_nil (nx_norm (w_seq (w_seq (w_ops (wo_step (s_pure (p_mv g0)) ?_)))))))
  obtain ⟨v15, e15, z4⟩ := bindO_inv z3
  obtain ⟨x15, rfl, z5⟩ := asI_inv z4
  refine wo_step (s_pure (o_len rfl e15)) (wo_step (v := (.i .i64 0)) (s_pure (p_mv rfl)) (wo_nil (nx_norm ?_)))
  refine w_block ?_
  obtain ⟨o_2, hl_2, z6⟩ := bindO_inv z5
  obtain ⟨n_2, hl_2⟩ := hM.loop _ _ _ hl_2
  refine jp_mono (w_loop _ (g57_I0 v1 v13 v0 x15) (g57_J0 v1 v13 v0 x15) ?_ n_2 _ _ _ _ hl_2 ⟨rfl, gl rfl, gl g1, gl rfl, gl rfl, gl rfl⟩) ?_
  · clear z6 hl_2
    intro s mm_5 t_1 o hi hr
    obtain ⟨x16, m_2⟩ := s
    obtain ⟨rfl, g16, g1, g5, g14, g15⟩ := hi
    unfold g57_b0 at hr
    refine w_seq (w_ops ?_)
    obtain ⟨c17, e17, z7⟩ := forceB_inv hr
    refine wo_step (s_pure (p_bin g16 g15 (b_lss.trans (cb e17)))) (wo_nil (nx_norm (w_seq ?_)))
    rcases cond_inv z7 with ⟨rfl, z8⟩ | ⟨rfl, z8⟩
    · refine w_condT rfl ?_
      refine w_skip (nx_norm (w_seq ?_))
      refine w_block ?_
      refine w_seq (w_ops (wo_step (s_pure (p_mv g16)) ?_))
      obtain ⟨v19, e19, z9⟩ := bindO_inv z8
      refine wo_step (s_pure (o_ixS g14 g16 e19)) ?_
      obtain ⟨v20, e20, z10⟩ := bindO_inv z9
      refine wo_step (s_ld rfl e20) (wo_step (v := (.i .i64 x16)) (s_pure (p_mv rfl)) (wo_step (v := v20) (s_pure (p_mv rfl)) (wo_nil (nx_norm (w_seq (w_ops (wo_step (s_pure (p_mv g5)) (wo_step (v := (.i .i64 x16)) (s_pure (p_mv rfl)) (wo_step (s_pure (p_mv g1)) ?_)))))))))
      obtain ⟨v24, e24, z11⟩ := bindO_inv z10
      refine wo_step (s_pure (o_ixS rfl rfl e24)) ?_
      obtain ⟨v25, e25, z12⟩ := bindO_inv z11
      refine wo_step (s_ld rfl e25) ?_
      obtain ⟨v26, e26, z13⟩ := bindO_inv z12
      obtain ⟨x26, rfl, z14⟩ := asI_inv z13
      refine wo_step (s_pure (o_len rfl e26)) ?_
      obtain ⟨v27, m_3, e27, z15⟩ := bindP_inv z14
      refine wo_step (s_mk rfl rfl e27) ?_
      obtain ⟨v28, e28, z16⟩ := bindO_inv z15
      refine wo_step (s_pure (o_ixS rfl rfl e28)) ?_
      obtain ⟨vn, m_4, en, z17⟩ := bindP_inv z16
      refine wo_stepN (s_st rfl rfl en) ?_
      refine wo_nil (nx_norm (w_seq (w_ops (wo_step (s_pure (p_mv g5)) (wo_step (v := (.i .i64 x16)) (s_pure (p_mv rfl)) ?_)))))
      obtain ⟨v31, e31, z18⟩ := bindO_inv z17
      refine wo_step (s_pure (o_ixS rfl rfl e31)) ?_
      obtain ⟨v32, e32, z19⟩ := bindO_inv z18
      refine wo_step (s_ld rfl e32) ?_
      obtain ⟨v33, e33, z20⟩ := bindO_inv z19
      obtain ⟨x33, rfl, z21⟩ := asI_inv z20
      refine wo_step (s_pure (o_len rfl e33)) (wo_step (v := (.i .i64 0)) (s_pure (p_mv rfl)) (wo_nil (nx_norm ?_)))
      refine w_block ?_
      obtain ⟨o_1, hl_1, z22⟩ := bindO_inv z21
      obtain ⟨n_1, hl_1⟩ := hM.loop _ _ _ hl_1
      refine jp_mono (w_loop _ (g57_I1 v1 v13 x16 v20 v0 x15 x33) (g57_J1 v1 v13 x16 v20 v0 x15 x33) ?_ n_1 _ _ _ _ hl_1 ⟨rfl, gl rfl, gl g1, gl g5, gl rfl, gl rfl, gl g14, gl g15, gl g16, gl rfl⟩) ?_
      · clear z22 hl_1
        intro s mm_3 t_2 o hi hr
        obtain ⟨x34, m_5⟩ := s
        obtain ⟨rfl, g34, g1, g5, g6, g7, g14, g15, g16, g33⟩ := hi
        unfold g57_b1 at hr
        refine w_seq (w_ops ?_)
        obtain ⟨c35, e35, z23⟩ := forceB_inv hr
        refine wo_step (s_pure (p_bin g34 g33 (b_lss.trans (cb e35)))) (wo_nil (nx_norm (w_seq ?_)))
        rcases cond_inv z23 with ⟨rfl, z24⟩ | ⟨rfl, z24⟩
        · refine w_condT rfl ?_
          refine w_skip (nx_norm (w_seq ?_))
          refine w_block ?_
          refine w_seq (w_ops (wo_step (s_pure (p_mv g34)) (wo_step (v := (.i .i64 x34)) (s_pure (p_mv rfl)) (wo_nil (nx_norm (w_seq (w_ops (wo_step (s_pure (p_mv g7)) ?_))))))))
          obtain ⟨v38, e38, z25⟩ := bindO_inv z24
          obtain ⟨x38, rfl, z26⟩ := asI_inv z25
          refine wo_step (s_pure (o_len rfl e38)) (wo_step (v := (.i .i64 0)) (s_pure (p_mv rfl)) (wo_nil (nx_norm ?_)))
          refine w_block ?_
          obtain ⟨o, hl, z27⟩ := bindO_inv z26
          obtain ⟨n, hl⟩ := hM.loop _ _ _ hl
          refine jp_mono (w_loop _ (g57_I2 v1 v13 x16 v20 x34 v0 x15 x33 x38) (g57_J2 v1 v13 x16 v20 x34 v0 x15 x33 x38) ?_ n _ _ _ _ hl ⟨rfl, gl rfl, gl g1, gl g5, gl g6, gl g7, gl rfl, gl g14, gl g15, gl g16, gl g33, gl g34, gl rfl, gl rfl⟩) ?_
          · clear z27 hl
            intro s mm_1 t_3 o hi hr
            obtain ⟨x39, m_6⟩ := s
            obtain ⟨rfl, g39, g1, g5, g6, g7, g8, g14, g15, g16, g33, g34, g37, g38⟩ := hi
            unfold g57_b2 at hr
            refine w_seq (w_ops ?_)
            obtain ⟨c40, e40, z28⟩ := forceB_inv hr
            refine wo_step (s_pure (p_bin g39 g38 (b_lss.trans (cb e40)))) (wo_nil (nx_norm (w_seq ?_)))
            rcases cond_inv z28 with ⟨rfl, z29⟩ | ⟨rfl, z29⟩
            · refine w_condT rfl ?_
              refine w_skip (nx_norm (w_seq ?_))
              refine w_block ?_
              refine w_seq (w_ops (wo_step (s_pure (p_mv g39)) ?_))
              obtain ⟨v42, e42, z30⟩ := bindO_inv z29
              refine wo_step (s_pure (o_ixS g37 g39 e42)) ?_
              obtain ⟨v43, e43, z31⟩ := bindO_inv z30
              obtain ⟨x43, rfl, z32⟩ := asI_inv z31
              refine wo_step (s_ld rfl e43) (wo_step (v := (.i .i64 x39)) (s_pure (p_mv rfl)) (wo_step (v := (.i .u64 x43)) (s_pure (p_mv rfl)) (wo_nil (nx_norm ?_))))
              obtain ⟨m_7, ef, z33⟩ := bindO_inv z32
              refine w_flt (af := true) rfl ef ?_
              refine wf_step (v := v13) (f_P rfl (s_pure (p_mv g5))) ?_
              refine wf_step (v := (.i .i64 x16)) (f_P rfl (s_pure (p_mv g6))) ?_
              obtain ⟨v46, e46, z34⟩ := bindO_inv z33
              refine wf_step (v := v46) (f_P rfl (s_pure (o_ixS rfl rfl e46))) ?_
              obtain ⟨v47, e47, z35⟩ := bindO_inv z34
              refine wf_step (v := v47) (f_ld rfl e47) ?_
              refine wf_step (v := (.i .i64 x34)) (f_P rfl (s_pure (p_mv g8))) ?_
              refine wf_step (v := v13) (f_P rfl (s_pure (p_mv g5))) ?_
              refine wf_step (v := (.i .i64 x16)) (f_P rfl (s_pure (p_mv g6))) ?_
              obtain ⟨v51, e51, z36⟩ := bindO_inv z35
              refine wf_step (v := v51) (f_P rfl (s_pure (o_ixS rfl rfl e51))) ?_
              obtain ⟨v52, e52, z37⟩ := bindO_inv z36
              refine wf_step (v := v52) (f_ld rfl e52) ?_
              refine wf_step (v := (.i .i64 x34)) (f_P rfl (s_pure (p_mv g8))) ?_
              obtain ⟨v54, e54, z38⟩ := bindO_inv z37
              refine wf_step (v := v54) (f_P rfl (s_pure (o_ixS rfl rfl e54))) ?_
              obtain ⟨v55, e55, z39⟩ := bindO_inv z38
              obtain ⟨x55, rfl, z40⟩ := asI_inv z39
              refine wf_step (v := (.i .u64 x55)) (f_ld rfl e55) ?_
              obtain ⟨v56, e56, z41⟩ := bindO_inv z40
              refine wf_step (v := v56) (f_P rfl (s_pure (o_mki rfl e56))) ?_
              refine wf_step (v := (.i .u64 x43)) (f_P rfl (s_pure (p_mv rfl))) ?_
              obtain ⟨v58, e58, z42⟩ := bindO_inv z41
              refine wf_step (v := v58) (f_P rfl (s_pure (o_mki rfl e58))) ?_
              refine wf_step (v := v1) (f_P rfl (s_pure (p_mv g1))) ?_
              refine wf_step (v := (.i .i64 x39)) (f_P rfl (s_pure (p_mv rfl))) ?_
              obtain ⟨v61, e61, z43⟩ := bindO_inv z42
              refine wf_step (v := v61) (f_P rfl (s_pure (o_ixS rfl rfl e61))) ?_
              obtain ⟨v62, e62, z44⟩ := bindO_inv z43
              refine wf_step (v := v62) (f_P rfl (s_ld rfl e62)) ?_
              refine wf_step (v := (.i .i64 x34)) (f_P rfl (s_pure (p_mv g8))) ?_
              obtain ⟨v64, e64, z45⟩ := bindO_inv z44
              refine wf_step (v := v64) (f_P rfl (s_pure (o_ixS rfl rfl e64))) ?_
              obtain ⟨v65, e65, z46⟩ := bindO_inv z45
              obtain ⟨x65, rfl, z47⟩ := asI_inv z46
              refine wf_step (v := (.i .u64 x65)) (f_P rfl (s_ld rfl e65)) ?_
              obtain ⟨v66, m_8, e66, z48⟩ := bindP_inv z47
              obtain ⟨x66, rfl, z49⟩ := asI_inv z48
              obtain ⟨hc66, z50⟩ := chk_inv z49
              refine wf_step (v := (.i .u64 x66)) (f_M hc66 (s_calli rfl (mc rfl mn) (calliM_le hM.call e66))) ?_
              obtain ⟨v67, m_9, e67, z51⟩ := bindP_inv z50
              obtain ⟨x67, rfl, z52⟩ := asI_inv z51
              obtain ⟨hc67, z53⟩ := chk_inv z52
              refine wf_step (v := (.i .u64 x67)) (f_M hc67 (s_calli rfl (mc rfl mn) (calliM_le hM.call e67))) ?_
              obtain ⟨v68, e68, z54⟩ := bindO_inv z53
              refine wf_step (v := v68) (f_P rfl (s_pure (o_ixS rfl rfl e68))) ?_
              obtain ⟨vn_1, m_10, en_1, z55⟩ := bindP_inv z54
              refine wf_stepN (f_F rfl (s_st rfl rfl en_1)) ?_
              obtain ⟨m_11, ef_1, z56⟩ := bindO_inv z55
              refine wf_end ef_1 ?_
              refine bk_norm ?_
              refine nx_norm (w_ops ?_)
              obtain ⟨x69, e69, z57⟩ := forceI_inv z56
              refine wo_step (s_pure (p_bin g39 rfl (b_add.trans (ci e69)))) (wo_step (v := (.i .i64 x69)) (s_pure (p_mv rfl)) (wo_nil ?_))
              cases z57
              exact ⟨_, _, rfl, rfl, rfl, gl rfl, gl g1, gl g5, gl g6, gl g7, gl g8, gl g14, gl g15, gl g16, gl g33, gl g34, gl g37, gl g38⟩
            · refine w_condF rfl ?_
              refine w_exit ?_
              refine nx_exit ?_
              cases z29
              exact ⟨_, _, rfl, ne_norm_exit, rfl, rfl, gl g1, gl g5, gl g6, gl g7, gl g14, gl g15, gl g16, gl g33, gl g34⟩
          · obtain ⟨m_12, ho⟩ : ∃ z, z = o := ⟨_, rfl⟩
            subst ho
            rintro _ mm t_4 ⟨rfl, rfl, g1, g5, g6, g7, g14, g15, g16, g33, g34⟩
            refine bk_hit ?_
            refine bk_norm ?_
            refine nx_norm (w_ops ?_)
            obtain ⟨x70, e70, z58⟩ := forceI_inv z27
            refine wo_step (s_pure (p_bin g34 rfl (b_add.trans (ci e70)))) (wo_step (v := (.i .i64 x70)) (s_pure (p_mv rfl)) (wo_nil ?_))
            cases z58
            exact ⟨_, _, rfl, rfl, rfl, gl rfl, gl g1, gl g5, gl g6, gl g7, gl g14, gl g15, gl g16, gl g33⟩
        · refine w_condF rfl ?_
          refine w_exit ?_
          refine nx_exit ?_
          cases z24
          exact ⟨_, _, rfl, ne_norm_exit, rfl, rfl, gl g1, gl g5, gl g14, gl g15, gl g16⟩
      · obtain ⟨m_13, ho⟩ : ∃ z, z = o_1 := ⟨_, rfl⟩
        subst ho
        rintro _ mm_2 t_5 ⟨rfl, rfl, g1, g5, g14, g15, g16⟩
        refine bk_hit ?_
        refine bk_norm ?_
        refine nx_norm (w_ops ?_)
        obtain ⟨x71, e71, z59⟩ := forceI_inv z22
        refine wo_step (s_pure (p_bin g16 rfl (b_add.trans (ci e71)))) (wo_step (v := (.i .i64 x71)) (s_pure (p_mv rfl)) (wo_nil ?_))
        cases z59
        exact ⟨_, _, rfl, rfl, rfl, gl rfl, gl g1, gl g5, gl g14, gl g15⟩
    · refine w_condF rfl ?_
      refine w_exit ?_
      refine nx_exit ?_
      cases z8
      exact ⟨_, _, rfl, ne_norm_exit, rfl, rfl, gl g5⟩
  · obtain ⟨m_14, ho⟩ : ∃ z, z = o_2 := ⟨_, rfl⟩
    subst ho
    rintro _ mm_4 t_6 ⟨rfl, rfl, g5⟩
    refine bk_hit ?_
    refine nx_norm (w_seq (w_ops (wo_step (s_pure (p_mv g5)) (wo_step (v := v13) (s_pure (p_mv rfl)) (wo_nil (nx_norm ?_))))))
    refine w_ret ?_
    exact qf ret_ok (rt rfl rn) z6
/- dibber/vine.read -/
abbrev g60_J0 (v11 : AVal) (o : Bool × Mm) (m1 : Mm) (t1 : Tr) : Prop :=
  match o with
  | (c24, m_2) => m_2 = m1 ∧ t1.get 24 = (.b c24) ∧ t1.get 6 = v11
def g60 (M : Means) (ro : List ABlk) (v0 : AVal) (s1 : List UInt8) (m0 : Mm) : Option (AVal × Heap × Nat × Nat) :=
  bindP (callM M.call m0 71 [v0]) fun v10 m_1 =>
  bindO (evP .e (.ext 0 (.c v10))) fun v11 =>
  bindO (evP .e (.ext 1 (.c v10))) fun v12 =>
  asI .i64 v12 fun x12 =>
  forceB (!eqI x12 0) fun c14 =>
  cond c14 (
    finM m0.h.length (tupA [AVal.nsl, (.i .i64 x12)]) m_1) (
    bindO (evP .e (.len true (.c (.s s1)))) fun v17 =>
    asI .i64 v17 fun x17 =>
    forceB (ltI 30 x17) fun c18 =>
    bindO (cond c18 (
      some (true, m_1)) (
      bindP (callM M.call m_1 92 [v11, (.s s1)]) fun v22 m_3 =>
      asB v22 fun c22 =>
      forceB (!c22) fun c23 =>
      some (c23, m_3))) fun ⟨c24, m_2⟩ =>
    cond c24 (
      finM m0.h.length (tupA [AVal.nsl, (.i .i64 5)]) m_2) (
      finM m0.h.length (tupA [v11, (.i .i64 0)]) m_2))
theorem g60_ok {ro : List ABlk} {O : Caller} {M : Means} (hM : M.Ok ⟨F, O⟩ ro) {v0 s1 h r} (ho : O 60 [v0, (.s s1)] h = none) (hr : g60 M ro v0 s1 ⟨h, h.length, h.length⟩ = some r) : callX ⟨F, O⟩ ro 60 [v0, (.s s1)] h = some r := by
  refine callX_of (F := ⟨F, O⟩) (fn := fn60) (g := g60 M ro v0 s1) ho rfl rfl hr ?_
  clear ho
  clear hr
  intro m0 t0 ht hr
  have g0 : t0.get 0 = v0 := ht 0
  have g1 : t0.get 1 = (.s s1) := ht 1
  clear ht
  unfold g60 at hr
  refine w_seq (w_ops (wo_step (v := AVal.nsl) (s_pure (p_mv rfl)) (wo_step (v := (.i .i64 0)) (s_pure (p_mv rfl)) (wo_nil (nx_norm (w_seq (w_ops (wo_step (s_pure (p_mv g0)) ?_))))))))
  obtain ⟨v10, m_1, e10, z1⟩ := bindP_inv hr
  refine wo_step (s_call (mc rfl mn) (callM_le hM.call e10)) (wo_step (v := v10) (s_pure (p_mv rfl)) ?_)
  obtain ⟨v11, e11, z2⟩ := bindO_inv z1
  refine wo_step (s_pure (o_ext rfl e11)) ?_
  obtain ⟨v12, e12, z3⟩ := bindO_inv z2
  obtain ⟨x12, rfl, z4⟩ := asI_inv z3
  refine wo_step (s_pure (o_ext rfl e12)) (wo_step (v := v11) (s_pure (p_mv rfl)) (wo_step (v := (.i .i64 x12)) (s_pure (p_mv rfl)) (wo_nil (nx_norm (w_seq (w_seq (w_ops (wo_step (v := (.i .i64 x12)) (s_pure (p_mv rfl)) ?_))))))))
  obtain ⟨c14, e14, z5⟩ := forceB_inv z4
  refine wo_step (s_pure (p_bin rfl rfl (b_neq.trans (cb e14)))) (wo_nil (nx_norm ?_))
  rcases cond_inv z5 with ⟨rfl, z6⟩ | ⟨rfl, z6⟩
  · refine w_condT rfl ?_
    refine w_seq (w_ops (wo_step (v := (.i .i64 x12)) (s_pure (p_mv rfl)) (wo_step (v := AVal.nsl) (s_pure (p_mv rfl)) (wo_step (v := (.i .i64 x12)) (s_pure (p_mv rfl)) (wo_nil (nx_norm ?_))))))
    refine w_ret ?_
    refine nx_ret ?_
    exact qf ret_ok (rt rfl (rt rfl rn)) z6
  · refine w_condF rfl ?_
    refine w_skip (nx_norm (w_seq (w_seq (w_ops (wo_step (s_pure (p_mv g1)) ?_)))))
    obtain ⟨v17, e17, z7⟩ := bindO_inv z6
    obtain ⟨x17, rfl, z8⟩ := asI_inv z7
    refine wo_step (s_pure (o_len rfl e17)) ?_
    obtain ⟨c18, e18, z9⟩ := forceB_inv z8
    refine wo_step (s_pure (p_bin rfl rfl (b_gtr.trans (cb e18)))) (wo_step (v := (.b c18)) (s_pure (p_mv rfl)) ?_)
    obtain ⟨o, z10, hk⟩ := bindO_inv z9
    refine wo_join 5 (g60_J0 v11 o) ?_ ?_
    · clear hk
      rcases cond_inv z10 with ⟨rfl, z11⟩ | ⟨rfl, z11⟩
      · refine wo_skip (v := (.b true)) rfl rfl (wo_skip (v := (.b true)) rfl rfl (wo_skip (v := (.b true)) rfl rfl (wo_skip (v := (.b true)) rfl rfl (wo_step (v := (.b true)) (s_pure (p_pickT rfl rfl)) (wo_nil ?_)))))
        cases z11
        exact ⟨_, _, rfl, rfl, gl rfl, gl rfl⟩
      · refine wo_take (v := v11) rfl (s_pure (p_mv rfl)) (wo_take (v := (.s s1)) rfl (s_pure (p_mv g1)) ?_)
        obtain ⟨v22, m_3, e22, z12⟩ := bindP_inv z11
        obtain ⟨c22, rfl, z13⟩ := asB_inv z12
        refine wo_take (v := (.b c22)) rfl (s_call (mc rfl (mc rfl mn)) (callM_le hM.call e22)) ?_
        obtain ⟨c23, e23, z14⟩ := forceB_inv z13
        refine wo_take (v := (.b c23)) rfl (s_pure ((p_not rfl).trans (cb e23))) (wo_step (v := (.b c23)) (s_pure (p_pickF rfl rfl)) (wo_nil ?_))
        cases z14
        exact ⟨_, _, rfl, rfl, gl rfl, gl rfl⟩
    · clear z10
      have hr := hk
      clear hk
      obtain ⟨c24, m_2⟩ := o
      rintro mm t_1 ⟨rfl, g24, g6⟩
      refine wo_nil (nx_norm ?_)
      rcases cond_inv hr with ⟨rfl, z15⟩ | ⟨rfl, z15⟩
      · refine w_condT g24 ?_
        refine w_seq (w_ops (wo_step (v := AVal.nsl) (s_pure (p_mv rfl)) (wo_step (v := (.i .i64 5)) (s_pure (p_mv rfl)) (wo_nil (nx_norm ?_)))))
        refine w_ret ?_
        refine nx_ret ?_
        exact qf ret_ok (rt rfl (rt rfl rn)) z15
      · refine w_condF g24 ?_
        refine w_skip (nx_norm (w_seq (w_ops (wo_step (s_pure (p_mv g6)) (wo_step (v := v11) (s_pure (p_mv rfl)) (wo_step (v := (.i .i64 0)) (s_pure (p_mv rfl)) (wo_nil (nx_norm ?_))))))))
        refine w_ret ?_
        exact qf ret_ok (rt rfl (rt rfl rn)) z15
/- (dibber/vine.rules).dies -/
abbrev g61_I0 (s1 : List UInt8) (v11 : AVal) (x12 : Int) (s : Int × Mm) (m1 : Mm) (t1 : Tr) : Prop :=
  match s with
  | (x13, m_2) => m_2 = m1 ∧ t1.get 13 = (.i .i64 x13) ∧ t1.get 1 = (.s s1) ∧ t1.get 11 = v11 ∧ t1.get 12 = (.i .i64 x12)
abbrev g61_J0 (s1 : List UInt8) (v11 : AVal) (x12 : Int) (o : (Mm ⊕ (Int × Bool × Mm))) (e : AExit) (m1 : Mm) (t1 : Tr) : Prop :=
  match o with
  | (.inl mo) => e = (.exit 0) ∧ mo = m1
  | (.inr (y4, y5, mo)) => e = .ret ∧ mo = m1 ∧ t1.get 4 = (.i .i64 y4) ∧ t1.get 5 = (.b y5)
def g61_b0 (M : Means) (ro : List ABlk) (s1 : List UInt8) (v11 : AVal) (x12 : Int) (x13 : Int) (m_2 : Mm) : Option ((Int × Mm) ⊕ ((Mm ⊕ (Int × Bool × Mm)))) :=
  forceB (ltI x13 x12) fun c14 =>
  cond c14 (
    bindO (evP .e (.ixS 1 (.c v11) (.c (.i .i64 x13)))) fun v16 =>
    bindO (ldM ro m_2 true 1 v16) fun v17 =>
    bindP (callM M.call m_2 49 [v17, (.s s1)]) fun v20 m_3 =>
    asI .u64 v20 fun x20 =>
    forceB (eqI x20 0) fun c21 =>
    cond c21 (
      some (.inr (.inr (x13, true, m_3)))) (
      forceI (wr .i64 (x13 + 1)) fun x23 =>
      some (.inl (x23, m_3)))) (
    some (.inr (.inl m_2)))
def g61 (M : Means) (ro : List ABlk) (v0 : AVal) (s1 : List UInt8) (m0 : Mm) : Option (AVal × Heap × Nat × Nat) :=
  bindO (evP .e (.len false (.c v0))) fun v10 =>
  asI .i64 v10 fun x10 =>
  bindP (callM M.call m0 48 [v0, (.i .i64 x10)]) fun v11 m_1 =>
  bindO (evP .e (.len false (.c v11))) fun v12 =>
  asI .i64 v12 fun x12 =>
  bindO (M.loop (S := Int × Mm) (R := (Mm ⊕ (Int × Bool × Mm))) (fun s => g61_b0 M ro s1 v11 x12 s.1 s.2) (0, m_1)) fun o => match o with
  | (.inl m_4) =>
    finM m0.h.length (tupA [(.i .i64 0), (.b false)]) m_4
  | (.inr (x4, c5, m_5)) =>
    finM m0.h.length (tupA [(.i .i64 x4), (.b c5)]) m_5
theorem g61_ok {ro : List ABlk} {O : Caller} {M : Means} (hM : M.Ok ⟨F, O⟩ ro) {v0 s1 h r} (ho : O 61 [v0, (.s s1)] h = none) (hr : g61 M ro v0 s1 ⟨h, h.length, h.length⟩ = some r) : callX ⟨F, O⟩ ro 61 [v0, (.s s1)] h = some r := by
  refine callX_of (F := ⟨F, O⟩) (fn := fn61) (g := g61 M ro v0 s1) ho rfl rfl hr ?_
  clear ho
  clear hr
  intro m0 t0 ht hr
  have g0 : t0.get 0 = v0 := ht 0
  have g1 : t0.get 1 = (.s s1) := ht 1
  clear ht
  unfold g61 at hr
  refine w_seq (w_ops (wo_step (v := (.i .i64 0)) (s_pure (p_mv rfl)) (wo_step (v := (.b false)) (s_pure (p_mv rfl)) (wo_nil (nx_norm (w_seq (w_seq (w_ops (wo_step (s_pure (p_mv g0)) (wo_step (s_pure (p_mv g0)) ?_))))))))))
  obtain ⟨v10, e10, z1⟩ := bindO_inv hr
  obtain ⟨x10, rfl, z2⟩ := asI_inv z1
  refine wo_step (s_pure (o_len rfl e10)) ?_
  obtain ⟨v11, m_1, e11, z3⟩ := bindP_inv z2
  refine wo_step (s_call (mc rfl (mc rfl mn)) (callM_le hM.call e11)) ?_
  obtain ⟨v12, e12, z4⟩ := bindO_inv z3
  obtain ⟨x12, rfl, z5⟩ := asI_inv z4
  refine wo_step (s_pure (o_len rfl e12)) (wo_step (v := (.i .i64 0)) (s_pure (p_mv rfl)) (wo_nil (nx_norm ?_)))
  refine w_block ?_
  obtain ⟨o, hl, z6⟩ := bindO_inv z5
  obtain ⟨n, hl⟩ := hM.loop _ _ _ hl
  refine jp_mono (w_loop _ (g61_I0 s1 v11 x12) (g61_J0 s1 v11 x12) ?_ n _ _ _ _ hl ⟨rfl, gl rfl, gl g1, gl rfl, gl rfl⟩) ?_
  · clear z6 hl
    intro s mm_2 t_1 o hi hr
    obtain ⟨x13, m_2⟩ := s
    obtain ⟨rfl, g13, g1, g11, g12⟩ := hi
    unfold g61_b0 at hr
    refine w_seq (w_ops ?_)
    obtain ⟨c14, e14, z7⟩ := forceB_inv hr
    refine wo_step (s_pure (p_bin g13 g12 (b_lss.trans (cb e14)))) (wo_nil (nx_norm (w_seq ?_)))
    rcases cond_inv z7 with ⟨rfl, z8⟩ | ⟨rfl, z8⟩
    · refine w_condT rfl ?_
      refine w_skip (nx_norm (w_seq ?_))
      refine w_block ?_
      refine w_seq (w_ops (wo_step (s_pure (p_mv g13)) ?_))
      obtain ⟨v16, e16, z9⟩ := bindO_inv z8
      refine wo_step (s_pure (o_ixS g11 g13 e16)) ?_
      obtain ⟨v17, e17, z10⟩ := bindO_inv z9
      refine wo_step (s_ld rfl e17) (wo_step (v := (.i .i64 x13)) (s_pure (p_mv rfl)) (wo_step (v := v17) (s_pure (p_mv rfl)) (wo_nil (nx_norm (w_seq (w_ops (wo_step (v := v17) (s_pure (p_mv rfl)) (wo_step (s_pure (p_mv g1)) ?_))))))))
      obtain ⟨v20, m_3, e20, z11⟩ := bindP_inv z10
      obtain ⟨x20, rfl, z12⟩ := asI_inv z11
      refine wo_step (s_call (mc rfl (mc rfl mn)) (callM_le hM.call e20)) ?_
      obtain ⟨c21, e21, z13⟩ := forceB_inv z12
      refine wo_step (s_pure (p_bin rfl rfl (b_eql.trans (cb e21)))) (wo_nil (nx_norm ?_))
      rcases cond_inv z13 with ⟨rfl, z14⟩ | ⟨rfl, z14⟩
      · refine w_condT rfl ?_
        refine w_seq (w_ops (wo_step (v := (.i .i64 x13)) (s_pure (p_mv rfl)) (wo_step (v := (.i .i64 x13)) (s_pure (p_mv rfl)) (wo_step (v := (.b true)) (s_pure (p_mv rfl)) (wo_nil (nx_norm ?_))))))
        refine w_ret ?_
        refine bk_ret ?_
        refine nx_ret ?_
        cases z14
        exact ⟨_, _, rfl, ne_norm_ret, rfl, rfl, gl rfl, gl rfl⟩
      · refine w_condF rfl ?_
        refine w_skip ?_
        refine bk_norm ?_
        refine nx_norm (w_ops ?_)
        obtain ⟨x23, e23, z15⟩ := forceI_inv z14
        refine wo_step (s_pure (p_bin g13 rfl (b_add.trans (ci e23)))) (wo_step (v := (.i .i64 x23)) (s_pure (p_mv rfl)) (wo_nil ?_))
        cases z15
        exact ⟨_, _, rfl, rfl, rfl, gl rfl, gl g1, gl g11, gl g12⟩
    · refine w_condF rfl ?_
      refine w_exit ?_
      refine nx_exit ?_
      cases z8
      exact ⟨_, _, rfl, ne_norm_exit, rfl, rfl⟩
  · rcases o with o | o
    · obtain ⟨m_4, ho⟩ : ∃ z, z = o := ⟨_, rfl⟩
      subst ho
      rintro _ mm t_2 ⟨rfl, rfl⟩
      refine bk_hit ?_
      refine nx_norm (w_seq (w_ops (wo_step (v := (.i .i64 0)) (s_pure (p_mv rfl)) (wo_step (v := (.b false)) (s_pure (p_mv rfl)) (wo_nil (nx_norm ?_))))))
      refine w_ret ?_
      exact qf ret_ok (rt rfl (rt rfl rn)) z6
    · obtain ⟨x4, c5, m_5⟩ := o
      rintro _ mm_1 t_3 ⟨rfl, rfl, g4, g5⟩
      refine bk_ret ?_
      refine nx_ret ?_
      exact qf ret_ok (rt g4 (rt g5 rn)) z6
/- dibber/vine.readTwo -/

def g69 (M : Means) (ro : List ABlk) (v0 : AVal) (s1 : List UInt8) (v2 : AVal) (s3 : List UInt8) (m0 : Mm) : Option (AVal × Heap × Nat × Nat) :=
  bindP (callM M.call m0 60 [v0, (.s s1)]) fun v17 m_1 =>
  bindO (evP .e (.ext 0 (.c v17))) fun v18 =>
  bindO (evP .e (.ext 1 (.c v17))) fun v19 =>
  asI .i64 v19 fun x19 =>
  forceB (!eqI x19 0) fun c21 =>
  cond c21 (
    finM m0.h.length (tupA [AVal.nsl, AVal.nsl, (.i .i64 x19)]) m_1) (
    bindP (callM M.call m_1 60 [v2, (.s s3)]) fun v26 m_2 =>
    bindO (evP .e (.ext 0 (.c v26))) fun v27 =>
    bindO (evP .e (.ext 1 (.c v26))) fun v28 =>
    asI .i64 v28 fun x28 =>
    forceB (!eqI x28 0) fun c30 =>
    cond c30 (
      finM m0.h.length (tupA [AVal.nsl, AVal.nsl, (.i .i64 x28)]) m_2) (
      finM m0.h.length (tupA [v18, v27, (.i .i64 0)]) m_2))
theorem g69_ok {ro : List ABlk} {O : Caller} {M : Means} (hM : M.Ok ⟨F, O⟩ ro) {v0 s1 v2 s3 h r} (ho : O 69 [v0, (.s s1), v2, (.s s3)] h = none) (hr : g69 M ro v0 s1 v2 s3 ⟨h, h.length, h.length⟩ = some r) : callX ⟨F, O⟩ ro 69 [v0, (.s s1), v2, (.s s3)] h = some r := by
  refine callX_of (F := ⟨F, O⟩) (fn := fn69) (g := g69 M ro v0 s1 v2 s3) ho rfl rfl hr ?_
  clear ho
  clear hr
  intro m0 t0 ht hr
  have g0 : t0.get 0 = v0 := ht 0
  have g1 : t0.get 1 = (.s s1) := ht 1
  have g2 : t0.get 2 = v2 := ht 2
  have g3 : t0.get 3 = (.s s3) := ht 3
  clear ht
  unfold g69 at hr
  refine w_seq (w_ops (wo_step (v := AVal.nsl) (s_pure (p_mv rfl)) (wo_step (v := AVal.nsl) (s_pure (p_mv rfl)) (wo_step (v := (.i .i64 0)) (s_pure (p_mv rfl)) (wo_nil (nx_norm (w_seq (w_ops (wo_step (s_pure (p_mv g0)) (wo_step (s_pure (p_mv g1)) ?_))))))))))
  obtain ⟨v17, m_1, e17, z1⟩ := bindP_inv hr
  refine wo_step (s_call (mc rfl (mc rfl mn)) (callM_le hM.call e17)) (wo_step (v := v17) (s_pure (p_mv rfl)) ?_)
  obtain ⟨v18, e18, z2⟩ := bindO_inv z1
  refine wo_step (s_pure (o_ext rfl e18)) ?_
  obtain ⟨v19, e19, z3⟩ := bindO_inv z2
  obtain ⟨x19, rfl, z4⟩ := asI_inv z3
  refine wo_step (s_pure (o_ext rfl e19)) (wo_step (v := v18) (s_pure (p_mv rfl)) (wo_step (v := (.i .i64 x19)) (s_pure (p_mv rfl)) (wo_nil (nx_norm (w_seq (w_seq (w_ops (wo_step (v := (.i .i64 x19)) (s_pure (p_mv rfl)) ?_))))))))
  obtain ⟨c21, e21, z5⟩ := forceB_inv z4
  refine wo_step (s_pure (p_bin rfl rfl (b_neq.trans (cb e21)))) (wo_nil (nx_norm ?_))
  rcases cond_inv z5 with ⟨rfl, z6⟩ | ⟨rfl, z6⟩
  · refine w_condT rfl ?_
    refine w_seq (w_ops (wo_step (v := (.i .i64 x19)) (s_pure (p_mv rfl)) (wo_step (v := AVal.nsl) (s_pure (p_mv rfl)) (wo_step (v := AVal.nsl) (s_pure (p_mv rfl)) (wo_step (v := (.i .i64 x19)) (s_pure (p_mv rfl)) (wo_nil (nx_norm ?_)))))))
    refine w_ret ?_
    refine nx_ret ?_
    exact qf ret_ok (rt rfl (rt rfl (rt rfl rn))) z6
  · refine w_condF rfl ?_
    refine w_skip (nx_norm (w_seq (w_ops (wo_step (s_pure (p_mv g2)) (wo_step (s_pure (p_mv g3)) ?_)))))
    obtain ⟨v26, m_2, e26, z7⟩ := bindP_inv z6
    refine wo_step (s_call (mc rfl (mc rfl mn)) (callM_le hM.call e26)) (wo_step (v := v26) (s_pure (p_mv rfl)) ?_)
    obtain ⟨v27, e27, z8⟩ := bindO_inv z7
    refine wo_step (s_pure (o_ext rfl e27)) ?_
    obtain ⟨v28, e28, z9⟩ := bindO_inv z8
    obtain ⟨x28, rfl, z10⟩ := asI_inv z9
    refine wo_step (s_pure (o_ext rfl e28)) (wo_step (v := v27) (s_pure (p_mv rfl)) (wo_step (v := (.i .i64 x28)) (s_pure (p_mv rfl)) (wo_nil (nx_norm (w_seq (w_seq (w_ops (wo_step (v := (.i .i64 x28)) (s_pure (p_mv rfl)) ?_))))))))
    obtain ⟨c30, e30, z11⟩ := forceB_inv z10
    refine wo_step (s_pure (p_bin rfl rfl (b_neq.trans (cb e30)))) (wo_nil (nx_norm ?_))
    rcases cond_inv z11 with ⟨rfl, z12⟩ | ⟨rfl, z12⟩
    · refine w_condT rfl ?_
      refine w_seq (w_ops (wo_step (v := (.i .i64 x28)) (s_pure (p_mv rfl)) (wo_step (v := AVal.nsl) (s_pure (p_mv rfl)) (wo_step (v := AVal.nsl) (s_pure (p_mv rfl)) (wo_step (v := (.i .i64 x28)) (s_pure (p_mv rfl)) (wo_nil (nx_norm ?_)))))))
      refine w_ret ?_
      refine nx_ret ?_
      exact qf ret_ok (rt rfl (rt rfl (rt rfl rn))) z12
    · refine w_condF rfl ?_
      refine w_skip (nx_norm (w_seq (w_ops (wo_step (v := v18) (s_pure (p_mv rfl)) (wo_step (v := v27) (s_pure (p_mv rfl)) (wo_step (v := v18) (s_pure (p_mv rfl)) (wo_step (v := v27) (s_pure (p_mv rfl)) (wo_step (v := (.i .i64 0)) (s_pure (p_mv rfl)) (wo_nil (nx_norm ?_))))))))))
      refine w_ret ?_
      exact qf ret_ok (rt rfl (rt rfl (rt rfl rn))) z12
/- dibber/vine.readVine -/
abbrev g71_J0 (v0 : AVal) (m0 : Mm) (o : Bool) (m1 : Mm) (t1 : Tr) : Prop :=
  match o with
  | c14 => m0 = m1 ∧ t1.get 14 = (.b c14) ∧ t1.get 0 = v0
abbrev g71_I1 (v0 : AVal) (x17 : Int) (s : Int × Mm) (m1 : Mm) (t1 : Tr) : Prop :=
  match s with
  | (x18, m_1) => m_1 = m1 ∧ t1.get 18 = (.i .i64 x18) ∧ t1.get 4 = v0 ∧ t1.get 16 = v0 ∧ t1.get 17 = (.i .i64 x17)
abbrev g71_J1 (v0 : AVal) (x17 : Int) (o : (Mm ⊕ (AVal × Int × Mm))) (e : AExit) (m1 : Mm) (t1 : Tr) : Prop :=
  match o with
  | (.inl mo) => e = (.exit 0) ∧ mo = m1 ∧ t1.get 4 = v0
  | (.inr (y2, y3, mo)) => e = .ret ∧ mo = m1 ∧ t1.get 2 = y2 ∧ t1.get 3 = (.i .i64 y3)
abbrev g71_J2 (v0 : AVal) (x17 : Int) (x18 : Int) (o : Bool × Mm) (m1 : Mm) (t1 : Tr) : Prop :=
  match o with
  | (c30, m_2) => m_2 = m1 ∧ t1.get 30 = (.b c30) ∧ t1.get 4 = v0 ∧ t1.get 16 = v0 ∧ t1.get 17 = (.i .i64 x17) ∧ t1.get 18 = (.i .i64 x18)
def g71_b1 (M : Means) (ro : List ABlk) (v0 : AVal) (x17 : Int) (x18 : Int) (m_1 : Mm) : Option ((Int × Mm) ⊕ ((Mm ⊕ (AVal × Int × Mm)))) :=
  forceB (ltI x18 x17) fun c19 =>
  cond c19 (
    bindO (evP .e (.ixS 1 (.c v0) (.c (.i .i64 x18)))) fun v20 =>
    bindO (ldM ro m_1 true 1 v20) fun v21 =>
    asS v21 fun s21 =>
    bindO (evP .e (.len true (.c (.s s21)))) fun v23 =>
    asI .i64 v23 fun x23 =>
    forceB (ltI 8 x23) fun c24 =>
    bindO (cond c24 (
      some (true, m_1)) (
      bindP (callM M.call m_1 92 [v0, (.s s21)]) fun v28 m_3 =>
      asB v28 fun c28 =>
      forceB (!c28) fun c29 =>
      some (c29, m_3))) fun ⟨c30, m_2⟩ =>
    cond c30 (
      some (.inr (.inr (AVal.nsl, 5, m_2)))) (
      forceI (wr .i64 (x18 + 1)) fun x31 =>
      some (.inl (x31, m_2)))) (
    some (.inr (.inl m_1)))
def g71 (M : Means) (ro : List ABlk) (v0 : AVal) (m0 : Mm) : Option (AVal × Heap × Nat × Nat) :=
  bindO (evP .e (.len false (.c v0))) fun v8 =>
  asI .i64 v8 fun x8 =>
  forceB (ltI x8 1) fun c9 =>
  bindO (cond c9 (
    some true) (
    bindO (evP .e (.len false (.c v0))) fun v12 =>
    asI .i64 v12 fun x12 =>
    forceB (ltI 6 x12) fun c13 =>
    some c13)) fun c14 =>
  cond c14 (
    finM m0.h.length (tupA [AVal.nsl, (.i .i64 2)]) m0) (
    bindO (evP .e (.len false (.c v0))) fun v17 =>
    asI .i64 v17 fun x17 =>
    bindO (M.loop (S := Int × Mm) (R := (Mm ⊕ (AVal × Int × Mm))) (fun s => g71_b1 M ro v0 x17 s.1 s.2) (0, m0)) fun o_2 => match o_2 with
    | (.inl m_4) =>
      finM m0.h.length (tupA [v0, (.i .i64 0)]) m_4
    | (.inr (v2, x3, m_5)) =>
      finM m0.h.length (tupA [v2, (.i .i64 x3)]) m_5)
theorem g71_ok {ro : List ABlk} {O : Caller} {M : Means} (hM : M.Ok ⟨F, O⟩ ro) {v0 h r} (ho : O 71 [v0] h = none) (hr : g71 M ro v0 ⟨h, h.length, h.length⟩ = some r) : callX ⟨F, O⟩ ro 71 [v0] h = some r := by
  refine callX_of (F := ⟨F, O⟩) (fn := fn71) (g := g71 M ro v0) ho rfl rfl hr ?_
  clear ho
  clear hr
  intro m0 t0 ht hr
  have g0 : t0.get 0 = v0 := ht 0
  clear ht
  unfold g71 at hr
  refine w_seq (w_ops (wo_step (v := AVal.nsl) (s_pure (p_mv rfl)) (wo_step (v := (.i .i64 0)) (s_pure (p_mv rfl)) (wo_nil (nx_norm (w_seq (w_seq (w_ops (wo_step (s_pure (p_mv g0)) ?_)))))))))
  obtain ⟨v8, e8, z1⟩ := bindO_inv hr
  obtain ⟨x8, rfl, z2⟩ := asI_inv z1
  refine wo_step (s_pure (o_len rfl e8)) ?_
  obtain ⟨c9, e9, z3⟩ := forceB_inv z2
  refine wo_step (s_pure (p_bin rfl rfl (b_lss.trans (cb e9)))) (wo_step (v := (.b c9)) (s_pure (p_mv rfl)) ?_)
  obtain ⟨o, z4, hk⟩ := bindO_inv z3
  refine wo_join 4 (g71_J0 v0 m0 o) ?_ ?_
  · clear hk
    rcases cond_inv z4 with ⟨rfl, z5⟩ | ⟨rfl, z5⟩
    · refine wo_skip (v := (.b true)) rfl rfl (wo_skip (v := (.b true)) rfl rfl (wo_skip (v := (.b true)) rfl rfl (wo_step (v := (.b true)) (s_pure (p_pickT rfl rfl)) (wo_nil ?_))))
      cases z5
      exact ⟨_, _, rfl, rfl, gl rfl, gl g0⟩
    · refine wo_take (v := v0) rfl (s_pure (p_mv g0)) ?_
      obtain ⟨v12, e12, z6⟩ := bindO_inv z5
      obtain ⟨x12, rfl, z7⟩ := asI_inv z6
      refine wo_take (v := (.i .i64 x12)) rfl (s_pure (o_len rfl e12)) ?_
      obtain ⟨c13, e13, z8⟩ := forceB_inv z7
      refine wo_take (v := (.b c13)) rfl (s_pure (p_bin rfl rfl (b_gtr.trans (cb e13)))) (wo_step (v := (.b c13)) (s_pure (p_pickF rfl rfl)) (wo_nil ?_))
      cases z8
      exact ⟨_, _, rfl, rfl, gl rfl, gl g0⟩
  · clear z4
    have hr := hk
    clear hk
    obtain ⟨c14, ho⟩ : ∃ z, z = o := ⟨_, rfl⟩
    subst ho
    rintro mm t_1 ⟨rfl, g14, g0⟩
    refine wo_nil (nx_norm ?_)
    rcases cond_inv hr with ⟨rfl, z9⟩ | ⟨rfl, z9⟩
    · refine w_condT g14 ?_
      refine w_seq (w_ops (wo_step (v := AVal.nsl) (s_pure (p_mv rfl)) (wo_step (v := (.i .i64 2)) (s_pure (p_mv rfl)) (wo_nil (nx_norm ?_)))))
      refine w_ret ?_
      refine nx_ret ?_
      exact qf ret_ok (rt rfl (rt rfl rn)) z9
    · refine w_condF g14 ?_
      refine w_skip (nx_norm (w_seq (w_ops (wo_step (s_pure (p_mv g0)) (wo_step (v := v0) (s_pure (p_mv rfl)) (wo_nil (nx_norm (w_seq (w_seq (w_ops (wo_step (v := v0) (s_pure (p_mv rfl)) ?_)))))))))))
      obtain ⟨v17, e17, z10⟩ := bindO_inv z9
      obtain ⟨x17, rfl, z11⟩ := asI_inv z10
      refine wo_step (s_pure (o_len rfl e17)) (wo_step (v := (.i .i64 0)) (s_pure (p_mv rfl)) (wo_nil (nx_norm ?_)))
      refine w_block ?_
      obtain ⟨o_2, hl, z12⟩ := bindO_inv z11
      obtain ⟨n, hl⟩ := hM.loop _ _ _ hl
      refine jp_mono (w_loop _ (g71_I1 v0 x17) (g71_J1 v0 x17) ?_ n _ _ _ _ hl ⟨rfl, gl rfl, gl rfl, gl rfl, gl rfl⟩) ?_
      · clear z12 hl
        intro s mm_4 t_2 o hi hr
        obtain ⟨x18, m_1⟩ := s
        obtain ⟨rfl, g18, g4, g16, g17⟩ := hi
        unfold g71_b1 at hr
        refine w_seq (w_ops ?_)
        obtain ⟨c19, e19, z13⟩ := forceB_inv hr
        refine wo_step (s_pure (p_bin g18 g17 (b_lss.trans (cb e19)))) (wo_nil (nx_norm (w_seq ?_)))
        rcases cond_inv z13 with ⟨rfl, z14⟩ | ⟨rfl, z14⟩
        · refine w_condT rfl ?_
          refine w_skip (nx_norm (w_seq ?_))
          refine w_block ?_
          refine w_seq (w_ops ?_)
          obtain ⟨v20, e20, z15⟩ := bindO_inv z14
          refine wo_step (s_pure (o_ixS g16 g18 e20)) ?_
          obtain ⟨v21, e21, z16⟩ := bindO_inv z15
          obtain ⟨s21, rfl, z17⟩ := asS_inv z16
          refine wo_step (s_ld rfl e21) (wo_step (v := (.s s21)) (s_pure (p_mv rfl)) (wo_nil (nx_norm (w_seq (w_ops (wo_step (v := (.s s21)) (s_pure (p_mv rfl)) ?_))))))
          obtain ⟨v23, e23, z18⟩ := bindO_inv z17
          obtain ⟨x23, rfl, z19⟩ := asI_inv z18
          refine wo_step (s_pure (o_len rfl e23)) ?_
          obtain ⟨c24, e24, z20⟩ := forceB_inv z19
          refine wo_step (s_pure (p_bin rfl rfl (b_gtr.trans (cb e24)))) (wo_step (v := (.b c24)) (s_pure (p_mv rfl)) ?_)
          obtain ⟨o_1, z21, hk⟩ := bindO_inv z20
          refine wo_join 5 (g71_J2 v0 x17 x18 o_1) ?_ ?_
          · clear hk
            rcases cond_inv z21 with ⟨rfl, z22⟩ | ⟨rfl, z22⟩
            · refine wo_skip (v := (.b true)) rfl rfl (wo_skip (v := (.b true)) rfl rfl (wo_skip (v := (.b true)) rfl rfl (wo_skip (v := (.b true)) rfl rfl (wo_step (v := (.b true)) (s_pure (p_pickT rfl rfl)) (wo_nil ?_)))))
              cases z22
              exact ⟨_, _, rfl, rfl, gl rfl, gl g4, gl g16, gl g17, gl g18⟩
            · refine wo_take (v := v0) rfl (s_pure (p_mv g4)) (wo_take (v := (.s s21)) rfl (s_pure (p_mv rfl)) ?_)
              obtain ⟨v28, m_3, e28, z23⟩ := bindP_inv z22
              obtain ⟨c28, rfl, z24⟩ := asB_inv z23
              refine wo_take (v := (.b c28)) rfl (s_call (mc rfl (mc rfl mn)) (callM_le hM.call e28)) ?_
              obtain ⟨c29, e29, z25⟩ := forceB_inv z24
              refine wo_take (v := (.b c29)) rfl (s_pure ((p_not rfl).trans (cb e29))) (wo_step (v := (.b c29)) (s_pure (p_pickF rfl rfl)) (wo_nil ?_))
              cases z25
              exact ⟨_, _, rfl, rfl, gl rfl, gl g4, gl g16, gl g17, gl g18⟩
          · clear z21
            have hr := hk
            clear hk
            obtain ⟨c30, m_2⟩ := o_1
            rintro mm_1 t_3 ⟨rfl, g30, g4, g16, g17, g18⟩
            refine wo_nil (nx_norm ?_)
            rcases cond_inv hr with ⟨rfl, z26⟩ | ⟨rfl, z26⟩
            · refine w_condT g30 ?_
              refine w_seq (w_ops (wo_step (v := AVal.nsl) (s_pure (p_mv rfl)) (wo_step (v := (.i .i64 5)) (s_pure (p_mv rfl)) (wo_nil (nx_norm ?_)))))
              refine w_ret ?_
              refine bk_ret ?_
              refine nx_ret ?_
              cases z26
              exact ⟨_, _, rfl, ne_norm_ret, rfl, rfl, gl rfl, gl rfl⟩
            · refine w_condF g30 ?_
              refine w_skip ?_
              refine bk_norm ?_
              refine nx_norm (w_ops ?_)
              obtain ⟨x31, e31, z27⟩ := forceI_inv z26
              refine wo_step (s_pure (p_bin g18 rfl (b_add.trans (ci e31)))) (wo_step (v := (.i .i64 x31)) (s_pure (p_mv rfl)) (wo_nil ?_))
              cases z27
              exact ⟨_, _, rfl, rfl, rfl, gl rfl, gl g4, gl g16, gl g17⟩
        · refine w_condF rfl ?_
          refine w_exit ?_
          refine nx_exit ?_
          cases z14
          exact ⟨_, _, rfl, ne_norm_exit, rfl, rfl, gl g4⟩
      · rcases o_2 with o_2 | o_2
        · obtain ⟨m_4, ho⟩ : ∃ z, z = o_2 := ⟨_, rfl⟩
          subst ho
          rintro _ mm_2 t_4 ⟨rfl, rfl, g4⟩
          refine bk_hit ?_
          refine nx_norm (w_seq (w_ops (wo_step (s_pure (p_mv g4)) (wo_step (v := v0) (s_pure (p_mv rfl)) (wo_step (v := (.i .i64 0)) (s_pure (p_mv rfl)) (wo_nil (nx_norm ?_)))))))
          refine w_ret ?_
          exact qf ret_ok (rt rfl (rt rfl rn)) z12
        · obtain ⟨v2, x3, m_5⟩ := o_2
          rintro _ mm_3 t_5 ⟨rfl, rfl, g2, g3⟩
          refine bk_ret ?_
          refine nx_ret ?_
          exact qf ret_ok (rt g2 (rt g3 rn)) z12
/- (dibber/vine.rules).bud -/

def g72 (M : Means) (ro : List ABlk) (v0 : AVal) (x1 : Int) (m0 : Mm) : Option (AVal × Heap × Nat × Nat) :=
  bindO (some (Mm.base m0)) fun m_1 =>
  bindO (evP .e (.ixS 1 (.c v0) (.c (.i .i64 x1)))) fun v12 =>
  bindO (ldA ro m0.h true 1 v12) fun v13 =>
  asS v13 fun s13 =>
  bindP (callM M.call m_1 89 [(.i .i64 x1)]) fun v15 m_2 =>
  asS v15 fun s15 =>
  chk (!Nat.blt m_2.lw m0.h.length) <|
  bindP (callM M.call m_2 97 [(.s s13), (.s s15)]) fun v16 m_3 =>
  bindO (evP .e (.ext 0 (.c v16))) fun v17 =>
  asS v17 fun s17 =>
  bindO (evP .e (.ext 1 (.c v16))) fun v18 =>
  asB v18 fun c18 =>
  bindO (some (Mm.join m0 m_3)) fun m_4 =>
  forceB (!c18) fun c20 =>
  cond c20 (
    finM m0.h.length (tupA [(.b false)]) m_4) (
    bindP (callM M.call m_4 61 [v0, (.s s17)]) fun v24 m_5 =>
    bindO (evP .e (.ext 0 (.c v24))) fun v25 =>
    asI .i64 v25 fun x25 =>
    bindO (evP .e (.ext 1 (.c v24))) fun v26 =>
    asB v26 fun c26 =>
    forceB (!c26) fun c28 =>
    finM m0.h.length (tupA [(.b c28)]) m_5)
theorem g72_ok {ro : List ABlk} {O : Caller} {M : Means} (hM : M.Ok ⟨F, O⟩ ro) {v0 x1 h r} (ho : O 72 [v0, (.i .i64 x1)] h = none) (hr : g72 M ro v0 x1 ⟨h, h.length, h.length⟩ = some r) : callX ⟨F, O⟩ ro 72 [v0, (.i .i64 x1)] h = some r := by
  refine callX_of (F := ⟨F, O⟩) (fn := fn72) (g := g72 M ro v0 x1) ho rfl rfl hr ?_
  clear ho
  clear hr
  intro m0 t0 ht hr
  have g0 : t0.get 0 = v0 := ht 0
  have g1 : t0.get 1 = (.i .i64 x1) := ht 1
  clear ht
  unfold g72 at hr
  refine w_seq (w_ops (wo_step (v := (.b false)) (s_pure (p_mv rfl)) (wo_nil (nx_norm (w_seq ?_)))))
  obtain ⟨m_1, ef, z1⟩ := bindO_inv hr
  refine w_flt (af := true) rfl ef ?_
  refine wf_step (v := v0) (f_P rfl (s_pure (p_mv g0))) ?_
  refine wf_step (v := (.i .i64 x1)) (f_P rfl (s_pure (p_mv g1))) ?_
  obtain ⟨v12, e12, z2⟩ := bindO_inv z1
  refine wf_step (v := v12) (f_P rfl (s_pure (o_ixS rfl rfl e12))) ?_
  obtain ⟨v13, e13, z3⟩ := bindO_inv z2
  obtain ⟨s13, rfl, z4⟩ := asS_inv z3
  refine wf_step (v := (.s s13)) (f_ld rfl e13) ?_
  refine wf_step (v := (.i .i64 x1)) (f_P rfl (s_pure (p_mv g1))) ?_
  obtain ⟨v15, m_2, e15, z5⟩ := bindP_inv z4
  obtain ⟨s15, rfl, z6⟩ := asS_inv z5
  obtain ⟨hc15, z7⟩ := chk_inv z6
  refine wf_step (v := (.s s15)) (f_M hc15 (s_call (mc rfl mn) (callM_le hM.call e15))) ?_
  obtain ⟨v16, m_3, e16, z8⟩ := bindP_inv z7
  refine wf_step (v := v16) (f_F rfl (s_call (mc rfl (mc rfl mn)) (callM_le hM.call e16))) ?_
  refine wf_step (v := v16) (f_P rfl (s_pure (p_mv rfl))) ?_
  obtain ⟨v17, e17, z9⟩ := bindO_inv z8
  obtain ⟨s17, rfl, z10⟩ := asS_inv z9
  refine wf_step (v := (.s s17)) (f_P rfl (s_pure (o_ext rfl e17))) ?_
  obtain ⟨v18, e18, z11⟩ := bindO_inv z10
  obtain ⟨c18, rfl, z12⟩ := asB_inv z11
  refine wf_step (v := (.b c18)) (f_P rfl (s_pure (o_ext rfl e18))) ?_
  refine wf_step (v := (.s s17)) (f_P rfl (s_pure (p_mv rfl))) ?_
  refine wf_step (v := (.b c18)) (f_P rfl (s_pure (p_mv rfl))) ?_
  obtain ⟨m_4, ef_1, z13⟩ := bindO_inv z12
  refine wf_end ef_1 ?_
  refine nx_norm (w_seq (w_seq (w_ops (wo_step (v := (.b c18)) (s_pure (p_mv rfl)) ?_))))
  obtain ⟨c20, e20, z14⟩ := forceB_inv z13
  refine wo_step (s_pure ((p_not rfl).trans (cb e20))) (wo_nil (nx_norm ?_))
  rcases cond_inv z14 with ⟨rfl, z15⟩ | ⟨rfl, z15⟩
  · refine w_condT rfl ?_
    refine w_seq (w_ops (wo_step (v := (.b false)) (s_pure (p_mv rfl)) (wo_nil (nx_norm ?_))))
    refine w_ret ?_
    refine nx_ret ?_
    exact qf ret_ok (rt rfl rn) z15
  · refine w_condF rfl ?_
    refine w_skip (nx_norm (w_seq (w_ops (wo_step (s_pure (p_mv g0)) (wo_step (v := (.s s17)) (s_pure (p_mv rfl)) ?_)))))
    obtain ⟨v24, m_5, e24, z16⟩ := bindP_inv z15
    refine wo_step (s_call (mc rfl (mc rfl mn)) (callM_le hM.call e24)) (wo_step (v := v24) (s_pure (p_mv rfl)) ?_)
    obtain ⟨v25, e25, z17⟩ := bindO_inv z16
    obtain ⟨x25, rfl, z18⟩ := asI_inv z17
    refine wo_step (s_pure (o_ext rfl e25)) ?_
    obtain ⟨v26, e26, z19⟩ := bindO_inv z18
    obtain ⟨c26, rfl, z20⟩ := asB_inv z19
    refine wo_step (s_pure (o_ext rfl e26)) (wo_step (v := (.i .i64 x25)) (s_pure (p_mv rfl)) (wo_step (v := (.b c26)) (s_pure (p_mv rfl)) (wo_nil (nx_norm (w_seq (w_ops (wo_step (v := (.b c26)) (s_pure (p_mv rfl)) ?_)))))))
    obtain ⟨c28, e28, z21⟩ := forceB_inv z20
    refine wo_step (s_pure ((p_not rfl).trans (cb e28))) (wo_step (v := (.b c28)) (s_pure (p_mv rfl)) (wo_nil (nx_norm ?_)))
    refine w_ret ?_
    exact qf ret_ok (rt rfl rn) z21
/- dibber/vine.readBud -/
abbrev g74_J0 (s1 : List UInt8) (v13 : AVal) (o : Bool × Mm) (m1 : Mm) (t1 : Tr) : Prop :=
  match o with
  | (c26, m_2) => m_2 = m1 ∧ t1.get 26 = (.b c26) ∧ t1.get 1 = (.s s1) ∧ t1.get 7 = v13
def g74 (M : Means) (ro : List ABlk) (v0 : AVal) (s1 : List UInt8) (m0 : Mm) : Option (AVal × Heap × Nat × Nat) :=
  bindP (callM M.call m0 71 [v0]) fun v12 m_1 =>
  bindO (evP .e (.ext 0 (.c v12))) fun v13 =>
  bindO (evP .e (.ext 1 (.c v12))) fun v14 =>
  asI .i64 v14 fun x14 =>
  forceB (!eqI x14 0) fun c16 =>
  cond c16 (
    finM m0.h.length (tupA [AVal.nsl, (.i .i64 0), (.i .i64 x14)]) m_1) (
    bindO (evP .e (.len true (.c (.s s1)))) fun v19 =>
    asI .i64 v19 fun x19 =>
    forceB (!eqI x19 1) fun c20 =>
    bindO (cond c20 (
      some (true, m_1)) (
      bindP (callM M.call m_1 92 [v13, (.s s1)]) fun v24 m_3 =>
      asB v24 fun c24 =>
      forceB (!c24) fun c25 =>
      some (c25, m_3))) fun ⟨c26, m_2⟩ =>
    cond c26 (
      finM m0.h.length (tupA [AVal.nsl, (.i .i64 0), (.i .i64 5)]) m_2) (
      bindO (evP .e (.ixStr (.c (.s s1)) (.c (.i .i64 0)))) fun v28 =>
      asI .u8 v28 fun x28 =>
      bindP (callM M.call m_2 54 [(.i .u8 x28)]) fun v29 m_4 =>
      asI .i64 v29 fun x29 =>
      bindP (callM M.call m_4 72 [v13, (.i .i64 x29)]) fun v32 m_5 =>
      asB v32 fun c32 =>
      forceB (!c32) fun c33 =>
      cond c33 (
        finM m0.h.length (tupA [AVal.nsl, (.i .i64 0), (.i .i64 10)]) m_5) (
        finM m0.h.length (tupA [v13, (.i .i64 x29), (.i .i64 0)]) m_5)))
theorem g74_ok {ro : List ABlk} {O : Caller} {M : Means} (hM : M.Ok ⟨F, O⟩ ro) {v0 s1 h r} (ho : O 74 [v0, (.s s1)] h = none) (hr : g74 M ro v0 s1 ⟨h, h.length, h.length⟩ = some r) : callX ⟨F, O⟩ ro 74 [v0, (.s s1)] h = some r := by
  refine callX_of (F := ⟨F, O⟩) (fn := fn74) (g := g74 M ro v0 s1) ho rfl rfl hr ?_
  clear ho
  clear hr
  intro m0 t0 ht hr
  have g0 : t0.get 0 = v0 := ht 0
  have g1 : t0.get 1 = (.s s1) := ht 1
  clear ht
  unfold g74 at hr
  refine w_seq (w_ops (wo_step (v := AVal.nsl) (s_pure (p_mv rfl)) (wo_step (v := (.i .i64 0)) (s_pure (p_mv rfl)) (wo_step (v := (.i .i64 0)) (s_pure (p_mv rfl)) (wo_nil (nx_norm (w_seq (w_ops (wo_step (s_pure (p_mv g0)) ?_)))))))))
  obtain ⟨v12, m_1, e12, z1⟩ := bindP_inv hr
  refine wo_step (s_call (mc rfl mn) (callM_le hM.call e12)) (wo_step (v := v12) (s_pure (p_mv rfl)) ?_)
  obtain ⟨v13, e13, z2⟩ := bindO_inv z1
  refine wo_step (s_pure (o_ext rfl e13)) ?_
  obtain ⟨v14, e14, z3⟩ := bindO_inv z2
  obtain ⟨x14, rfl, z4⟩ := asI_inv z3
  refine wo_step (s_pure (o_ext rfl e14)) (wo_step (v := v13) (s_pure (p_mv rfl)) (wo_step (v := (.i .i64 x14)) (s_pure (p_mv rfl)) (wo_nil (nx_norm (w_seq (w_seq (w_ops (wo_step (v := (.i .i64 x14)) (s_pure (p_mv rfl)) ?_))))))))
  obtain ⟨c16, e16, z5⟩ := forceB_inv z4
  refine wo_step (s_pure (p_bin rfl rfl (b_neq.trans (cb e16)))) (wo_nil (nx_norm ?_))
  rcases cond_inv z5 with ⟨rfl, z6⟩ | ⟨rfl, z6⟩
  · refine w_condT rfl ?_
    refine w_seq (w_ops (wo_step (v := (.i .i64 x14)) (s_pure (p_mv rfl)) (wo_step (v := AVal.nsl) (s_pure (p_mv rfl)) (wo_step (v := (.i .i64 0)) (s_pure (p_mv rfl)) (wo_step (v := (.i .i64 x14)) (s_pure (p_mv rfl)) (wo_nil (nx_norm ?_)))))))
    refine w_ret ?_
    refine nx_ret ?_
    exact qf ret_ok (rt rfl (rt rfl (rt rfl rn))) z6
  · refine w_condF rfl ?_
    refine w_skip (nx_norm (w_seq (w_seq (w_ops (wo_step (s_pure (p_mv g1)) ?_)))))
    obtain ⟨v19, e19, z7⟩ := bindO_inv z6
    obtain ⟨x19, rfl, z8⟩ := asI_inv z7
    refine wo_step (s_pure (o_len rfl e19)) ?_
    obtain ⟨c20, e20, z9⟩ := forceB_inv z8
    refine wo_step (s_pure (p_bin rfl rfl (b_neq.trans (cb e20)))) (wo_step (v := (.b c20)) (s_pure (p_mv rfl)) ?_)
    obtain ⟨o, z10, hk⟩ := bindO_inv z9
    refine wo_join 5 (g74_J0 s1 v13 o) ?_ ?_
    · clear hk
      rcases cond_inv z10 with ⟨rfl, z11⟩ | ⟨rfl, z11⟩
      · refine wo_skip (v := (.b true)) rfl rfl (wo_skip (v := (.b true)) rfl rfl (wo_skip (v := (.b true)) rfl rfl (wo_skip (v := (.b true)) rfl rfl (wo_step (v := (.b true)) (s_pure (p_pickT rfl rfl)) (wo_nil ?_)))))
        cases z11
        exact ⟨_, _, rfl, rfl, gl rfl, gl g1, gl rfl⟩
      · refine wo_take (v := v13) rfl (s_pure (p_mv rfl)) (wo_take (v := (.s s1)) rfl (s_pure (p_mv g1)) ?_)
        obtain ⟨v24, m_3, e24, z12⟩ := bindP_inv z11
        obtain ⟨c24, rfl, z13⟩ := asB_inv z12
        refine wo_take (v := (.b c24)) rfl (s_call (mc rfl (mc rfl mn)) (callM_le hM.call e24)) ?_
        obtain ⟨c25, e25, z14⟩ := forceB_inv z13
        refine wo_take (v := (.b c25)) rfl (s_pure ((p_not rfl).trans (cb e25))) (wo_step (v := (.b c25)) (s_pure (p_pickF rfl rfl)) (wo_nil ?_))
        cases z14
        exact ⟨_, _, rfl, rfl, gl rfl, gl g1, gl rfl⟩
    · clear z10
      have hr := hk
      clear hk
      obtain ⟨c26, m_2⟩ := o
      rintro mm t_1 ⟨rfl, g26, g1, g7⟩
      refine wo_nil (nx_norm ?_)
      rcases cond_inv hr with ⟨rfl, z15⟩ | ⟨rfl, z15⟩
      · refine w_condT g26 ?_
        refine w_seq (w_ops (wo_step (v := AVal.nsl) (s_pure (p_mv rfl)) (wo_step (v := (.i .i64 0)) (s_pure (p_mv rfl)) (wo_step (v := (.i .i64 5)) (s_pure (p_mv rfl)) (wo_nil (nx_norm ?_))))))
        refine w_ret ?_
        refine nx_ret ?_
        exact qf ret_ok (rt rfl (rt rfl (rt rfl rn))) z15
      · refine w_condF g26 ?_
        refine w_skip (nx_norm (w_seq (w_ops (wo_step (s_pure (p_mv g1)) ?_))))
        obtain ⟨v28, e28, z16⟩ := bindO_inv z15
        obtain ⟨x28, rfl, z17⟩ := asI_inv z16
        refine wo_step (s_pure (o_ixStr rfl rfl e28)) ?_
        obtain ⟨v29, m_4, e29, z18⟩ := bindP_inv z17
        obtain ⟨x29, rfl, z19⟩ := asI_inv z18
        refine wo_step (s_call (mc rfl mn) (callM_le hM.call e29)) (wo_step (v := (.i .i64 x29)) (s_pure (p_mv rfl)) (wo_nil (nx_norm (w_seq (w_seq (w_ops (wo_step (s_pure (p_mv g7)) (wo_step (v := (.i .i64 x29)) (s_pure (p_mv rfl)) ?_))))))))
        obtain ⟨v32, m_5, e32, z20⟩ := bindP_inv z19
        obtain ⟨c32, rfl, z21⟩ := asB_inv z20
        refine wo_step (s_call (mc rfl (mc rfl mn)) (callM_le hM.call e32)) ?_
        obtain ⟨c33, e33, z22⟩ := forceB_inv z21
        refine wo_step (s_pure ((p_not rfl).trans (cb e33))) (wo_nil (nx_norm ?_))
        rcases cond_inv z22 with ⟨rfl, z23⟩ | ⟨rfl, z23⟩
        · refine w_condT rfl ?_
          refine w_seq (w_ops (wo_step (v := AVal.nsl) (s_pure (p_mv rfl)) (wo_step (v := (.i .i64 0)) (s_pure (p_mv rfl)) (wo_step (v := (.i .i64 10)) (s_pure (p_mv rfl)) (wo_nil (nx_norm ?_))))))
          refine w_ret ?_
          refine nx_ret ?_
          exact qf ret_ok (rt rfl (rt rfl (rt rfl rn))) z23
        · refine w_condF rfl ?_
          refine w_skip (nx_norm (w_seq (w_ops (wo_step (s_pure (p_mv g7)) (wo_step (v := (.i .i64 x29)) (s_pure (p_mv rfl)) (wo_step (v := v13) (s_pure (p_mv rfl)) (wo_step (v := (.i .i64 x29)) (s_pure (p_mv rfl)) (wo_step (v := (.i .i64 0)) (s_pure (p_mv rfl)) (wo_nil (nx_norm ?_))))))))))
          refine w_ret ?_
          exact qf ret_ok (rt rfl (rt rfl (rt rfl rn))) z23
/- (dibber/vine.rules).endless -/

def g75 (M : Means) (ro : List ABlk) (v0 : AVal) (x1 : Int) (m0 : Mm) : Option (AVal × Heap × Nat × Nat) :=
  bindP (stepM ro m0 (.bx 55 1 (.c v0))) fun v2 m_1 =>
  bindP (stepM ro m_1 (.bx 3 1 (.c (.i .i64 x1)))) fun v3 m_2 =>
  bindO (some (AVal.fn 98 [] [v2, v3])) fun v5 =>
  finM m0.h.length (tupA [v5]) m_2
theorem g75_ok {ro : List ABlk} {O : Caller} {M : Means} (hM : M.Ok ⟨F, O⟩ ro) {v0 x1 h r} (ho : O 75 [v0, (.i .i64 x1)] h = none) (hr : g75 M ro v0 x1 ⟨h, h.length, h.length⟩ = some r) : callX ⟨F, O⟩ ro 75 [v0, (.i .i64 x1)] h = some r := by
  refine callX_of (F := ⟨F, O⟩) (fn := fn75) (g := g75 M ro v0 x1) ho rfl rfl hr ?_
  clear ho
  clear hr
  intro m0 t0 ht hr
  have g0 : t0.get 0 = v0 := ht 0
  have g1 : t0.get 1 = (.i .i64 x1) := ht 1
  clear ht
  unfold g75 at hr
  refine w_seq (w_ops ?_)
  obtain ⟨v2, m_1, e2, z1⟩ := bindP_inv hr
  refine wo_step (s_bx g0 e2) ?_
  obtain ⟨v3, m_2, e3, z2⟩ := bindP_inv z1
  refine wo_step (s_bx g1 e3) (wo_step (v := AVal.nfn) (s_pure (p_mv rfl)) (wo_nil (nx_norm (w_seq (w_ops ?_)))))
  obtain ⟨v5, e5, z3⟩ := bindO_inv z2
  refine wo_step (s_pure (Eq.trans (o_mkfn mn (mc rfl (mc rfl mn))) e5)) (wo_step (v := v5) (s_pure (p_mv rfl)) (wo_nil (nx_norm ?_)))
  refine w_ret ?_
  exact qf ret_ok (rt rfl rn) z3
/- dibber/vine.matrix[dibber/vine.whole] -/
abbrev g79_I0 (v0 : AVal) (v1 : AVal) (v11 : AVal) (x13 : Int) (s : Int × Mm) (m1 : Mm) (t1 : Tr) : Prop :=
  match s with
  | (x14, m_2) => m_2 = m1 ∧ t1.get 14 = (.i .i64 x14) ∧ t1.get 0 = v0 ∧ t1.get 1 = v1 ∧ t1.get 5 = v11 ∧ t1.get 13 = (.i .i64 x13)
abbrev g79_J0 (v0 : AVal) (v1 : AVal) (v11 : AVal) (x13 : Int) (o : Mm) (e : AExit) (m1 : Mm) (t1 : Tr) : Prop :=
  match o with
  | mo => e = (.exit 0) ∧ mo = m1 ∧ t1.get 5 = v11
abbrev g79_I1 (v0 : AVal) (v1 : AVal) (v11 : AVal) (x14 : Int) (x13 : Int) (x18 : Int) (s : Int × Mm) (m1 : Mm) (t1 : Tr) : Prop :=
  match s with
  | (x19, m_3) => m_3 = m1 ∧ t1.get 19 = (.i .i64 x19) ∧ t1.get 0 = v0 ∧ t1.get 1 = v1 ∧ t1.get 5 = v11 ∧ t1.get 6 = (.i .i64 x14) ∧ t1.get 13 = (.i .i64 x13) ∧ t1.get 14 = (.i .i64 x14) ∧ t1.get 17 = v0 ∧ t1.get 18 = (.i .i64 x18)
abbrev g79_J1 (v0 : AVal) (v1 : AVal) (v11 : AVal) (x14 : Int) (x13 : Int) (x18 : Int) (o : Mm) (e : AExit) (m1 : Mm) (t1 : Tr) : Prop :=
  match o with
  | mo => e = (.exit 2) ∧ mo = m1 ∧ t1.get 0 = v0 ∧ t1.get 1 = v1 ∧ t1.get 5 = v11 ∧ t1.get 13 = (.i .i64 x13) ∧ t1.get 14 = (.i .i64 x14)
def g79_b1 (M : Means) (ro : List ABlk) (v0 : AVal) (v1 : AVal) (v11 : AVal) (x14 : Int) (x13 : Int) (x18 : Int) (x19 : Int) (m_3 : Mm) : Option ((Int × Mm) ⊕ (Mm)) :=
  forceB (ltI x19 x18) fun c20 =>
  cond c20 (
    bindO (evP .e (.ixS 1 (.c v0) (.c (.i .i64 x19)))) fun v21 =>
    bindO (ldM ro m_3 true 1 v21) fun v22 =>
    asS v22 fun s22 =>
    bindO (some (Mm.base m_3)) fun m_4 =>
    bindO (evP .e (.ixS 1 (.c v11) (.c (.i .i64 x14)))) fun v27 =>
    bindO (ldA ro m_3.h true 1 v27) fun v28 =>
    bindP (callM M.call m_4 89 [(.i .i64 x14)]) fun v32 m_5 =>
    asS v32 fun s32 =>
    chk (!Nat.blt m_5.lw m_3.h.length) <|
    bindP (callM M.call m_5 88 [(.s s22), (.s s32)]) fun v33 m_6 =>
    asI .i64 v33 fun x33 =>
    chk (!Nat.blt m_6.lw m_3.h.length) <|
    bindP (callvM M.call m_6 v1 [(.i .i64 x33)]) fun v34 m_7 =>
    asI .i64 v34 fun x34 =>
    chk (!Nat.blt m_7.lw m_3.h.length) <|
    bindP (stepM ro m_7 (.bsl 106 1 [(AVal.i IntKind.i64 0)] 1 [((0, 1), .c (.i .i64 x34))])) fun v35 m_8 =>
    chk (!Nat.blt m_8.lw m_3.h.length) <|
    bindP (stepM ro m_8 (.app 106 1 8 [(AVal.i IntKind.i64 0)] (.c v28) (.c v35))) fun v36 m_9 =>
    bindO (evP .e (.ixS 1 (.c v11) (.c (.i .i64 x14)))) fun v37 =>
    bindP (stepM ro m_9 (.st 1 (.c v37) (.c v36))) fun vn m_10 =>
    bindO (some (Mm.join m_3 m_10)) fun m_11 =>
    forceI (wr .i64 (x19 + 1)) fun x38 =>
    some (.inl (x38, m_11))) (
    some (.inr m_3))
def g79_b0 (M : Means) (ro : List ABlk) (v0 : AVal) (v1 : AVal) (v11 : AVal) (x13 : Int) (x14 : Int) (m_2 : Mm) : Option ((Int × Mm) ⊕ (Mm)) :=
  forceB (ltI x14 x13) fun c15 =>
  cond c15 (
    bindO (evP .e (.len false (.c v0))) fun v18 =>
    asI .i64 v18 fun x18 =>
    bindO (M.loop (S := Int × Mm) (R := Mm) (fun s => g79_b1 M ro v0 v1 v11 x14 x13 x18 s.1 s.2) (0, m_2)) fun m_12 =>
    forceI (wr .i64 (x14 + 1)) fun x39 =>
    some (.inl (x39, m_12))) (
    some (.inr m_2))
def g79 (M : Means) (ro : List ABlk) (v0 : AVal) (v1 : AVal) (m0 : Mm) : Option (AVal × Heap × Nat × Nat) :=
  bindO (evP .e (.len false (.c v0))) fun v10 =>
  asI .i64 v10 fun x10 =>
  bindP (stepM ro m0 (.mk 111 1 24 [AVal.nsl] (.c (.i .i64 x10)) (.c (.i .i64 x10)))) fun v11 m_1 =>
  bindO (evP .e (.len false (.c v0))) fun v13 =>
  asI .i64 v13 fun x13 =>
  bindO (M.loop (S := Int × Mm) (R := Mm) (fun s => g79_b0 M ro v0 v1 v11 x13 s.1 s.2) (0, m_1)) fun m_13 =>
  finM m0.h.length (tupA [v11]) m_13
theorem g79_ok {ro : List ABlk} {O : Caller} {M : Means} (hM : M.Ok ⟨F, O⟩ ro) {v0 v1 h r} (ho : O 79 [v0, v1] h = none) (hr : g79 M ro v0 v1 ⟨h, h.length, h.length⟩ = some r) : callX ⟨F, O⟩ ro 79 [v0, v1] h = some r := by
  refine callX_of (F := ⟨F, O⟩) (fn := fn79) (g := g79 M ro v0 v1) ho rfl rfl hr ?_
  clear ho
  clear hr
  intro m0 t0 ht hr
  have g0 : t0.get 0 = v0 := ht 0
  have g1 : t0.get 1 = v1 := ht 1
  clear ht
  unfold g79 at hr
  refine w_seq (w_ops (wo_step (v := AVal.nsl) (s_pure (p_mv rfl)) (wo_nil (nx_norm (w_seq (w_ops (wo_step (s_pure (p_mv g0)) ?_)))))))
  obtain ⟨v10, e10, z1⟩ := bindO_inv hr
  obtain ⟨x10, rfl, z2⟩ := asI_inv z1
  refine wo_step (s_pure (o_len rfl e10)) ?_
  obtain ⟨v11, m_1, e11, z3⟩ := bindP_inv z2
  refine wo_step (s_mk rfl rfl e11) (wo_step (v := v11) (s_pure (p_mv rfl)) (wo_nil (nx_norm (w_seq (w_seq (w_ops (wo_step (s_pure (p_mv g0)) ?_)))))))
  obtain ⟨v13, e13, z4⟩ := bindO_inv z3
  obtain ⟨x13, rfl, z5⟩ := asI_inv z4
  refine wo_step (s_pure (o_len rfl e13)) (wo_step (v := (.i .i64 0)) (s_pure (p_mv rfl)) (wo_nil (nx_norm ?_)))
  refine w_block ?_
  obtain ⟨o_1, hl_1, z6⟩ := bindO_inv z5
  obtain ⟨n_1, hl_1⟩ := hM.loop _ _ _ hl_1
  refine jp_mono (w_loop _ (g79_I0 v0 v1 v11 x13) (g79_J0 v0 v1 v11 x13) ?_ n_1 _ _ _ _ hl_1 ⟨rfl, gl rfl, gl g0, gl g1, gl rfl, gl rfl⟩) ?_
  · clear z6 hl_1
    intro s mm_3 t_1 o hi hr
    obtain ⟨x14, m_2⟩ := s
    obtain ⟨rfl, g14, g0, g1, g5, g13⟩ := hi
    unfold g79_b0 at hr
    refine w_seq (w_ops ?_)
    obtain ⟨c15, e15, z7⟩ := forceB_inv hr
    refine wo_step (s_pure (p_bin g14 g13 (b_lss.trans (cb e15)))) (wo_nil (nx_norm (w_seq ?_)))
    rcases cond_inv z7 with ⟨rfl, z8⟩ | ⟨rfl, z8⟩
    · refine w_condT rfl ?_
      refine w_skip (nx_norm (w_seq ?_))
      refine w_block ?_
      refine w_seq (w_ops (wo_step (s_pure (p_mv g14)) (wo_step (v := (.i .i64 x14)) (s_pure (p_mv rfl)) (wo_nil (nx_norm (w_seq (w_ops (wo_step (s_pure (p_mv g0)) ?_))))))))
      obtain ⟨v18, e18, z9⟩ := bindO_inv z8
      obtain ⟨x18, rfl, z10⟩ := asI_inv z9
      refine wo_step (s_pure (o_len rfl e18)) (wo_step (v := (.i .i64 0)) (s_pure (p_mv rfl)) (wo_nil (nx_norm ?_)))
      refine w_block ?_
      obtain ⟨o, hl, z11⟩ := bindO_inv z10
      obtain ⟨n, hl⟩ := hM.loop _ _ _ hl
      refine jp_mono (w_loop _ (g79_I1 v0 v1 v11 x14 x13 x18) (g79_J1 v0 v1 v11 x14 x13 x18) ?_ n _ _ _ _ hl ⟨rfl, gl rfl, gl g0, gl g1, gl g5, gl rfl, gl g13, gl g14, gl rfl, gl rfl⟩) ?_
      · clear z11 hl
        intro s mm_1 t_2 o hi hr
        obtain ⟨x19, m_3⟩ := s
        obtain ⟨rfl, g19, g0, g1, g5, g6, g13, g14, g17, g18⟩ := hi
        unfold g79_b1 at hr
        refine w_seq (w_ops ?_)
        obtain ⟨c20, e20, z12⟩ := forceB_inv hr
        refine wo_step (s_pure (p_bin g19 g18 (b_lss.trans (cb e20)))) (wo_nil (nx_norm (w_seq ?_)))
        rcases cond_inv z12 with ⟨rfl, z13⟩ | ⟨rfl, z13⟩
        · refine w_condT rfl ?_
          refine w_skip (nx_norm (w_seq ?_))
          refine w_block ?_
          refine w_seq (w_ops ?_)
          obtain ⟨v21, e21, z14⟩ := bindO_inv z13
          refine wo_step (s_pure (o_ixS g17 g19 e21)) ?_
          obtain ⟨v22, e22, z15⟩ := bindO_inv z14
          obtain ⟨s22, rfl, z16⟩ := asS_inv z15
          refine wo_step (s_ld rfl e22) (wo_step (v := (.s s22)) (s_pure (p_mv rfl)) (wo_nil (nx_norm ?_)))
          obtain ⟨m_4, ef, z17⟩ := bindO_inv z16
          refine w_flt (af := true) rfl ef ?_
          refine wf_step (v := v11) (f_P rfl (s_pure (p_mv g5))) ?_
          refine wf_step (v := (.i .i64 x14)) (f_P rfl (s_pure (p_mv g6))) ?_
          refine wf_step (v := v11) (f_P rfl (s_pure (p_mv g5))) ?_
          refine wf_step (v := (.i .i64 x14)) (f_P rfl (s_pure (p_mv g6))) ?_
          obtain ⟨v27, e27, z18⟩ := bindO_inv z17
          refine wf_step (v := v27) (f_P rfl (s_pure (o_ixS rfl rfl e27))) ?_
          obtain ⟨v28, e28, z19⟩ := bindO_inv z18
          refine wf_step (v := v28) (f_ld rfl e28) ?_
          refine wf_step (v := v1) (f_P rfl (s_pure (p_mv g1))) ?_
          refine wf_step (v := (.s s22)) (f_P rfl (s_pure (p_mv rfl))) ?_
          refine wf_step (v := (.i .i64 x14)) (f_P rfl (s_pure (p_mv g6))) ?_
          obtain ⟨v32, m_5, e32, z20⟩ := bindP_inv z19
          obtain ⟨s32, rfl, z21⟩ := asS_inv z20
          obtain ⟨hc32, z22⟩ := chk_inv z21
          refine wf_step (v := (.s s32)) (f_M hc32 (s_call (mc rfl mn) (callM_le hM.call e32))) ?_
          obtain ⟨v33, m_6, e33, z23⟩ := bindP_inv z22
          obtain ⟨x33, rfl, z24⟩ := asI_inv z23
          obtain ⟨hc33, z25⟩ := chk_inv z24
          refine wf_step (v := (.i .i64 x33)) (f_M hc33 (s_call (mc rfl (mc rfl mn)) (callM_le hM.call e33))) ?_
          obtain ⟨v34, m_7, e34, z26⟩ := bindP_inv z25
          obtain ⟨x34, rfl, z27⟩ := asI_inv z26
          obtain ⟨hc34, z28⟩ := chk_inv z27
          refine wf_step (v := (.i .i64 x34)) (f_M hc34 (s_callv rfl (mc rfl mn) (callvM_le hM.call e34))) ?_
          obtain ⟨v35, m_8, e35, z29⟩ := bindP_inv z28
          obtain ⟨hc35, z30⟩ := chk_inv z29
          refine wf_step (v := v35) (f_M hc35 (s_bsl (qc rfl qn) e35)) ?_
          obtain ⟨v36, m_9, e36, z31⟩ := bindP_inv z30
          refine wf_step (v := v36) (f_F rfl (s_app rfl rfl e36)) ?_
          obtain ⟨v37, e37, z32⟩ := bindO_inv z31
          refine wf_step (v := v37) (f_P rfl (s_pure (o_ixS rfl rfl e37))) ?_
          obtain ⟨vn, m_10, en, z33⟩ := bindP_inv z32
          refine wf_stepN (f_F rfl (s_st rfl rfl en)) ?_
          obtain ⟨m_11, ef_1, z34⟩ := bindO_inv z33
          refine wf_end ef_1 ?_
          refine bk_norm ?_
          refine nx_norm (w_ops ?_)
          obtain ⟨x38, e38, z35⟩ := forceI_inv z34
          refine wo_step (s_pure (p_bin g19 rfl (b_add.trans (ci e38)))) (wo_step (v := (.i .i64 x38)) (s_pure (p_mv rfl)) (wo_nil ?_))
          cases z35
          exact ⟨_, _, rfl, rfl, rfl, gl rfl, gl g0, gl g1, gl g5, gl g6, gl g13, gl g14, gl g17, gl g18⟩
        · refine w_condF rfl ?_
          refine w_exit ?_
          refine nx_exit ?_
          cases z13
          exact ⟨_, _, rfl, ne_norm_exit, rfl, rfl, gl g0, gl g1, gl g5, gl g13, gl g14⟩
      · obtain ⟨m_12, ho⟩ : ∃ z, z = o := ⟨_, rfl⟩
        subst ho
        rintro _ mm t_3 ⟨rfl, rfl, g0, g1, g5, g13, g14⟩
        refine bk_hit ?_
        refine bk_norm ?_
        refine nx_norm (w_ops ?_)
        obtain ⟨x39, e39, z36⟩ := forceI_inv z11
        refine wo_step (s_pure (p_bin g14 rfl (b_add.trans (ci e39)))) (wo_step (v := (.i .i64 x39)) (s_pure (p_mv rfl)) (wo_nil ?_))
        cases z36
        exact ⟨_, _, rfl, rfl, rfl, gl rfl, gl g0, gl g1, gl g5, gl g13⟩
    · refine w_condF rfl ?_
      refine w_exit ?_
      refine nx_exit ?_
      cases z8
      exact ⟨_, _, rfl, ne_norm_exit, rfl, rfl, gl g5⟩
  · obtain ⟨m_13, ho⟩ : ∃ z, z = o_1 := ⟨_, rfl⟩
    subst ho
    rintro _ mm_2 t_4 ⟨rfl, rfl, g5⟩
    refine bk_hit ?_
    refine nx_norm (w_seq (w_ops (wo_step (s_pure (p_mv g5)) (wo_step (v := v11) (s_pure (p_mv rfl)) (wo_nil (nx_norm ?_))))))
    refine w_ret ?_
    exact qf ret_ok (rt rfl rn) z6
/- dibber/vine.asWhole -/

def g80 (M : Means) (ro : List ABlk) (x0 : Int) (m0 : Mm) : Option (AVal × Heap × Nat × Nat) :=
  finM m0.h.length (tupA [(.i .i64 x0)]) m0
theorem g80_ok {ro : List ABlk} {O : Caller} {M : Means} (hM : M.Ok ⟨F, O⟩ ro) {x0 h r} (ho : O 80 [(.i .i64 x0)] h = none) (hr : g80 M ro x0 ⟨h, h.length, h.length⟩ = some r) : callX ⟨F, O⟩ ro 80 [(.i .i64 x0)] h = some r := by
  refine callX_of (F := ⟨F, O⟩) (fn := fn80) (g := g80 M ro x0) ho rfl rfl hr ?_
  clear ho
  clear hr
  intro m0 t0 ht hr
  have g0 : t0.get 0 = (.i .i64 x0) := ht 0
  clear ht
  unfold g80 at hr
  refine w_seq (w_ops (wo_step (v := (.i .i64 0)) (s_pure (p_mv rfl)) (wo_nil (nx_norm (w_seq (w_ops (wo_step (s_pure (p_mv g0)) (wo_step (v := (.i .i64 x0)) (s_pure (p_mv rfl)) (wo_nil (nx_norm ?_))))))))))
  refine w_ret ?_
  exact qf ret_ok (rt rfl rn) hr
/- dibber/vine.one -/
abbrev g81_I0 (x0 : Int) (v6 : AVal) (x8 : Int) (s : Int × Mm) (m1 : Mm) (t1 : Tr) : Prop :=
  match s with
  | (x9, m_2) => m_2 = m1 ∧ t1.get 9 = (.i .i64 x9) ∧ t1.get 0 = (.i .i64 x0) ∧ t1.get 3 = v6 ∧ t1.get 8 = (.i .i64 x8)
abbrev g81_J0 (x0 : Int) (v6 : AVal) (x8 : Int) (o : Mm) (e : AExit) (m1 : Mm) (t1 : Tr) : Prop :=
  match o with
  | mo => e = (.exit 0) ∧ mo = m1 ∧ t1.get 3 = v6
def g81_b0 (M : Means) (ro : List ABlk) (x0 : Int) (v6 : AVal) (x8 : Int) (x9 : Int) (m_2 : Mm) : Option ((Int × Mm) ⊕ (Mm)) :=
  forceB (ltI x9 x8) fun c10 =>
  cond c10 (
    bindP (stepM ro m_2 (.mk 106 1 8 [(AVal.i IntKind.i64 0)] (.c (.i .i64 x0)) (.c (.i .i64 x0)))) fun v15 m_3 =>
    bindO (evP .e (.ixS 1 (.c v6) (.c (.i .i64 x9)))) fun v16 =>
    bindP (stepM ro m_3 (.st 1 (.c v16) (.c v15))) fun vn m_4 =>
    bindO (evP .e (.ixS 1 (.c v6) (.c (.i .i64 x9)))) fun v19 =>
    bindO (ldM ro m_4 true 1 v19) fun v20 =>
    bindO (evP .e (.ixS 1 (.c v20) (.c (.i .i64 x9)))) fun v22 =>
    bindP (stepM ro m_4 (.st 1 (.c v22) (.c (.i .i64 1)))) fun vn_1 m_5 =>
    forceI (wr .i64 (x9 + 1)) fun x23 =>
    some (.inl (x23, m_5))) (
    some (.inr m_2))
def g81 (M : Means) (ro : List ABlk) (x0 : Int) (m0 : Mm) : Option (AVal × Heap × Nat × Nat) :=
  bindP (stepM ro m0 (.mk 111 1 24 [AVal.nsl] (.c (.i .i64 x0)) (.c (.i .i64 x0)))) fun v6 m_1 =>
  bindO (evP .e (.len false (.c v6))) fun v8 =>
  asI .i64 v8 fun x8 =>
  bindO (M.loop (S := Int × Mm) (R := Mm) (fun s => g81_b0 M ro x0 v6 x8 s.1 s.2) (0, m_1)) fun m_6 =>
  finM m0.h.length (tupA [v6]) m_6
theorem g81_ok {ro : List ABlk} {O : Caller} {M : Means} (hM : M.Ok ⟨F, O⟩ ro) {x0 h r} (ho : O 81 [(.i .i64 x0)] h = none) (hr : g81 M ro x0 ⟨h, h.length, h.length⟩ = some r) : callX ⟨F, O⟩ ro 81 [(.i .i64 x0)] h = some r := by
  refine callX_of (F := ⟨F, O⟩) (fn := fn81) (g := g81 M ro x0) ho rfl rfl hr ?_
  clear ho
  clear hr
  intro m0 t0 ht hr
  have g0 : t0.get 0 = (.i .i64 x0) := ht 0
  clear ht
  unfold g81 at hr
  refine w_seq (w_ops (wo_step (v := AVal.nsl) (s_pure (p_mv rfl)) (wo_nil (nx_norm (w_seq (w_ops (wo_step (s_pure (p_mv g0)) ?_)))))))
  obtain ⟨v6, m_1, e6, z1⟩ := bindP_inv hr
  refine wo_step (s_mk rfl rfl e6) (wo_step (v := v6) (s_pure (p_mv rfl)) (wo_nil (nx_norm (w_seq (w_seq (w_ops (wo_step (v := v6) (s_pure (p_mv rfl)) ?_)))))))
  obtain ⟨v8, e8, z2⟩ := bindO_inv z1
  obtain ⟨x8, rfl, z3⟩ := asI_inv z2
  refine wo_step (s_pure (o_len rfl e8)) (wo_step (v := (.i .i64 0)) (s_pure (p_mv rfl)) (wo_nil (nx_norm ?_)))
  refine w_block ?_
  obtain ⟨o, hl, z4⟩ := bindO_inv z3
  obtain ⟨n, hl⟩ := hM.loop _ _ _ hl
  refine jp_mono (w_loop _ (g81_I0 x0 v6 x8) (g81_J0 x0 v6 x8) ?_ n _ _ _ _ hl ⟨rfl, gl rfl, gl g0, gl rfl, gl rfl⟩) ?_
  · clear z4 hl
    intro s mm_1 t_1 o hi hr
    obtain ⟨x9, m_2⟩ := s
    obtain ⟨rfl, g9, g0, g3, g8⟩ := hi
    unfold g81_b0 at hr
    refine w_seq (w_ops ?_)
    obtain ⟨c10, e10, z5⟩ := forceB_inv hr
    refine wo_step (s_pure (p_bin g9 g8 (b_lss.trans (cb e10)))) (wo_nil (nx_norm (w_seq ?_)))
    rcases cond_inv z5 with ⟨rfl, z6⟩ | ⟨rfl, z6⟩
    · refine w_condT rfl ?_
      refine w_skip (nx_norm (w_seq ?_))
      refine w_block ?_
      refine w_seq (w_ops (wo_step (s_pure (p_mv g9)) (wo_step (v := (.i .i64 x9)) (s_pure (p_mv rfl)) (wo_nil (nx_norm (w_seq (w_ops (wo_step (s_pure (p_mv g3)) (wo_step (v := (.i .i64 x9)) (s_pure (p_mv rfl)) (wo_step (s_pure (p_mv g0)) ?_))))))))))
      obtain ⟨v15, m_3, e15, z7⟩ := bindP_inv z6
      refine wo_step (s_mk rfl rfl e15) ?_
      obtain ⟨v16, e16, z8⟩ := bindO_inv z7
      refine wo_step (s_pure (o_ixS rfl rfl e16)) ?_
      obtain ⟨vn, m_4, en, z9⟩ := bindP_inv z8
      refine wo_stepN (s_st rfl rfl en) ?_
      refine wo_nil (nx_norm (w_ops (wo_step (s_pure (p_mv g3)) (wo_step (v := (.i .i64 x9)) (s_pure (p_mv rfl)) ?_))))
      obtain ⟨v19, e19, z10⟩ := bindO_inv z9
      refine wo_step (s_pure (o_ixS rfl rfl e19)) ?_
      obtain ⟨v20, e20, z11⟩ := bindO_inv z10
      refine wo_step (s_ld rfl e20) (wo_step (v := (.i .i64 x9)) (s_pure (p_mv rfl)) ?_)
      obtain ⟨v22, e22, z12⟩ := bindO_inv z11
      refine wo_step (s_pure (o_ixS rfl rfl e22)) ?_
      obtain ⟨vn_1, m_5, en_1, z13⟩ := bindP_inv z12
      refine wo_stepN (s_st rfl rfl en_1) ?_
      refine wo_nil ?_
      refine bk_norm ?_
      refine nx_norm (w_ops ?_)
      obtain ⟨x23, e23, z14⟩ := forceI_inv z13
      refine wo_step (s_pure (p_bin g9 rfl (b_add.trans (ci e23)))) (wo_step (v := (.i .i64 x23)) (s_pure (p_mv rfl)) (wo_nil ?_))
      cases z14
      exact ⟨_, _, rfl, rfl, rfl, gl rfl, gl g0, gl g3, gl g8⟩
    · refine w_condF rfl ?_
      refine w_exit ?_
      refine nx_exit ?_
      cases z6
      exact ⟨_, _, rfl, ne_norm_exit, rfl, rfl, gl g3⟩
  · obtain ⟨m_6, ho⟩ : ∃ z, z = o := ⟨_, rfl⟩
    subst ho
    rintro _ mm t_2 ⟨rfl, rfl, g3⟩
    refine bk_hit ?_
    refine nx_norm (w_seq (w_ops (wo_step (s_pure (p_mv g3)) (wo_step (v := v6) (s_pure (p_mv rfl)) (wo_nil (nx_norm ?_))))))
    refine w_ret ?_
    exact qf ret_ok (rt rfl rn) z4
/- dibber/vine.product[dibber/vine.whole] -/
abbrev g82_I0 (v1 : AVal) (v13 : AVal) (v0 : AVal) (x15 : Int) (s : Int × Mm) (m1 : Mm) (t1 : Tr) : Prop :=
  match s with
  | (x16, m_2) => m_2 = m1 ∧ t1.get 16 = (.i .i64 x16) ∧ t1.get 1 = v1 ∧ t1.get 5 = v13 ∧ t1.get 14 = v0 ∧ t1.get 15 = (.i .i64 x15)
abbrev g82_J0 (v1 : AVal) (v13 : AVal) (v0 : AVal) (x15 : Int) (o : Mm) (e : AExit) (m1 : Mm) (t1 : Tr) : Prop :=
  match o with
  | mo => e = (.exit 0) ∧ mo = m1 ∧ t1.get 5 = v13
abbrev g82_I1 (v1 : AVal) (v13 : AVal) (x16 : Int) (v20 : AVal) (v0 : AVal) (x15 : Int) (x33 : Int) (s : Int × Mm) (m1 : Mm) (t1 : Tr) : Prop :=
  match s with
  | (x34, m_5) => m_5 = m1 ∧ t1.get 34 = (.i .i64 x34) ∧ t1.get 1 = v1 ∧ t1.get 5 = v13 ∧ t1.get 6 = (.i .i64 x16) ∧ t1.get 7 = v20 ∧ t1.get 14 = v0 ∧ t1.get 15 = (.i .i64 x15) ∧ t1.get 16 = (.i .i64 x16) ∧ t1.get 33 = (.i .i64 x33)
abbrev g82_J1 (v1 : AVal) (v13 : AVal) (x16 : Int) (v20 : AVal) (v0 : AVal) (x15 : Int) (x33 : Int) (o : Mm) (e : AExit) (m1 : Mm) (t1 : Tr) : Prop :=
  match o with
  | mo => e = (.exit 2) ∧ mo = m1 ∧ t1.get 1 = v1 ∧ t1.get 5 = v13 ∧ t1.get 14 = v0 ∧ t1.get 15 = (.i .i64 x15) ∧ t1.get 16 = (.i .i64 x16)
abbrev g82_I2 (v1 : AVal) (v13 : AVal) (x16 : Int) (v20 : AVal) (x34 : Int) (v0 : AVal) (x15 : Int) (x33 : Int) (x38 : Int) (s : Int × Mm) (m1 : Mm) (t1 : Tr) : Prop :=
  match s with
  | (x39, m_6) => m_6 = m1 ∧ t1.get 39 = (.i .i64 x39) ∧ t1.get 1 = v1 ∧ t1.get 5 = v13 ∧ t1.get 6 = (.i .i64 x16) ∧ t1.get 7 = v20 ∧ t1.get 8 = (.i .i64 x34) ∧ t1.get 14 = v0 ∧ t1.get 15 = (.i .i64 x15) ∧ t1.get 16 = (.i .i64 x16) ∧ t1.get 33 = (.i .i64 x33) ∧ t1.get 34 = (.i .i64 x34) ∧ t1.get 37 = v20 ∧ t1.get 38 = (.i .i64 x38)
abbrev g82_J2 (v1 : AVal) (v13 : AVal) (x16 : Int) (v20 : AVal) (x34 : Int) (v0 : AVal) (x15 : Int) (x33 : Int) (x38 : Int) (o : Mm) (e : AExit) (m1 : Mm) (t1 : Tr) : Prop :=
  match o with
  | mo => e = (.exit 4) ∧ mo = m1 ∧ t1.get 1 = v1 ∧ t1.get 5 = v13 ∧ t1.get 6 = (.i .i64 x16) ∧ t1.get 7 = v20 ∧ t1.get 14 = v0 ∧ t1.get 15 = (.i .i64 x15) ∧ t1.get 16 = (.i .i64 x16) ∧ t1.get 33 = (.i .i64 x33) ∧ t1.get 34 = (.i .i64 x34)
def g82_b2 (M : Means) (ro : List ABlk) (v1 : AVal) (v13 : AVal) (x16 : Int) (v20 : AVal) (x34 : Int) (v0 : AVal) (x15 : Int) (x33 : Int) (x38 : Int) (x39 : Int) (m_6 : Mm) : Option ((Int × Mm) ⊕ (Mm)) :=
  forceB (ltI x39 x38) fun c40 =>
  cond c40 (
    bindO (evP .e (.ixS 1 (.c v20) (.c (.i .i64 x39)))) fun v42 =>
    bindO (ldM ro m_6 true 1 v42) fun v43 =>
    asI .i64 v43 fun x43 =>
    bindO (some (Mm.base m_6)) fun m_7 =>
    bindO (evP .e (.ixS 1 (.c v13) (.c (.i .i64 x16)))) fun v46 =>
    bindO (ldA ro m_6.h true 1 v46) fun v47 =>
    bindO (evP .e (.ixS 1 (.c v13) (.c (.i .i64 x16)))) fun v51 =>
    bindO (ldA ro m_6.h true 1 v51) fun v52 =>
    bindO (evP .e (.ixS 1 (.c v52) (.c (.i .i64 x34)))) fun v54 =>
    bindO (ldA ro m_6.h true 1 v54) fun v55 =>
    asI .i64 v55 fun x55 =>
    bindO (some (AVal.ifc 106 (.i .i64 x55))) fun v56 =>
    bindO (some (AVal.ifc 106 (.i .i64 x43))) fun v58 =>
    bindO (evP .e (.ixS 1 (.c v1) (.c (.i .i64 x39)))) fun v61 =>
    bindO (ldM ro m_7 true 1 v61) fun v62 =>
    bindO (evP .e (.ixS 1 (.c v62) (.c (.i .i64 x34)))) fun v64 =>
    bindO (ldM ro m_7 true 1 v64) fun v65 =>
    asI .i64 v65 fun x65 =>
    bindP (calliM M.call m_7 [(61, (126, [])), (106, (129, [])), (122, (131, []))] v58 [(.i .i64 x65)]) fun v66 m_8 =>
    asI .i64 v66 fun x66 =>
    chk (!Nat.blt m_8.lw m_6.h.length) <|
    bindP (calliM M.call m_8 [(61, (86, [])), (106, (128, [])), (122, (130, []))] v56 [(.i .i64 x66)]) fun v67 m_9 =>
    asI .i64 v67 fun x67 =>
    chk (!Nat.blt m_9.lw m_6.h.length) <|
    bindO (evP .e (.ixS 1 (.c v47) (.c (.i .i64 x34)))) fun v68 =>
    bindP (stepM ro m_9 (.st 1 (.c v68) (.c (.i .i64 x67)))) fun vn_1 m_10 =>
    bindO (some (Mm.join m_6 m_10)) fun m_11 =>
    forceI (wr .i64 (x39 + 1)) fun x69 =>
    some (.inl (x69, m_11))) (
    some (.inr m_6))
def g82_b1 (M : Means) (ro : List ABlk) (v1 : AVal) (v13 : AVal) (x16 : Int) (v20 : AVal) (v0 : AVal) (x15 : Int) (x33 : Int) (x34 : Int) (m_5 : Mm) : Option ((Int × Mm) ⊕ (Mm)) :=
  forceB (ltI x34 x33) fun c35 =>
  cond c35 (
    bindO (evP .e (.len false (.c v20))) fun v38 =>
    asI .i64 v38 fun x38 =>
    bindO (M.loop (S := Int × Mm) (R := Mm) (fun s => g82_b2 M ro v1 v13 x16 v20 x34 v0 x15 x33 x38 s.1 s.2) (0, m_5)) fun m_12 =>
    forceI (wr .i64 (x34 + 1)) fun x70 =>
    some (.inl (x70, m_12))) (
    some (.inr m_5))
def g82_b0 (M : Means) (ro : List ABlk) (v1 : AVal) (v13 : AVal) (v0 : AVal) (x15 : Int) (x16 : Int) (m_2 : Mm) : Option ((Int × Mm) ⊕ (Mm)) :=
  forceB (ltI x16 x15) fun c17 =>
  cond c17 (
    bindO (evP .e (.ixS 1 (.c v0) (.c (.i .i64 x16)))) fun v19 =>
    bindO (ldM ro m_2 true 1 v19) fun v20 =>
    bindO (evP .e (.ixS 1 (.c v1) (.c (.i .i64 0)))) fun v24 =>
    bindO (ldM ro m_2 true 1 v24) fun v25 =>
    bindO (evP .e (.len false (.c v25))) fun v26 =>
    asI .i64 v26 fun x26 =>
    bindP (stepM ro m_2 (.mk 106 1 8 [(AVal.i IntKind.i64 0)] (.c (.i .i64 x26)) (.c (.i .i64 x26)))) fun v27 m_3 =>
    bindO (evP .e (.ixS 1 (.c v13) (.c (.i .i64 x16)))) fun v28 =>
    bindP (stepM ro m_3 (.st 1 (.c v28) (.c v27))) fun vn m_4 =>
    bindO (evP .e (.ixS 1 (.c v13) (.c (.i .i64 x16)))) fun v31 =>
    bindO (ldM ro m_4 true 1 v31) fun v32 =>
    bindO (evP .e (.len false (.c v32))) fun v33 =>
    asI .i64 v33 fun x33 =>
    bindO (M.loop (S := Int × Mm) (R := Mm) (fun s => g82_b1 M ro v1 v13 x16 v20 v0 x15 x33 s.1 s.2) (0, m_4)) fun m_13 =>
    forceI (wr .i64 (x16 + 1)) fun x71 =>
    some (.inl (x71, m_13))) (
    some (.inr m_2))
def g82 (M : Means) (ro : List ABlk) (v0 : AVal) (v1 : AVal) (m0 : Mm) : Option (AVal × Heap × Nat × Nat) :=
  bindO (evP .e (.len false (.c v0))) fun v12 =>
  asI .i64 v12 fun x12 =>
  bindP (stepM ro m0 (.mk 111 1 24 [AVal.nsl] (.c (.i .i64 x12)) (.c (.i .i64 x12)))) fun v13 m_1 =>
  bindO (evP .e (.len false (.c v0))) fun v15 =>
  asI .i64 v15 fun x15 =>
  bindO (M.loop (S := Int × Mm) (R := Mm) (fun s => g82_b0 M ro v1 v13 v0 x15 s.1 s.2) (0, m_1)) fun m_14 =>
  finM m0.h.length (tupA [v13]) m_14
theorem g82_ok {ro : List ABlk} {O : Caller} {M : Means} (hM : M.Ok ⟨F, O⟩ ro) {v0 v1 h r} (ho : O 82 [v0, v1] h = none) (hr : g82 M ro v0 v1 ⟨h, h.length, h.length⟩ = some r) : callX ⟨F, O⟩ ro 82 [v0, v1] h = some r := by
  refine callX_of (F := ⟨F, O⟩) (fn := fn82) (g := g82 M ro v0 v1) ho rfl rfl hr ?_
  clear ho
  clear hr
  intro m0 t0 ht hr
  have g0 : t0.get 0 = v0 := ht 0
  have g1 : t0.get 1 = v1 := ht 1
  clear ht
  unfold g82 at hr
  refine w_seq (w_ops (wo_step (v := AVal.nsl) (s_pure (p_mv rfl)) (wo_nil (nx_norm (w_seq (w_ops (wo_step (s_pure (p_mv g0)) ?_)))))))
  obtain ⟨v12, e12, z1⟩ := bindO_inv hr
  obtain ⟨x12, rfl, z2⟩ := asI_inv z1
  refine wo_step (s_pure (o_len rfl e12)) ?_
  obtain ⟨v13, m_1, e13, z3⟩ := bindP_inv z2
  refine wo_step (s_mk rfl rfl e13) (wo_step (v := v13) (s_pure (p_mv rfl)) (wo_nil (nx_norm (w_seq (w_seq (w_ops (wo_step (s_pure (p_mv g0)) ?_)))))))
  obtain ⟨v15, e15, z4⟩ := bindO_inv z3
  obtain ⟨x15, rfl, z5⟩ := asI_inv z4
  refine wo_step (s_pure (o_len rfl e15)) (wo_step (v := (.i .i64 0)) (s_pure (p_mv rfl)) (wo_nil (nx_norm ?_)))
  refine w_block ?_
  obtain ⟨o_2, hl_2, z6⟩ := bindO_inv z5
  obtain ⟨n_2, hl_2⟩ := hM.loop _ _ _ hl_2
  refine jp_mono (w_loop _ (g82_I0 v1 v13 v0 x15) (g82_J0 v1 v13 v0 x15) ?_ n_2 _ _ _ _ hl_2 ⟨rfl, gl rfl, gl g1, gl rfl, gl rfl, gl rfl⟩) ?_
  · clear z6 hl_2
    intro s mm_5 t_1 o hi hr
    obtain ⟨x16, m_2⟩ := s
    obtain ⟨rfl, g16, g1, g5, g14, g15⟩ := hi
    unfold g82_b0 at hr
    refine w_seq (w_ops ?_)
    obtain ⟨c17, e17, z7⟩ := forceB_inv hr
    refine wo_step (s_pure (p_bin g16 g15 (b_lss.trans (cb e17)))) (wo_nil (nx_norm (w_seq ?_)))
    rcases cond_inv z7 with ⟨rfl, z8⟩ | ⟨rfl, z8⟩
    · refine w_condT rfl ?_
      refine w_skip (nx_norm (w_seq ?_))
      refine w_block ?_
      refine w_seq (w_ops (wo_step (s_pure (p_mv g16)) ?_))
      obtain ⟨v19, e19, z9⟩ := bindO_inv z8
      refine wo_step (s_pure (o_ixS g14 g16 e19)) ?_
      obtain ⟨v20, e20, z10⟩ := bindO_inv z9
      refine wo_step (s_ld rfl e20) (wo_step (v := (.i .i64 x16)) (s_pure (p_mv rfl)) (wo_step (v := v20) (s_pure (p_mv rfl)) (wo_nil (nx_norm (w_seq (w_ops (wo_step (s_pure (p_mv g5)) (wo_step (v := (.i .i64 x16)) (s_pure (p_mv rfl)) (wo_step (s_pure (p_mv g1)) ?_)))))))))
      obtain ⟨v24, e24, z11⟩ := bindO_inv z10
      refine wo_step (s_pure (o_ixS rfl rfl e24)) ?_
      obtain ⟨v25, e25, z12⟩ := bindO_inv z11
      refine wo_step (s_ld rfl e25) ?_
      obtain ⟨v26, e26, z13⟩ := bindO_inv z12
      obtain ⟨x26, rfl, z14⟩ := asI_inv z13
      refine wo_step (s_pure (o_len rfl e26)) ?_
      obtain ⟨v27, m_3, e27, z15⟩ := bindP_inv z14
      refine wo_step (s_mk rfl rfl e27) ?_
      obtain ⟨v28, e28, z16⟩ := bindO_inv z15
      refine wo_step (s_pure (o_ixS rfl rfl e28)) ?_
      obtain ⟨vn, m_4, en, z17⟩ := bindP_inv z16
      refine wo_stepN (s_st rfl rfl en) ?_
      refine wo_nil (nx_norm (w_seq (w_ops (wo_step (s_pure (p_mv g5)) (wo_step (v := (.i .i64 x16)) (s_pure (p_mv rfl)) ?_)))))
      obtain ⟨v31, e31, z18⟩ := bindO_inv z17
      refine wo_step (s_pure (o_ixS rfl rfl e31)) ?_
      obtain ⟨v32, e32, z19⟩ := bindO_inv z18
      refine wo_step (s_ld rfl e32) ?_
      obtain ⟨v33, e33, z20⟩ := bindO_inv z19
      obtain ⟨x33, rfl, z21⟩ := asI_inv z20
      refine wo_step (s_pure (o_len rfl e33)) (wo_step (v := (.i .i64 0)) (s_pure (p_mv rfl)) (wo_nil (nx_norm ?_)))
      refine w_block ?_
      obtain ⟨o_1, hl_1, z22⟩ := bindO_inv z21
      obtain ⟨n_1, hl_1⟩ := hM.loop _ _ _ hl_1
      refine jp_mono (w_loop _ (g82_I1 v1 v13 x16 v20 v0 x15 x33) (g82_J1 v1 v13 x16 v20 v0 x15 x33) ?_ n_1 _ _ _ _ hl_1 ⟨rfl, gl rfl, gl g1, gl g5, gl rfl, gl rfl, gl g14, gl g15, gl g16, gl rfl⟩) ?_
      · clear z22 hl_1
        intro s mm_3 t_2 o hi hr
        obtain ⟨x34, m_5⟩ := s
        obtain ⟨rfl, g34, g1, g5, g6, g7, g14, g15, g16, g33⟩ := hi
        unfold g82_b1 at hr
        refine w_seq (w_ops ?_)
        obtain ⟨c35, e35, z23⟩ := forceB_inv hr
        refine wo_step (s_pure (p_bin g34 g33 (b_lss.trans (cb e35)))) (wo_nil (nx_norm (w_seq ?_)))
        rcases cond_inv z23 with ⟨rfl, z24⟩ | ⟨rfl, z24⟩
        · refine w_condT rfl ?_
          refine w_skip (nx_norm (w_seq ?_))
          refine w_block ?_
          refine w_seq (w_ops (wo_step (s_pure (p_mv g34)) (wo_step (v := (.i .i64 x34)) (s_pure (p_mv rfl)) (wo_nil (nx_norm (w_seq (w_ops (wo_step (s_pure (p_mv g7)) ?_))))))))
          obtain ⟨v38, e38, z25⟩ := bindO_inv z24
          obtain ⟨x38, rfl, z26⟩ := asI_inv z25
          refine wo_step (s_pure (o_len rfl e38)) (wo_step (v := (.i .i64 0)) (s_pure (p_mv rfl)) (wo_nil (nx_norm ?_)))
          refine w_block ?_
          obtain ⟨o, hl, z27⟩ := bindO_inv z26
          obtain ⟨n, hl⟩ := hM.loop _ _ _ hl
          refine jp_mono (w_loop _ (g82_I2 v1 v13 x16 v20 x34 v0 x15 x33 x38) (g82_J2 v1 v13 x16 v20 x34 v0 x15 x33 x38) ?_ n _ _ _ _ hl ⟨rfl, gl rfl, gl g1, gl g5, gl g6, gl g7, gl rfl, gl g14, gl g15, gl g16, gl g33, gl g34, gl rfl, gl rfl⟩) ?_
          · clear z27 hl
            intro s mm_1 t_3 o hi hr
            obtain ⟨x39, m_6⟩ := s
            obtain ⟨rfl, g39, g1, g5, g6, g7, g8, g14, g15, g16, g33, g34, g37, g38⟩ := hi
            unfold g82_b2 at hr
            refine w_seq (w_ops ?_)
            obtain ⟨c40, e40, z28⟩ := forceB_inv hr
            refine wo_step (s_pure (p_bin g39 g38 (b_lss.trans (cb e40)))) (wo_nil (nx_norm (w_seq ?_)))
            rcases cond_inv z28 with ⟨rfl, z29⟩ | ⟨rfl, z29⟩
            · refine w_condT rfl ?_
              refine w_skip (nx_norm (w_seq ?_))
              refine w_block ?_
              refine w_seq (w_ops (wo_step (s_pure (p_mv g39)) ?_))
              obtain ⟨v42, e42, z30⟩ := bindO_inv z29
              refine wo_step (s_pure (o_ixS g37 g39 e42)) ?_
              obtain ⟨v43, e43, z31⟩ := bindO_inv z30
              obtain ⟨x43, rfl, z32⟩ := asI_inv z31
              refine wo_step (s_ld rfl e43) (wo_step (v := (.i .i64 x39)) (s_pure (p_mv rfl)) (wo_step (v := (.i .i64 x43)) (s_pure (p_mv rfl)) (wo_nil (nx_norm ?_))))
              obtain ⟨m_7, ef, z33⟩ := bindO_inv z32
              refine w_flt (af := true) rfl ef ?_
              refine wf_step (v := v13) (f_P rfl (s_pure (p_mv g5))) ?_
              refine wf_step (v := (.i .i64 x16)) (f_P rfl (s_pure (p_mv g6))) ?_
              obtain ⟨v46, e46, z34⟩ := bindO_inv z33
              refine wf_step (v := v46) (f_P rfl (s_pure (o_ixS rfl rfl e46))) ?_
              obtain ⟨v47, e47, z35⟩ := bindO_inv z34
              refine wf_step (v := v47) (f_ld rfl e47) ?_
              refine wf_step (v := (.i .i64 x34)) (f_P rfl (s_pure (p_mv g8))) ?_
              refine wf_step (v := v13) (f_P rfl (s_pure (p_mv g5))) ?_
              refine wf_step (v := (.i .i64 x16)) (f_P rfl (s_pure (p_mv g6))) ?_
              obtain ⟨v51, e51, z36⟩ := bindO_inv z35
              refine wf_step (v := v51) (f_P rfl (s_pure (o_ixS rfl rfl e51))) ?_
              obtain ⟨v52, e52, z37⟩ := bindO_inv z36
              refine wf_step (v := v52) (f_ld rfl e52) ?_
              refine wf_step (v := (.i .i64 x34)) (f_P rfl (s_pure (p_mv g8))) ?_
              obtain ⟨v54, e54, z38⟩ := bindO_inv z37
              refine wf_step (v := v54) (f_P rfl (s_pure (o_ixS rfl rfl e54))) ?_
              obtain ⟨v55, e55, z39⟩ := bindO_inv z38
              obtain ⟨x55, rfl, z40⟩ := asI_inv z39
              refine wf_step (v := (.i .i64 x55)) (f_ld rfl e55) ?_
              obtain ⟨v56, e56, z41⟩ := bindO_inv z40
              refine wf_step (v := v56) (f_P rfl (s_pure (o_mki rfl e56))) ?_
              refine wf_step (v := (.i .i64 x43)) (f_P rfl (s_pure (p_mv rfl))) ?_
              obtain ⟨v58, e58, z42⟩ := bindO_inv z41
              refine wf_step (v := v58) (f_P rfl (s_pure (o_mki rfl e58))) ?_
              refine wf_step (v := v1) (f_P rfl (s_pure (p_mv g1))) ?_
              refine wf_step (v := (.i .i64 x39)) (f_P rfl (s_pure (p_mv rfl))) ?_
              obtain ⟨v61, e61, z43⟩ := bindO_inv z42
              refine wf_step (v := v61) (f_P rfl (s_pure (o_ixS rfl rfl e61))) ?_
              obtain ⟨v62, e62, z44⟩ := bindO_inv z43
              refine wf_step (v := v62) (f_P rfl (s_ld rfl e62)) ?_
              refine wf_step (v := (.i .i64 x34)) (f_P rfl (s_pure (p_mv g8))) ?_
              obtain ⟨v64, e64, z45⟩ := bindO_inv z44
              refine wf_step (v := v64) (f_P rfl (s_pure (o_ixS rfl rfl e64))) ?_
              obtain ⟨v65, e65, z46⟩ := bindO_inv z45
              obtain ⟨x65, rfl, z47⟩ := asI_inv z46
              refine wf_step (v := (.i .i64 x65)) (f_P rfl (s_ld rfl e65)) ?_
              obtain ⟨v66, m_8, e66, z48⟩ := bindP_inv z47
              obtain ⟨x66, rfl, z49⟩ := asI_inv z48
              obtain ⟨hc66, z50⟩ := chk_inv z49
              refine wf_step (v := (.i .i64 x66)) (f_M hc66 (s_calli rfl (mc rfl mn) (calliM_le hM.call e66))) ?_
              obtain ⟨v67, m_9, e67, z51⟩ := bindP_inv z50
              obtain ⟨x67, rfl, z52⟩ := asI_inv z51
              obtain ⟨hc67, z53⟩ := chk_inv z52
              refine wf_step (v := (.i .i64 x67)) (f_M hc67 (s_calli rfl (mc rfl mn) (calliM_le hM.call e67))) ?_
              obtain ⟨v68, e68, z54⟩ := bindO_inv z53
              refine wf_step (v := v68) (f_P rfl (s_pure (o_ixS rfl rfl e68))) ?_
              obtain ⟨vn_1, m_10, en_1, z55⟩ := bindP_inv z54
              refine wf_stepN (f_F rfl (s_st rfl rfl en_1)) ?_
              obtain ⟨m_11, ef_1, z56⟩ := bindO_inv z55
              refine wf_end ef_1 ?_
              refine bk_norm ?_
              refine nx_norm (w_ops ?_)
              obtain ⟨x69, e69, z57⟩ := forceI_inv z56
              refine wo_step (s_pure (p_bin g39 rfl (b_add.trans (ci e69)))) (wo_step (v := (.i .i64 x69)) (s_pure (p_mv rfl)) (wo_nil ?_))
              cases z57
              exact ⟨_, _, rfl, rfl, rfl, gl rfl, gl g1, gl g5, gl g6, gl g7, gl g8, gl g14, gl g15, gl g16, gl g33, gl g34, gl g37, gl g38⟩
            · refine w_condF rfl ?_
              refine w_exit ?_
              refine nx_exit ?_
              cases z29
              exact ⟨_, _, rfl, ne_norm_exit, rfl, rfl, gl g1, gl g5, gl g6, gl g7, gl g14, gl g15, gl g16, gl g33, gl g34⟩
          · obtain ⟨m_12, ho⟩ : ∃ z, z = o := ⟨_, rfl⟩
            subst ho
            rintro _ mm t_4 ⟨rfl, rfl, g1, g5, g6, g7, g14, g15, g16, g33, g34⟩
            refine bk_hit ?_
            refine bk_norm ?_
            refine nx_norm (w_ops ?_)
            obtain ⟨x70, e70, z58⟩ := forceI_inv z27
            refine wo_step (s_pure (p_bin g34 rfl (b_add.trans (ci e70)))) (wo_step (v := (.i .i64 x70)) (s_pure (p_mv rfl)) (wo_nil ?_))
            cases z58
            exact ⟨_, _, rfl, rfl, rfl, gl rfl, gl g1, gl g5, gl g6, gl g7, gl g14, gl g15, gl g16, gl g33⟩
        · refine w_condF rfl ?_
          refine w_exit ?_
          refine nx_exit ?_
          cases z24
          exact ⟨_, _, rfl, ne_norm_exit, rfl, rfl, gl g1, gl g5, gl g14, gl g15, gl g16⟩
      · obtain ⟨m_13, ho⟩ : ∃ z, z = o_1 := ⟨_, rfl⟩
        subst ho
        rintro _ mm_2 t_5 ⟨rfl, rfl, g1, g5, g14, g15, g16⟩
        refine bk_hit ?_
        refine bk_norm ?_
        refine nx_norm (w_ops ?_)
        obtain ⟨x71, e71, z59⟩ := forceI_inv z22
        refine wo_step (s_pure (p_bin g16 rfl (b_add.trans (ci e71)))) (wo_step (v := (.i .i64 x71)) (s_pure (p_mv rfl)) (wo_nil ?_))
        cases z59
        exact ⟨_, _, rfl, rfl, rfl, gl rfl, gl g1, gl g5, gl g14, gl g15⟩
    · refine w_condF rfl ?_
      refine w_exit ?_
      refine nx_exit ?_
      cases z8
      exact ⟨_, _, rfl, ne_norm_exit, rfl, rfl, gl g5⟩
  · obtain ⟨m_14, ho⟩ : ∃ z, z = o_2 := ⟨_, rfl⟩
    subst ho
    rintro _ mm_4 t_6 ⟨rfl, rfl, g5⟩
    refine bk_hit ?_
    refine nx_norm (w_seq (w_ops (wo_step (s_pure (p_mv g5)) (wo_step (v := v13) (s_pure (p_mv rfl)) (wo_nil (nx_norm ?_))))))
    refine w_ret ?_
    exact qf ret_ok (rt rfl rn) z6
/- dibber/vine.trace -/
abbrev g83_I0 (v0 : AVal) (x6 : Int) (m0 : Mm) (s : Int × Int) (m1 : Mm) (t1 : Tr) : Prop :=
  match s with
  | (x3, x7) => m0 = m1 ∧ t1.get 3 = (.i .i64 x3) ∧ t1.get 7 = (.i .i64 x7) ∧ t1.get 0 = v0 ∧ t1.get 6 = (.i .i64 x6)
abbrev g83_J0 (v0 : AVal) (x6 : Int) (m0 : Mm) (o : Int) (e : AExit) (m1 : Mm) (t1 : Tr) : Prop :=
  match o with
  | y3 => e = (.exit 0) ∧ m0 = m1 ∧ t1.get 3 = (.i .i64 y3)
def g83_b0 (M : Means) (ro : List ABlk) (v0 : AVal) (x6 : Int) (m0 : Mm) (x3 : Int) (x7 : Int) : Option ((Int × Int) ⊕ (Int)) :=
  forceB (ltI x7 x6) fun c8 =>
  cond c8 (
    bindO (evP .e (.ixS 1 (.c v0) (.c (.i .i64 x7)))) fun v13 =>
    bindO (ldM ro m0 true 1 v13) fun v14 =>
    bindO (evP .e (.ixS 1 (.c v14) (.c (.i .i64 x7)))) fun v16 =>
    bindO (ldM ro m0 true 1 v16) fun v17 =>
    asI .i64 v17 fun x17 =>
    forceI (wr .i64 (x3 + x17)) fun x18 =>
    forceI (wr .i64 (x7 + 1)) fun x19 =>
    some (.inl (x18, x19))) (
    some (.inr x3))
def g83 (M : Means) (ro : List ABlk) (v0 : AVal) (m0 : Mm) : Option (AVal × Heap × Nat × Nat) :=
  bindO (evP .e (.len false (.c v0))) fun v6 =>
  asI .i64 v6 fun x6 =>
  bindO (M.loop (S := Int × Int) (R := Int) (fun s => g83_b0 M ro v0 x6 m0 s.1 s.2) (0, 0)) fun x3_1 =>
  finM m0.h.length (tupA [(.i .i64 x3_1)]) m0
theorem g83_ok {ro : List ABlk} {O : Caller} {M : Means} (hM : M.Ok ⟨F, O⟩ ro) {v0 h r} (ho : O 83 [v0] h = none) (hr : g83 M ro v0 ⟨h, h.length, h.length⟩ = some r) : callX ⟨F, O⟩ ro 83 [v0] h = some r := by
  refine callX_of (F := ⟨F, O⟩) (fn := fn83) (g := g83 M ro v0) ho rfl rfl hr ?_
  clear ho
  clear hr
  intro m0 t0 ht hr
  have g0 : t0.get 0 = v0 := ht 0
  clear ht
  unfold g83 at hr
  refine w_seq (w_ops (wo_step (v := (.i .i64 0)) (s_pure (p_mv rfl)) (wo_nil (nx_norm (w_seq (w_ops (wo_step (v := (.i .i64 0)) (s_pure (p_mv rfl)) (wo_nil (nx_norm (w_seq (w_seq ?_)))))))))))
  refine w_ops (wo_step (s_pure (p_mv g0)) ?_)
  obtain ⟨v6, e6, z1⟩ := bindO_inv hr
  obtain ⟨x6, rfl, z2⟩ := asI_inv z1
  refine wo_step (s_pure (o_len rfl e6)) (wo_step (v := (.i .i64 0)) (s_pure (p_mv rfl)) (wo_nil (nx_norm ?_)))
  refine w_block ?_
  obtain ⟨o, hl, z3⟩ := bindO_inv z2
  obtain ⟨n, hl⟩ := hM.loop _ _ _ hl
  refine jp_mono (w_loop _ (g83_I0 v0 x6 m0) (g83_J0 v0 x6 m0) ?_ n _ _ _ _ hl ⟨rfl, gl rfl, gl rfl, gl g0, gl rfl⟩) ?_
  · clear z3 hl
    intro s mm_1 t_1 o hi hr
    obtain ⟨x3, x7⟩ := s
    obtain ⟨rfl, g3, g7, g0, g6⟩ := hi
    unfold g83_b0 at hr
    refine w_seq (w_ops ?_)
    obtain ⟨c8, e8, z4⟩ := forceB_inv hr
    refine wo_step (s_pure (p_bin g7 g6 (b_lss.trans (cb e8)))) (wo_nil (nx_norm (w_seq ?_)))
    rcases cond_inv z4 with ⟨rfl, z5⟩ | ⟨rfl, z5⟩
    · refine w_condT rfl ?_
      refine w_skip (nx_norm (w_seq ?_))
      refine w_block ?_
      refine w_seq (w_ops (wo_step (s_pure (p_mv g7)) (wo_step (v := (.i .i64 x7)) (s_pure (p_mv rfl)) (wo_nil (nx_norm (w_ops (wo_step (s_pure (p_mv g3)) (wo_step (s_pure (p_mv g0)) (wo_step (v := (.i .i64 x7)) (s_pure (p_mv rfl)) ?_)))))))))
      obtain ⟨v13, e13, z6⟩ := bindO_inv z5
      refine wo_step (s_pure (o_ixS rfl rfl e13)) ?_
      obtain ⟨v14, e14, z7⟩ := bindO_inv z6
      refine wo_step (s_ld rfl e14) (wo_step (v := (.i .i64 x7)) (s_pure (p_mv rfl)) ?_)
      obtain ⟨v16, e16, z8⟩ := bindO_inv z7
      refine wo_step (s_pure (o_ixS rfl rfl e16)) ?_
      obtain ⟨v17, e17, z9⟩ := bindO_inv z8
      obtain ⟨x17, rfl, z10⟩ := asI_inv z9
      refine wo_step (s_ld rfl e17) ?_
      obtain ⟨x18, e18, z11⟩ := forceI_inv z10
      refine wo_step (s_pure (p_bin rfl rfl (b_add.trans (ci e18)))) (wo_step (v := (.i .i64 x18)) (s_pure (p_mv rfl)) (wo_nil ?_))
      refine bk_norm ?_
      refine nx_norm (w_ops ?_)
      obtain ⟨x19, e19, z12⟩ := forceI_inv z11
      refine wo_step (s_pure (p_bin g7 rfl (b_add.trans (ci e19)))) (wo_step (v := (.i .i64 x19)) (s_pure (p_mv rfl)) (wo_nil ?_))
      cases z12
      exact ⟨_, _, rfl, rfl, rfl, gl rfl, gl rfl, gl g0, gl g6⟩
    · refine w_condF rfl ?_
      refine w_exit ?_
      refine nx_exit ?_
      cases z5
      exact ⟨_, _, rfl, ne_norm_exit, rfl, rfl, gl g3⟩
  · obtain ⟨x3_1, ho⟩ : ∃ z, z = o := ⟨_, rfl⟩
    subst ho
    rintro _ mm t_2 ⟨rfl, rfl, g3⟩
    refine bk_hit ?_
    refine nx_norm (w_seq (w_ops (wo_step (s_pure (p_mv g3)) (wo_step (v := (.i .i64 x3_1)) (s_pure (p_mv rfl)) (wo_nil (nx_norm ?_))))))
    refine w_ret ?_
    exact qf ret_ok (rt rfl rn) z3
/- dibber/dibberref03.Letters -/
abbrev g85_I0 (v0 : AVal) (s1 : List UInt8) (m0 : Mm) (s : Int) (m1 : Mm) (t1 : Tr) : Prop :=
  match s with
  | x5 => m0 = m1 ∧ t1.get 5 = (.i .i64 x5) ∧ t1.get 0 = v0 ∧ t1.get 1 = (.s s1)
abbrev g85_J0 (v0 : AVal) (s1 : List UInt8) (m0 : Mm) (o : (Unit ⊕ Bool)) (e : AExit) (m1 : Mm) (t1 : Tr) : Prop :=
  match o with
  | (.inl _) => e = (.exit 0) ∧ m0 = m1
  | (.inr y4) => e = .ret ∧ m0 = m1 ∧ t1.get 4 = (.b y4)
abbrev g85_J1 (v0 : AVal) (s1 : List UInt8) (x5 : Int) (m0 : Mm) (o : Bool) (m1 : Mm) (t1 : Tr) : Prop :=
  match o with
  | c25 => m0 = m1 ∧ t1.get 25 = (.b c25) ∧ t1.get 0 = v0 ∧ t1.get 1 = (.s s1) ∧ t1.get 5 = (.i .i64 x5)
def g85_b0 (M : Means) (ro : List ABlk) (v0 : AVal) (s1 : List UInt8) (m0 : Mm) (x5 : Int) : Option ((Int) ⊕ ((Unit ⊕ Bool))) :=
  bindO (evP .e (.len true (.c (.s s1)))) fun v8 =>
  asI .i64 v8 fun x8 =>
  forceB (ltI x5 x8) fun c9 =>
  cond c9 (
    bindO (evP .e (.ixStr (.c (.s s1)) (.c (.i .i64 x5)))) fun v14 =>
    asI .u8 v14 fun x14 =>
    forceB (ltI x14 97) fun c15 =>
    bindO (cond c15 (
      some true) (
      bindO (evP .e (.ixStr (.c (.s s1)) (.c (.i .i64 x5)))) fun v19 =>
      asI .u8 v19 fun x19 =>
      forceI (wr .u8 (x19 - 97)) fun x20 =>
      forceI (wr .i64 x20) fun x21 =>
      bindO (evP .e (.len false (.c v0))) fun v23 =>
      asI .i64 v23 fun x23 =>
      forceB (!ltI x21 x23) fun c24 =>
      some c24)) fun c25 =>
    cond c25 (
      some (.inr (.inr false))) (
      forceI (wr .i64 (x5 + 1)) fun x11 =>
      some (.inl x11))) (
    some (.inr (.inl ())))
def g85 (M : Means) (ro : List ABlk) (v0 : AVal) (s1 : List UInt8) (m0 : Mm) : Option (AVal × Heap × Nat × Nat) :=
  bindO (M.loop (S := Int) (R := (Unit ⊕ Bool)) (fun s => g85_b0 M ro v0 s1 m0 s) 0) fun o_1 => match o_1 with
  | (.inl _) =>
    finM m0.h.length (tupA [(.b true)]) m0
  | (.inr c4) =>
    finM m0.h.length (tupA [(.b c4)]) m0
theorem g85_ok {ro : List ABlk} {O : Caller} {M : Means} (hM : M.Ok ⟨F, O⟩ ro) {v0 s1 h r} (ho : O 85 [v0, (.s s1)] h = none) (hr : g85 M ro v0 s1 ⟨h, h.length, h.length⟩ = some r) : callX ⟨F, O⟩ ro 85 [v0, (.s s1)] h = some r := by
  refine callX_of (F := ⟨F, O⟩) (fn := fn85) (g := g85 M ro v0 s1) ho rfl rfl hr ?_
  clear ho
  clear hr
  intro m0 t0 ht hr
  have g0 : t0.get 0 = v0 := ht 0
  have g1 : t0.get 1 = (.s s1) := ht 1
  clear ht
  unfold g85 at hr
  refine w_seq (w_ops (wo_step (v := (.b false)) (s_pure (p_mv rfl)) (wo_nil (nx_norm (w_seq (w_seq (w_ops (wo_step (v := (.i .i64 0)) (s_pure (p_mv rfl)) (wo_nil (nx_norm ?_))))))))))
  refine w_block ?_
  obtain ⟨o_1, hl, z1⟩ := bindO_inv hr
  obtain ⟨n, hl⟩ := hM.loop _ _ _ hl
  refine jp_mono (w_loop _ (g85_I0 v0 s1 m0) (g85_J0 v0 s1 m0) ?_ n _ _ _ _ hl ⟨rfl, gl rfl, gl g0, gl g1⟩) ?_
  · clear z1 hl
    intro s mm_3 t_1 o hi hr
    obtain ⟨x5, hs⟩ : ∃ z, z = s := ⟨_, rfl⟩
    subst hs
    obtain ⟨rfl, g5, g0, g1⟩ := hi
    unfold g85_b0 at hr
    refine w_seq (w_seq (w_ops (wo_step (s_pure (p_mv g5)) (wo_step (s_pure (p_mv g1)) ?_))))
    obtain ⟨v8, e8, z2⟩ := bindO_inv hr
    obtain ⟨x8, rfl, z3⟩ := asI_inv z2
    refine wo_step (s_pure (o_len rfl e8)) ?_
    obtain ⟨c9, e9, z4⟩ := forceB_inv z3
    refine wo_step (s_pure (p_bin rfl rfl (b_lss.trans (cb e9)))) (wo_nil (nx_norm ?_))
    rcases cond_inv z4 with ⟨rfl, z5⟩ | ⟨rfl, z5⟩
    · refine w_condT rfl ?_
      refine w_skip (nx_norm (w_seq ?_))
      refine w_block ?_
      refine w_seq (w_ops (wo_step (s_pure (p_mv g1)) (wo_step (s_pure (p_mv g5)) ?_)))
      obtain ⟨v14, e14, z6⟩ := bindO_inv z5
      obtain ⟨x14, rfl, z7⟩ := asI_inv z6
      refine wo_step (s_pure (o_ixStr rfl rfl e14)) ?_
      obtain ⟨c15, e15, z8⟩ := forceB_inv z7
      refine wo_step (s_pure (p_bin rfl rfl (b_lss.trans (cb e15)))) (wo_step (v := (.b c15)) (s_pure (p_mv rfl)) ?_)
      obtain ⟨o, z9, hk⟩ := bindO_inv z8
      refine wo_join 9 (g85_J1 v0 s1 x5 m0 o) ?_ ?_
      · clear hk
        rcases cond_inv z9 with ⟨rfl, z10⟩ | ⟨rfl, z10⟩
        · refine wo_skip (v := (.b true)) rfl rfl (wo_skip (v := (.b true)) rfl rfl (wo_skip (v := (.b true)) rfl rfl (wo_skip (v := (.b true)) rfl rfl (wo_skip (v := (.b true)) rfl rfl (wo_skip (v := (.b true)) rfl rfl (wo_skip (v := (.b true)) rfl rfl (wo_skip (v := (.b true)) rfl rfl (wo_step (v := (.b true)) (s_pure (p_pickT rfl rfl)) (wo_nil ?_)))))))))
          cases z10
          exact ⟨_, _, rfl, rfl, gl rfl, gl g0, gl g1, gl g5⟩
        · refine wo_take (v := (.s s1)) rfl (s_pure (p_mv g1)) (wo_take (v := (.i .i64 x5)) rfl (s_pure (p_mv g5)) ?_)
          obtain ⟨v19, e19, z11⟩ := bindO_inv z10
          obtain ⟨x19, rfl, z12⟩ := asI_inv z11
          refine wo_take (v := (.i .u8 x19)) rfl (s_pure (o_ixStr rfl rfl e19)) ?_
          obtain ⟨x20, e20, z13⟩ := forceI_inv z12
          refine wo_take (v := (.i .u8 x20)) rfl (s_pure (p_bin rfl rfl (b_sub.trans (ci e20)))) ?_
          obtain ⟨x21, e21, z14⟩ := forceI_inv z13
          refine wo_take (v := (.i .i64 x21)) rfl (s_pure ((p_conv rfl).trans (ci e21))) (wo_take (v := v0) rfl (s_pure (p_mv g0)) ?_)
          obtain ⟨v23, e23, z15⟩ := bindO_inv z14
          obtain ⟨x23, rfl, z16⟩ := asI_inv z15
          refine wo_take (v := (.i .i64 x23)) rfl (s_pure (o_len rfl e23)) ?_
          obtain ⟨c24, e24, z17⟩ := forceB_inv z16
          refine wo_take (v := (.b c24)) rfl (s_pure (p_bin rfl rfl (b_geq.trans (cb e24)))) (wo_step (v := (.b c24)) (s_pure (p_pickF rfl rfl)) (wo_nil ?_))
          cases z17
          exact ⟨_, _, rfl, rfl, gl rfl, gl g0, gl g1, gl g5⟩
      · clear z9
        have hr := hk
        clear hk
        obtain ⟨c25, ho⟩ : ∃ z, z = o := ⟨_, rfl⟩
        subst ho
        rintro mm t_2 ⟨rfl, g25, g0, g1, g5⟩
        refine wo_nil (nx_norm ?_)
        rcases cond_inv hr with ⟨rfl, z18⟩ | ⟨rfl, z18⟩
        · refine w_condT g25 ?_
          refine w_seq (w_ops (wo_step (v := (.b false)) (s_pure (p_mv rfl)) (wo_nil (nx_norm ?_))))
          refine w_ret ?_
          refine bk_ret ?_
          refine nx_ret ?_
          cases z18
          exact ⟨_, _, rfl, ne_norm_ret, rfl, rfl, gl rfl⟩
        · refine w_condF g25 ?_
          refine w_skip ?_
          refine bk_norm ?_
          refine nx_norm (w_ops (wo_step (s_pure (p_mv g5)) ?_))
          obtain ⟨x11, e11, z19⟩ := forceI_inv z18
          refine wo_step (s_pure (p_bin rfl rfl (b_add.trans (ci e11)))) (wo_step (v := (.i .i64 x11)) (s_pure (p_mv rfl)) (wo_nil ?_))
          cases z19
          exact ⟨_, _, rfl, rfl, rfl, gl rfl, gl g0, gl g1⟩
    · refine w_condF rfl ?_
      refine w_exit ?_
      refine nx_exit ?_
      cases z5
      exact ⟨_, _, rfl, ne_norm_exit, rfl, rfl⟩
  · rcases o_1 with o_1 | o_1
    · rintro _ mm_1 t_3 ⟨rfl, rfl⟩
      refine bk_hit ?_
      refine nx_norm (w_seq (w_ops (wo_step (v := (.b true)) (s_pure (p_mv rfl)) (wo_nil (nx_norm ?_)))))
      refine w_ret ?_
      exact qf ret_ok (rt rfl rn) z1
    · obtain ⟨c4, ho⟩ : ∃ z, z = o_1 := ⟨_, rfl⟩
      subst ho
      rintro _ mm_2 t_4 ⟨rfl, rfl, g4⟩
      refine bk_ret ?_
      refine nx_ret ?_
      exact qf ret_ok (rt g4 rn) z1
/- (dibber/vine.many).plus -/

def g86 (M : Means) (ro : List ABlk) (x0 : Int) (x1 : Int) (m0 : Mm) : Option (AVal × Heap × Nat × Nat) :=
  forceI (wr .u64 (9223372036854775808 - x1)) fun x7 =>
  forceB (ltI x7 x0) fun c8 =>
  cond c8 (
    finM m0.h.length (tupA [(.i .u64 9223372036854775808)]) m0) (
    forceI (wr .u64 (x0 + x1)) fun x11 =>
    finM m0.h.length (tupA [(.i .u64 x11)]) m0)
theorem g86_ok {ro : List ABlk} {O : Caller} {M : Means} (hM : M.Ok ⟨F, O⟩ ro) {x0 x1 h r} (ho : O 86 [(.i .u64 x0), (.i .u64 x1)] h = none) (hr : g86 M ro x0 x1 ⟨h, h.length, h.length⟩ = some r) : callX ⟨F, O⟩ ro 86 [(.i .u64 x0), (.i .u64 x1)] h = some r := by
  refine callX_of (F := ⟨F, O⟩) (fn := fn86) (g := g86 M ro x0 x1) ho rfl rfl hr ?_
  clear ho
  clear hr
  intro m0 t0 ht hr
  have g0 : t0.get 0 = (.i .u64 x0) := ht 0
  have g1 : t0.get 1 = (.i .u64 x1) := ht 1
  clear ht
  unfold g86 at hr
  refine w_seq (w_ops (wo_step (v := (.i .u64 0)) (s_pure (p_mv rfl)) (wo_nil (nx_norm (w_seq (w_seq (w_ops (wo_step (s_pure (p_mv g0)) (wo_step (s_pure (p_mv g1)) ?_)))))))))
  obtain ⟨x7, e7, z1⟩ := forceI_inv hr
  refine wo_step (s_pure (p_bin rfl rfl (b_sub.trans (ci e7)))) ?_
  obtain ⟨c8, e8, z2⟩ := forceB_inv z1
  refine wo_step (s_pure (p_bin rfl rfl (b_gtr.trans (cb e8)))) (wo_nil (nx_norm ?_))
  rcases cond_inv z2 with ⟨rfl, z3⟩ | ⟨rfl, z3⟩
  · refine w_condT rfl ?_
    refine w_seq (w_ops (wo_step (v := (.i .u64 9223372036854775808)) (s_pure (p_mv rfl)) (wo_nil (nx_norm ?_))))
    refine w_ret ?_
    refine nx_ret ?_
    exact qf ret_ok (rt rfl rn) z3
  · refine w_condF rfl ?_
    refine w_skip (nx_norm (w_seq (w_ops (wo_step (s_pure (p_mv g0)) (wo_step (s_pure (p_mv g1)) ?_)))))
    obtain ⟨x11, e11, z4⟩ := forceI_inv z3
    refine wo_step (s_pure (p_bin rfl rfl (b_add.trans (ci e11)))) (wo_step (v := (.i .u64 x11)) (s_pure (p_mv rfl)) (wo_nil (nx_norm ?_)))
    refine w_ret ?_
    exact qf ret_ok (rt rfl rn) z4
/- strings.Count -/
abbrev g88_I0 (s1 : List UInt8) (s : List UInt8 × Int × Mm) (m1 : Mm) (t1 : Tr) : Prop :=
  match s with
  | (s0_1, x5, m_3) => m_3 = m1 ∧ t1.get 0 = (.s s0_1) ∧ t1.get 5 = (.i .i64 x5) ∧ t1.get 1 = (.s s1)
abbrev g88_J0 (s1 : List UInt8) (o : (Int × Mm)) (e : AExit) (m1 : Mm) (t1 : Tr) : Prop :=
  match o with
  | (y4, mo) => e = .ret ∧ mo = m1 ∧ t1.get 4 = (.i .i64 y4)
def g88_b0 (M : Means) (ro : List ABlk) (s1 : List UInt8) (s0_1 : List UInt8) (x5 : Int) (m_3 : Mm) : Option ((List UInt8 × Int × Mm) ⊕ ((Int × Mm))) :=
  bindP (callM M.call m_3 101 [(.s s0_1), (.s s1)]) fun v22 m_4 =>
  asI .i64 v22 fun x22 =>
  forceB (eqI x22 (-1)) fun c24 =>
  cond c24 (
    some (.inr (x5, m_4))) (
    forceI (wr .i64 (x5 + 1)) fun x27 =>
    bindO (evP .e (.len true (.c (.s s1)))) fun v31 =>
    asI .i64 v31 fun x31 =>
    forceI (wr .i64 (x22 + x31)) fun x32 =>
    bindO (evP .e (.slStr (.c (.s s0_1)) (some (.c (.i .i64 x32))) none)) fun v33 =>
    asS v33 fun s33 =>
    some (.inl (s33, x27, m_4)))
def g88 (M : Means) (ro : List ABlk) (s0 : List UInt8) (s1 : List UInt8) (m0 : Mm) : Option (AVal × Heap × Nat × Nat) :=
  bindO (evP .e (.len true (.c (.s s1)))) fun v8 =>
  asI .i64 v8 fun x8 =>
  forceB (eqI x8 0) fun c9 =>
  cond c9 (
    bindP (callM M.call m0 99 [(.s s0)]) fun v11 m_1 =>
    asI .i64 v11 fun x11 =>
    forceI (wr .i64 (x11 + 1)) fun x12 =>
    finM m0.h.length (tupA [(.i .i64 x12)]) m_1) (
    bindO (evP .e (.len true (.c (.s s1)))) fun v14 =>
    asI .i64 v14 fun x14 =>
    forceB (eqI x14 1) fun c15 =>
    cond c15 (
      bindO (evP .e (.ixStr (.c (.s s1)) (.c (.i .i64 0)))) fun v18 =>
      asI .u8 v18 fun x18 =>
      bindP (stepM ro m0 (.cnt (.c (.s s0)) (.c (.i .u8 x18)))) fun v19 m_2 =>
      asI .i64 v19 fun x19 =>
      finM m0.h.length (tupA [(.i .i64 x19)]) m_2) (
      bindO (M.loop (S := List UInt8 × Int × Mm) (R := (Int × Mm)) (fun s => g88_b0 M ro s1 s.1 s.2.1 s.2.2) (s0, 0, m0)) fun ⟨x4, m_5⟩ =>
      finM m0.h.length (tupA [(.i .i64 x4)]) m_5))
theorem g88_ok {ro : List ABlk} {O : Caller} {M : Means} (hM : M.Ok ⟨F, O⟩ ro) {s0 s1 h r} (ho : O 88 [(.s s0), (.s s1)] h = none) (hr : g88 M ro s0 s1 ⟨h, h.length, h.length⟩ = some r) : callX ⟨F, O⟩ ro 88 [(.s s0), (.s s1)] h = some r := by
  refine callX_of (F := ⟨F, O⟩) (fn := fn88) (g := g88 M ro s0 s1) ho rfl rfl hr ?_
  clear ho
  clear hr
  intro m0 t0 ht hr
  have g0 : t0.get 0 = (.s s0) := ht 0
  have g1 : t0.get 1 = (.s s1) := ht 1
  clear ht
  unfold g88 at hr
  refine w_seq (w_ops (wo_step (v := (.i .i64 0)) (s_pure (p_mv rfl)) (wo_nil (nx_norm (w_seq (w_seq (w_ops (wo_step (s_pure (p_mv g1)) ?_))))))))
  obtain ⟨v8, e8, z1⟩ := bindO_inv hr
  obtain ⟨x8, rfl, z2⟩ := asI_inv z1
  refine wo_step (s_pure (o_len rfl e8)) ?_
  obtain ⟨c9, e9, z3⟩ := forceB_inv z2
  refine wo_step (s_pure (p_bin rfl rfl (b_eql.trans (cb e9)))) (wo_nil (nx_norm ?_))
  rcases cond_inv z3 with ⟨rfl, z4⟩ | ⟨rfl, z4⟩
  · refine w_condT rfl ?_
    refine w_seq (w_ops (wo_step (s_pure (p_mv g0)) ?_))
    obtain ⟨v11, m_1, e11, z5⟩ := bindP_inv z4
    obtain ⟨x11, rfl, z6⟩ := asI_inv z5
    refine wo_step (s_call (mc rfl mn) (callM_le hM.call e11)) ?_
    obtain ⟨x12, e12, z7⟩ := forceI_inv z6
    refine wo_step (s_pure (p_bin rfl rfl (b_add.trans (ci e12)))) (wo_step (v := (.i .i64 x12)) (s_pure (p_mv rfl)) (wo_nil (nx_norm ?_)))
    refine w_ret ?_
    refine nx_ret ?_
    exact qf ret_ok (rt rfl rn) z7
  · refine w_condF rfl ?_
    refine w_skip (nx_norm (w_seq (w_seq (w_ops (wo_step (s_pure (p_mv g1)) ?_)))))
    obtain ⟨v14, e14, z8⟩ := bindO_inv z4
    obtain ⟨x14, rfl, z9⟩ := asI_inv z8
    refine wo_step (s_pure (o_len rfl e14)) ?_
    obtain ⟨c15, e15, z10⟩ := forceB_inv z9
    refine wo_step (s_pure (p_bin rfl rfl (b_eql.trans (cb e15)))) (wo_nil (nx_norm ?_))
    rcases cond_inv z10 with ⟨rfl, z11⟩ | ⟨rfl, z11⟩
    · refine w_condT rfl ?_
      refine w_seq (w_ops (wo_step (s_pure (p_mv g0)) (wo_step (s_pure (p_mv g1)) ?_)))
      obtain ⟨v18, e18, z12⟩ := bindO_inv z11
      obtain ⟨x18, rfl, z13⟩ := asI_inv z12
      refine wo_step (s_pure (o_ixStr rfl rfl e18)) ?_
      obtain ⟨v19, m_2, e19, z14⟩ := bindP_inv z13
      obtain ⟨x19, rfl, z15⟩ := asI_inv z14
      refine wo_step (s_cnt rfl rfl e19) (wo_step (v := (.i .i64 x19)) (s_pure (p_mv rfl)) (wo_nil (nx_norm ?_)))
      refine w_ret ?_
      refine nx_ret ?_
      exact qf ret_ok (rt rfl rn) z15
    · refine w_condF rfl ?_
      refine w_skip (nx_norm (w_seq (w_ops (wo_step (v := (.i .i64 0)) (s_pure (p_mv rfl)) (wo_nil (nx_norm ?_))))))
      refine w_block ?_
      obtain ⟨o, hl, z16⟩ := bindO_inv z11
      obtain ⟨n, hl⟩ := hM.loop _ _ _ hl
      refine jp_mono (w_loop _ (g88_I0 s1) (g88_J0 s1) ?_ n _ _ _ _ hl ⟨rfl, gl g0, gl rfl, gl g1⟩) ?_
      · clear z16 hl
        intro s mm_1 t_1 o hi hr
        obtain ⟨s0_1, x5, m_3⟩ := s
        obtain ⟨rfl, g0, g5, g1⟩ := hi
        unfold g88_b0 at hr
        refine w_block ?_
        refine w_seq (w_ops (wo_step (s_pure (p_mv g0)) (wo_step (s_pure (p_mv g1)) ?_)))
        obtain ⟨v22, m_4, e22, z17⟩ := bindP_inv hr
        obtain ⟨x22, rfl, z18⟩ := asI_inv z17
        refine wo_step (s_call (mc rfl (mc rfl mn)) (callM_le hM.call e22)) (wo_step (v := (.i .i64 x22)) (s_pure (p_mv rfl)) (wo_nil (nx_norm (w_seq (w_seq (w_ops (wo_step (v := (.i .i64 x22)) (s_pure (p_mv rfl)) ?_)))))))
        obtain ⟨c24, e24, z19⟩ := forceB_inv z18
        refine wo_step (s_pure (p_bin rfl rfl (b_eql.trans (cb e24)))) (wo_nil (nx_norm ?_))
        rcases cond_inv z19 with ⟨rfl, z20⟩ | ⟨rfl, z20⟩
        · refine w_condT rfl ?_
          refine w_seq (w_ops (wo_step (s_pure (p_mv g5)) (wo_step (v := (.i .i64 x5)) (s_pure (p_mv rfl)) (wo_nil (nx_norm ?_)))))
          refine w_ret ?_
          refine nx_ret ?_
          refine bk_ret ?_
          cases z20
          exact ⟨_, _, rfl, ne_norm_ret, rfl, rfl, gl rfl⟩
        · refine w_condF rfl ?_
          refine w_skip (nx_norm (w_seq (w_ops (wo_step (s_pure (p_mv g5)) ?_))))
          obtain ⟨x27, e27, z21⟩ := forceI_inv z20
          refine wo_step (s_pure (p_bin rfl rfl (b_add.trans (ci e27)))) (wo_step (v := (.i .i64 x27)) (s_pure (p_mv rfl)) (wo_nil (nx_norm (w_ops (wo_step (s_pure (p_mv g0)) (wo_step (v := (.i .i64 x22)) (s_pure (p_mv rfl)) (wo_step (s_pure (p_mv g1)) ?_)))))))
          obtain ⟨v31, e31, z22⟩ := bindO_inv z21
          obtain ⟨x31, rfl, z23⟩ := asI_inv z22
          refine wo_step (s_pure (o_len rfl e31)) ?_
          obtain ⟨x32, e32, z24⟩ := forceI_inv z23
          refine wo_step (s_pure (p_bin rfl rfl (b_add.trans (ci e32)))) ?_
          obtain ⟨v33, e33, z25⟩ := bindO_inv z24
          obtain ⟨s33, rfl, z26⟩ := asS_inv z25
          refine wo_step (s_pure (o_slStr rfl (os rfl) on e33)) (wo_step (v := (.s s33)) (s_pure (p_mv rfl)) (wo_nil ?_))
          refine bk_norm ?_
          cases z26
          exact ⟨_, _, rfl, rfl, rfl, gl rfl, gl rfl, gl g1⟩
      · obtain ⟨x4, m_5⟩ := o
        rintro _ mm t_2 ⟨rfl, rfl, g4⟩
        refine bk_ret ?_
        exact qf ret_ok (rt g4 rn) z16
/- dibber/vine.letter -/

def g89 (M : Means) (ro : List ABlk) (x0 : Int) (m0 : Mm) : Option (AVal × Heap × Nat × Nat) :=
  forceI (wr .u8 x0) fun x4 =>
  forceI (wr .u8 (97 + x4)) fun x5 =>
  bindP (stepM ro m0 (.bsl 5 1 [(AVal.i IntKind.u8 0)] 1 [((0, 1), .c (.i .u8 x5))])) fun v6 m_1 =>
  bindO (btsM ro m_1 v6) fun v7 =>
  asS v7 fun s7 =>
  finM m0.h.length (tupA [(.s s7)]) m_1
theorem g89_ok {ro : List ABlk} {O : Caller} {M : Means} (hM : M.Ok ⟨F, O⟩ ro) {x0 h r} (ho : O 89 [(.i .i64 x0)] h = none) (hr : g89 M ro x0 ⟨h, h.length, h.length⟩ = some r) : callX ⟨F, O⟩ ro 89 [(.i .i64 x0)] h = some r := by
  refine callX_of (F := ⟨F, O⟩) (fn := fn89) (g := g89 M ro x0) ho rfl rfl hr ?_
  clear ho
  clear hr
  intro m0 t0 ht hr
  have g0 : t0.get 0 = (.i .i64 x0) := ht 0
  clear ht
  unfold g89 at hr
  refine w_seq (w_ops (wo_step (v := (AVal.s [])) (s_pure (p_mv rfl)) (wo_nil (nx_norm (w_seq (w_ops (wo_step (s_pure (p_mv g0)) ?_)))))))
  obtain ⟨x4, e4, z1⟩ := forceI_inv hr
  refine wo_step (s_pure ((p_conv rfl).trans (ci e4))) ?_
  obtain ⟨x5, e5, z2⟩ := forceI_inv z1
  refine wo_step (s_pure (p_bin rfl rfl (b_add.trans (ci e5)))) ?_
  obtain ⟨v6, m_1, e6, z3⟩ := bindP_inv z2
  refine wo_step (s_bsl (qc rfl qn) e6) ?_
  obtain ⟨v7, e7, z4⟩ := bindO_inv z3
  obtain ⟨s7, rfl, z5⟩ := asS_inv z4
  refine wo_step (s_bts rfl e7) (wo_step (v := (.s s7)) (s_pure (p_mv rfl)) (wo_nil (nx_norm ?_)))
  refine w_ret ?_
  exact qf ret_ok (rt rfl rn) z5
/- (dibber/vine.rules).has -/
abbrev g92_I0 (v0 : AVal) (s1 : List UInt8) (x8 : Int) (s : Int × Mm) (m1 : Mm) (t1 : Tr) : Prop :=
  match s with
  | (x9, m_1) => m_1 = m1 ∧ t1.get 9 = (.i .i64 x9) ∧ t1.get 0 = v0 ∧ t1.get 1 = (.s s1) ∧ t1.get 8 = (.i .i64 x8)
abbrev g92_J0 (v0 : AVal) (s1 : List UInt8) (x8 : Int) (o : (Mm ⊕ (Bool × Mm))) (e : AExit) (m1 : Mm) (t1 : Tr) : Prop :=
  match o with
  | (.inl mo) => e = (.exit 0) ∧ mo = m1
  | (.inr (y4, mo)) => e = .ret ∧ mo = m1 ∧ t1.get 4 = (.b y4)
abbrev g92_J1 (v0 : AVal) (s1 : List UInt8) (x8 : Int) (x9 : Int) (m_2 : Mm) (o : Bool) (m1 : Mm) (t1 : Tr) : Prop :=
  match o with
  | c23 => m_2 = m1 ∧ t1.get 23 = (.b c23) ∧ t1.get 0 = v0 ∧ t1.get 1 = (.s s1) ∧ t1.get 8 = (.i .i64 x8) ∧ t1.get 9 = (.i .i64 x9)
def g92_b0 (M : Means) (ro : List ABlk) (v0 : AVal) (s1 : List UInt8) (x8 : Int) (x9 : Int) (m_1 : Mm) : Option ((Int × Mm) ⊕ ((Mm ⊕ (Bool × Mm)))) :=
  forceB (ltI x9 x8) fun c10 =>
  cond c10 (
    bindO (evP .e (.ixStr (.c (.s s1)) (.c (.i .i64 x9)))) fun v14 =>
    asI .u8 v14 fun x14 =>
    bindP (callM M.call m_1 54 [(.i .u8 x14)]) fun v15 m_2 =>
    asI .i64 v15 fun x15 =>
    forceB (ltI x15 0) fun c17 =>
    bindO (cond c17 (
      some true) (
      bindO (evP .e (.len false (.c v0))) fun v21 =>
      asI .i64 v21 fun x21 =>
      forceB (!ltI x15 x21) fun c22 =>
      some c22)) fun c23 =>
    cond c23 (
      some (.inr (.inr (false, m_2)))) (
      forceI (wr .i64 (x9 + 1)) fun x24 =>
      some (.inl (x24, m_2)))) (
    some (.inr (.inl m_1)))
def g92 (M : Means) (ro : List ABlk) (v0 : AVal) (s1 : List UInt8) (m0 : Mm) : Option (AVal × Heap × Nat × Nat) :=
  bindO (evP .e (.len true (.c (.s s1)))) fun v8 =>
  asI .i64 v8 fun x8 =>
  bindO (M.loop (S := Int × Mm) (R := (Mm ⊕ (Bool × Mm))) (fun s => g92_b0 M ro v0 s1 x8 s.1 s.2) (0, m0)) fun o_1 => match o_1 with
  | (.inl m_3) =>
    finM m0.h.length (tupA [(.b true)]) m_3
  | (.inr (c4, m_4)) =>
    finM m0.h.length (tupA [(.b c4)]) m_4
theorem g92_ok {ro : List ABlk} {O : Caller} {M : Means} (hM : M.Ok ⟨F, O⟩ ro) {v0 s1 h r} (ho : O 92 [v0, (.s s1)] h = none) (hr : g92 M ro v0 s1 ⟨h, h.length, h.length⟩ = some r) : callX ⟨F, O⟩ ro 92 [v0, (.s s1)] h = some r := by
  refine callX_of (F := ⟨F, O⟩) (fn := fn92) (g := g92 M ro v0 s1) ho rfl rfl hr ?_
  clear ho
  clear hr
  intro m0 t0 ht hr
  have g0 : t0.get 0 = v0 := ht 0
  have g1 : t0.get 1 = (.s s1) := ht 1
  clear ht
  unfold g92 at hr
  refine w_seq (w_ops (wo_step (v := (.b false)) (s_pure (p_mv rfl)) (wo_nil (nx_norm (w_seq (w_seq (w_ops (wo_step (s_pure (p_mv g1)) ?_))))))))
  obtain ⟨v8, e8, z1⟩ := bindO_inv hr
  obtain ⟨x8, rfl, z2⟩ := asI_inv z1
  refine wo_step (s_pure (o_len rfl e8)) (wo_step (v := (.i .i64 0)) (s_pure (p_mv rfl)) (wo_nil (nx_norm ?_)))
  refine w_block ?_
  obtain ⟨o_1, hl, z3⟩ := bindO_inv z2
  obtain ⟨n, hl⟩ := hM.loop _ _ _ hl
  refine jp_mono (w_loop _ (g92_I0 v0 s1 x8) (g92_J0 v0 s1 x8) ?_ n _ _ _ _ hl ⟨rfl, gl rfl, gl g0, gl g1, gl rfl⟩) ?_
  · clear z3 hl
    intro s mm_3 t_1 o hi hr
    obtain ⟨x9, m_1⟩ := s
    obtain ⟨rfl, g9, g0, g1, g8⟩ := hi
    unfold g92_b0 at hr
    refine w_seq (w_ops ?_)
    obtain ⟨c10, e10, z4⟩ := forceB_inv hr
    refine wo_step (s_pure (p_bin g9 g8 (b_lss.trans (cb e10)))) (wo_nil (nx_norm (w_seq ?_)))
    rcases cond_inv z4 with ⟨rfl, z5⟩ | ⟨rfl, z5⟩
    · refine w_condT rfl ?_
      refine w_skip (nx_norm (w_seq ?_))
      refine w_block ?_
      refine w_seq (w_ops (wo_step (s_pure (p_mv g9)) (wo_step (v := (.i .i64 x9)) (s_pure (p_mv rfl)) (wo_nil (nx_norm (w_seq (w_ops (wo_step (s_pure (p_mv g1)) (wo_step (v := (.i .i64 x9)) (s_pure (p_mv rfl)) ?_)))))))))
      obtain ⟨v14, e14, z6⟩ := bindO_inv z5
      obtain ⟨x14, rfl, z7⟩ := asI_inv z6
      refine wo_step (s_pure (o_ixStr rfl rfl e14)) ?_
      obtain ⟨v15, m_2, e15, z8⟩ := bindP_inv z7
      obtain ⟨x15, rfl, z9⟩ := asI_inv z8
      refine wo_step (s_call (mc rfl mn) (callM_le hM.call e15)) (wo_step (v := (.i .i64 x15)) (s_pure (p_mv rfl)) (wo_nil (nx_norm (w_seq (w_ops (wo_step (v := (.i .i64 x15)) (s_pure (p_mv rfl)) ?_))))))
      obtain ⟨c17, e17, z10⟩ := forceB_inv z9
      refine wo_step (s_pure (p_bin rfl rfl (b_lss.trans (cb e17)))) (wo_step (v := (.b c17)) (s_pure (p_mv rfl)) ?_)
      obtain ⟨o, z11, hk⟩ := bindO_inv z10
      refine wo_join 5 (g92_J1 v0 s1 x8 x9 m_2 o) ?_ ?_
      · clear hk
        rcases cond_inv z11 with ⟨rfl, z12⟩ | ⟨rfl, z12⟩
        · refine wo_skip (v := (.b true)) rfl rfl (wo_skip (v := (.b true)) rfl rfl (wo_skip (v := (.b true)) rfl rfl (wo_skip (v := (.b true)) rfl rfl (wo_step (v := (.b true)) (s_pure (p_pickT rfl rfl)) (wo_nil ?_)))))
          cases z12
          exact ⟨_, _, rfl, rfl, gl rfl, gl g0, gl g1, gl g8, gl g9⟩
        · refine wo_take (v := (.i .i64 x15)) rfl (s_pure (p_mv rfl)) (wo_take (v := v0) rfl (s_pure (p_mv g0)) ?_)
          obtain ⟨v21, e21, z13⟩ := bindO_inv z12
          obtain ⟨x21, rfl, z14⟩ := asI_inv z13
          refine wo_take (v := (.i .i64 x21)) rfl (s_pure (o_len rfl e21)) ?_
          obtain ⟨c22, e22, z15⟩ := forceB_inv z14
          refine wo_take (v := (.b c22)) rfl (s_pure (p_bin rfl rfl (b_geq.trans (cb e22)))) (wo_step (v := (.b c22)) (s_pure (p_pickF rfl rfl)) (wo_nil ?_))
          cases z15
          exact ⟨_, _, rfl, rfl, gl rfl, gl g0, gl g1, gl g8, gl g9⟩
      · clear z11
        have hr := hk
        clear hk
        obtain ⟨c23, ho⟩ : ∃ z, z = o := ⟨_, rfl⟩
        subst ho
        rintro mm t_2 ⟨rfl, g23, g0, g1, g8, g9⟩
        refine wo_nil (nx_norm ?_)
        rcases cond_inv hr with ⟨rfl, z16⟩ | ⟨rfl, z16⟩
        · refine w_condT g23 ?_
          refine w_seq (w_ops (wo_step (v := (.b false)) (s_pure (p_mv rfl)) (wo_nil (nx_norm ?_))))
          refine w_ret ?_
          refine bk_ret ?_
          refine nx_ret ?_
          cases z16
          exact ⟨_, _, rfl, ne_norm_ret, rfl, rfl, gl rfl⟩
        · refine w_condF g23 ?_
          refine w_skip ?_
          refine bk_norm ?_
          refine nx_norm (w_ops ?_)
          obtain ⟨x24, e24, z17⟩ := forceI_inv z16
          refine wo_step (s_pure (p_bin g9 rfl (b_add.trans (ci e24)))) (wo_step (v := (.i .i64 x24)) (s_pure (p_mv rfl)) (wo_nil ?_))
          cases z17
          exact ⟨_, _, rfl, rfl, rfl, gl rfl, gl g0, gl g1, gl g8⟩
    · refine w_condF rfl ?_
      refine w_exit ?_
      refine nx_exit ?_
      cases z5
      exact ⟨_, _, rfl, ne_norm_exit, rfl, rfl⟩
  · rcases o_1 with o_1 | o_1
    · obtain ⟨m_3, ho⟩ : ∃ z, z = o_1 := ⟨_, rfl⟩
      subst ho
      rintro _ mm_1 t_3 ⟨rfl, rfl⟩
      refine bk_hit ?_
      refine nx_norm (w_seq (w_ops (wo_step (v := (.b true)) (s_pure (p_mv rfl)) (wo_nil (nx_norm ?_)))))
      refine w_ret ?_
      exact qf ret_ok (rt rfl rn) z3
    · obtain ⟨c4, m_4⟩ := o_1
      rintro _ mm_2 t_4 ⟨rfl, rfl, g4⟩
      refine bk_ret ?_
      refine nx_ret ?_
      exact qf ret_ok (rt g4 rn) z3
/- strings.CutPrefix -/

def g97 (M : Means) (ro : List ABlk) (s0 : List UInt8) (s1 : List UInt8) (m0 : Mm) : Option (AVal × Heap × Nat × Nat) :=
  bindP (callM M.call m0 102 [(.s s0), (.s s1)]) fun v8 m_1 =>
  bindO (evP .e (.ext 0 (.c v8))) fun v9 =>
  asS v9 fun s9 =>
  bindO (evP .e (.ext 1 (.c v8))) fun v10 =>
  asB v10 fun c10 =>
  finM m0.h.length (tupA [(.s s9), (.b c10)]) m_1
theorem g97_ok {ro : List ABlk} {O : Caller} {M : Means} (hM : M.Ok ⟨F, O⟩ ro) {s0 s1 h r} (ho : O 97 [(.s s0), (.s s1)] h = none) (hr : g97 M ro s0 s1 ⟨h, h.length, h.length⟩ = some r) : callX ⟨F, O⟩ ro 97 [(.s s0), (.s s1)] h = some r := by
  refine callX_of (F := ⟨F, O⟩) (fn := fn97) (g := g97 M ro s0 s1) ho rfl rfl hr ?_
  clear ho
  clear hr
  intro m0 t0 ht hr
  have g0 : t0.get 0 = (.s s0) := ht 0
  have g1 : t0.get 1 = (.s s1) := ht 1
  clear ht
  unfold g97 at hr
  refine w_seq (w_ops (wo_step (v := (AVal.s [])) (s_pure (p_mv rfl)) (wo_step (v := (.b false)) (s_pure (p_mv rfl)) (wo_nil (nx_norm (w_seq (w_ops (wo_step (s_pure (p_mv g0)) (wo_step (s_pure (p_mv g1)) ?_)))))))))
  obtain ⟨v8, m_1, e8, z1⟩ := bindP_inv hr
  refine wo_step (s_call (mc rfl (mc rfl mn)) (callM_le hM.call e8)) ?_
  obtain ⟨v9, e9, z2⟩ := bindO_inv z1
  obtain ⟨s9, rfl, z3⟩ := asS_inv z2
  refine wo_step (s_pure (o_ext rfl e9)) ?_
  obtain ⟨v10, e10, z4⟩ := bindO_inv z3
  obtain ⟨c10, rfl, z5⟩ := asB_inv z4
  refine wo_step (s_pure (o_ext rfl e10)) (wo_step (v := (.s s9)) (s_pure (p_mv rfl)) (wo_step (v := (.b c10)) (s_pure (p_mv rfl)) (wo_nil (nx_norm ?_))))
  refine w_ret ?_
  exact qf ret_ok (rt rfl (rt rfl rn)) z5
end Go.Proofs.Ytfohppnelbbepaa.T

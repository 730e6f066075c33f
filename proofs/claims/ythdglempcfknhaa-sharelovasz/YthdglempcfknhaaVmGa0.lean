/- Plain functions, and that the small machine answers as they do. -/
import Derived.Test.YthdglempcfknhaaVmP
import Derived.Test.YthdglempcfknhaaVmAE
open Go.Vm
set_option linter.unusedVariables false
namespace Go.Proofs.Ythdglempcfknhaa.T
open Go
/- dibber/dibberlaw08.ShareLovasz -/
abbrev g12_J0 (x0 : Int) (v1 : AVal) (v2 : AVal) (v3 : AVal) (v4 : AVal) (x5 : Int) (x44 : Int) (x45 : Int) (v51 : AVal) (x52 : Int) (x53 : Int) (o : Bool × Mm) (m1 : Mm) (t1 : Tr) : Prop :=
  match o with
  | (c63, m_7) => m_7 = m1 ∧ t1.get 63 = (.b c63) ∧ t1.get 0 = (.i .i64 x0) ∧ t1.get 1 = v1 ∧ t1.get 2 = v2 ∧ t1.get 3 = v3 ∧ t1.get 4 = v4 ∧ t1.get 5 = (.i .u8 x5) ∧ t1.get 13 = (.i .i64 x44) ∧ t1.get 14 = (.i .i64 x45) ∧ t1.get 15 = v51 ∧ t1.get 16 = (.i .i64 x52) ∧ t1.get 17 = (.i .i64 x53)
abbrev g12_J1 (m_7 : Mm) (o : Bool) (m1 : Mm) (t1 : Tr) : Prop :=
  match o with
  | c72 => m_7 = m1 ∧ t1.get 72 = (.b c72)
abbrev g12_J2  (o : Bool × Mm) (m1 : Mm) (t1 : Tr) : Prop :=
  match o with
  | (c75, m_9) => m_9 = m1 ∧ t1.get 75 = (.b c75)
abbrev g12_J3 (x0 : Int) (v1 : AVal) (v2 : AVal) (v3 : AVal) (v4 : AVal) (x5 : Int) (x44 : Int) (v51 : AVal) (x52 : Int) (c82 : Bool) (x83 : Int) (m_11 : Mm) (o : Bool) (m1 : Mm) (t1 : Tr) : Prop :=
  match o with
  | c89 => m_11 = m1 ∧ t1.get 89 = (.b c89) ∧ t1.get 0 = (.i .i64 x0) ∧ t1.get 1 = v1 ∧ t1.get 2 = v2 ∧ t1.get 3 = v3 ∧ t1.get 4 = v4 ∧ t1.get 5 = (.i .u8 x5) ∧ t1.get 13 = (.i .i64 x44) ∧ t1.get 15 = v51 ∧ t1.get 16 = (.i .i64 x52) ∧ t1.get 19 = (.b c82) ∧ t1.get 20 = (.i .i64 x83)
abbrev g12_J4 (x0 : Int) (v1 : AVal) (v2 : AVal) (v3 : AVal) (v4 : AVal) (x5 : Int) (x44 : Int) (v51 : AVal) (x52 : Int) (c82 : Bool) (m_11 : Mm) (o : Bool) (m1 : Mm) (t1 : Tr) : Prop :=
  match o with
  | c93 => m_11 = m1 ∧ t1.get 93 = (.b c93) ∧ t1.get 0 = (.i .i64 x0) ∧ t1.get 1 = v1 ∧ t1.get 2 = v2 ∧ t1.get 3 = v3 ∧ t1.get 4 = v4 ∧ t1.get 5 = (.i .u8 x5) ∧ t1.get 13 = (.i .i64 x44) ∧ t1.get 15 = v51 ∧ t1.get 16 = (.i .i64 x52) ∧ t1.get 19 = (.b c82)
abbrev g12_J5 (x0 : Int) (v1 : AVal) (v2 : AVal) (v3 : AVal) (v4 : AVal) (x5 : Int) (x44 : Int) (v51 : AVal) (x52 : Int) (c82 : Bool) (m_11 : Mm) (o : Bool) (m1 : Mm) (t1 : Tr) : Prop :=
  match o with
  | c98 => m_11 = m1 ∧ t1.get 98 = (.b c98) ∧ t1.get 0 = (.i .i64 x0) ∧ t1.get 1 = v1 ∧ t1.get 2 = v2 ∧ t1.get 3 = v3 ∧ t1.get 4 = v4 ∧ t1.get 5 = (.i .u8 x5) ∧ t1.get 13 = (.i .i64 x44) ∧ t1.get 15 = v51 ∧ t1.get 16 = (.i .i64 x52) ∧ t1.get 19 = (.b c82)
abbrev g12_J6 (x0 : Int) (v1 : AVal) (v2 : AVal) (v3 : AVal) (v4 : AVal) (x5 : Int) (x44 : Int) (v51 : AVal) (x52 : Int) (m_11 : Mm) (o : Bool) (m1 : Mm) (t1 : Tr) : Prop :=
  match o with
  | c102 => m_11 = m1 ∧ t1.get 102 = (.b c102) ∧ t1.get 0 = (.i .i64 x0) ∧ t1.get 1 = v1 ∧ t1.get 2 = v2 ∧ t1.get 3 = v3 ∧ t1.get 4 = v4 ∧ t1.get 5 = (.i .u8 x5) ∧ t1.get 13 = (.i .i64 x44) ∧ t1.get 15 = v51 ∧ t1.get 16 = (.i .i64 x52)
abbrev g12_I7 (x0 : Int) (v1 : AVal) (v2 : AVal) (v3 : AVal) (v4 : AVal) (x44 : Int) (v51 : AVal) (x52 : Int) (x107 : Int) (s : AVal × Int × Mm) (m1 : Mm) (t1 : Tr) : Prop :=
  match s with
  | (v22, x24, m_12) => m_12 = m1 ∧ t1.get 22 = v22 ∧ t1.get 24 = (.i .i64 x24) ∧ t1.get 0 = (.i .i64 x0) ∧ t1.get 1 = v1 ∧ t1.get 2 = v2 ∧ t1.get 3 = v3 ∧ t1.get 4 = v4 ∧ t1.get 13 = (.i .i64 x44) ∧ t1.get 15 = v51 ∧ t1.get 16 = (.i .i64 x52) ∧ t1.get 21 = (.i .i64 x107) ∧ t1.get 23 = AVal.nsl
abbrev g12_J7 (x0 : Int) (v1 : AVal) (v2 : AVal) (v3 : AVal) (v4 : AVal) (x44 : Int) (v51 : AVal) (x52 : Int) (x107 : Int) (o : (AVal × Mm)) (e : AExit) (m1 : Mm) (t1 : Tr) : Prop :=
  match o with
  | (y22, mo) => e = (.exit 0) ∧ mo = m1 ∧ t1.get 22 = y22 ∧ t1.get 0 = (.i .i64 x0) ∧ t1.get 1 = v1 ∧ t1.get 2 = v2 ∧ t1.get 3 = v3 ∧ t1.get 4 = v4 ∧ t1.get 13 = (.i .i64 x44) ∧ t1.get 15 = v51 ∧ t1.get 16 = (.i .i64 x52) ∧ t1.get 21 = (.i .i64 x107) ∧ t1.get 23 = AVal.nsl
def g12_b7 (M : Means) (ro : List ABlk) (x0 : Int) (v1 : AVal) (v2 : AVal) (v3 : AVal) (v4 : AVal) (x44 : Int) (v51 : AVal) (x52 : Int) (x107 : Int) (v22 : AVal) (x24 : Int) (m_12 : Mm) : Option ((AVal × Int × Mm) ⊕ ((AVal × Mm))) :=
  forceB (ltI x24 x0) fun c110 =>
  cond c110 (
    chk (!ltI x24 (.ofNat 0)) <|
    forceI (shrV .i64 x107 x24) fun x116 =>
    forceI (Int.tmod x116 2) fun x117 =>
    bindP (stepM ro m_12 (.bsl 3 1 [(AVal.i IntKind.i64 0)] 1 [((0, 1), .c (.i .i64 x117))])) fun v118 m_13 =>
    bindP (stepM ro m_13 (.app 3 1 8 [(AVal.i IntKind.i64 0)] (.c v22) (.c v118))) fun v119 m_14 =>
    forceI (wr .i64 (x24 + 1)) fun x112 =>
    some (.inl (v119, x112, m_14))) (
    some (.inr (v22, m_12)))
abbrev g12_J8 (x0 : Int) (v1 : AVal) (v2 : AVal) (v3 : AVal) (v4 : AVal) (x44 : Int) (v51 : AVal) (x52 : Int) (m_16 : Mm) (o : Bool) (m1 : Mm) (t1 : Tr) : Prop :=
  match o with
  | c136 => m_16 = m1 ∧ t1.get 136 = (.b c136) ∧ t1.get 0 = (.i .i64 x0) ∧ t1.get 1 = v1 ∧ t1.get 2 = v2 ∧ t1.get 3 = v3 ∧ t1.get 4 = v4 ∧ t1.get 13 = (.i .i64 x44) ∧ t1.get 15 = v51 ∧ t1.get 16 = (.i .i64 x52) ∧ t1.get 23 = AVal.nsl
abbrev g12_J9 (x0 : Int) (v1 : AVal) (v2 : AVal) (v3 : AVal) (v4 : AVal) (x44 : Int) (v51 : AVal) (x52 : Int) (m_17 : Mm) (o : Bool) (m1 : Mm) (t1 : Tr) : Prop :=
  match o with
  | c149 => m_17 = m1 ∧ t1.get 149 = (.b c149) ∧ t1.get 0 = (.i .i64 x0) ∧ t1.get 1 = v1 ∧ t1.get 2 = v2 ∧ t1.get 3 = v3 ∧ t1.get 4 = v4 ∧ t1.get 13 = (.i .i64 x44) ∧ t1.get 15 = v51 ∧ t1.get 16 = (.i .i64 x52) ∧ t1.get 23 = AVal.nsl
abbrev g12_J10 (x0 : Int) (v1 : AVal) (v2 : AVal) (v3 : AVal) (x44 : Int) (o : (Mm ⊕ (Bool × Mm))) (e : AExit) (m1 : Mm) (t1 : Tr) : Prop :=
  match o with
  | (.inl mo) => e = .norm ∧ mo = m1 ∧ t1.get 0 = (.i .i64 x0) ∧ t1.get 1 = v1 ∧ t1.get 2 = v2 ∧ t1.get 3 = v3 ∧ t1.get 13 = (.i .i64 x44) ∧ t1.get 23 = AVal.nsl
  | (.inr (y12, mo)) => e = .ret ∧ mo = m1 ∧ t1.get 12 = (.b y12)
abbrev g12_I11 (x0 : Int) (v1 : AVal) (v2 : AVal) (v3 : AVal) (v4 : AVal) (x44 : Int) (v51 : AVal) (x52 : Int) (m_17 : Mm) (s : Int × Int) (m1 : Mm) (t1 : Tr) : Prop :=
  match s with
  | (x26, x27) => m_17 = m1 ∧ t1.get 26 = (.i .i64 x26) ∧ t1.get 27 = (.i .i64 x27) ∧ t1.get 0 = (.i .i64 x0) ∧ t1.get 1 = v1 ∧ t1.get 2 = v2 ∧ t1.get 3 = v3 ∧ t1.get 4 = v4 ∧ t1.get 13 = (.i .i64 x44) ∧ t1.get 15 = v51 ∧ t1.get 16 = (.i .i64 x52) ∧ t1.get 23 = AVal.nsl
abbrev g12_J11 (x0 : Int) (v1 : AVal) (v2 : AVal) (v3 : AVal) (v4 : AVal) (x44 : Int) (v51 : AVal) (x52 : Int) (m_17 : Mm) (o : Int) (e : AExit) (m1 : Mm) (t1 : Tr) : Prop :=
  match o with
  | y26 => e = (.exit 2) ∧ m_17 = m1 ∧ t1.get 26 = (.i .i64 y26) ∧ t1.get 0 = (.i .i64 x0) ∧ t1.get 1 = v1 ∧ t1.get 2 = v2 ∧ t1.get 3 = v3 ∧ t1.get 4 = v4 ∧ t1.get 13 = (.i .i64 x44) ∧ t1.get 15 = v51 ∧ t1.get 16 = (.i .i64 x52) ∧ t1.get 23 = AVal.nsl
abbrev g12_J12 (x0 : Int) (v1 : AVal) (v2 : AVal) (v3 : AVal) (v4 : AVal) (x44 : Int) (v51 : AVal) (x52 : Int) (x26 : Int) (x27 : Int) (m_17 : Mm) (o : Bool) (m1 : Mm) (t1 : Tr) : Prop :=
  match o with
  | c158 => m_17 = m1 ∧ t1.get 158 = (.b c158) ∧ t1.get 0 = (.i .i64 x0) ∧ t1.get 1 = v1 ∧ t1.get 2 = v2 ∧ t1.get 3 = v3 ∧ t1.get 4 = v4 ∧ t1.get 13 = (.i .i64 x44) ∧ t1.get 15 = v51 ∧ t1.get 16 = (.i .i64 x52) ∧ t1.get 23 = AVal.nsl ∧ t1.get 26 = (.i .i64 x26) ∧ t1.get 27 = (.i .i64 x27)
def g12_b11 (M : Means) (ro : List ABlk) (x0 : Int) (v1 : AVal) (v2 : AVal) (v3 : AVal) (v4 : AVal) (x44 : Int) (v51 : AVal) (x52 : Int) (m_17 : Mm) (x26 : Int) (x27 : Int) : Option ((Int × Int) ⊕ (Int)) :=
  forceB (ltI x27 x0) fun c152 =>
  bindO (cond c152 (
    bindO (evP .e (.len false (.c v4))) fun v156 =>
    asI .i64 v156 fun x156 =>
    forceB (ltI x27 x156) fun c157 =>
    some c157) (
    some false)) fun c158 =>
  cond c158 (
    bindO (evP .e (.ixS 1 (.c v2) (.c (.i .i64 x27)))) fun v164 =>
    bindO (ldA ro m_17.h true 1 v164) fun v165 =>
    asI .i64 v165 fun x165 =>
    bindO (evP .e (.ixS 1 (.c v4) (.c (.i .i64 x27)))) fun v168 =>
    bindO (ldA ro m_17.h true 1 v168) fun v169 =>
    asI .i64 v169 fun x169 =>
    forceI (wr .i64 (x165 * x169)) fun x170 =>
    forceI (wr .i64 (x26 + x170)) fun x171 =>
    forceI (wr .i64 (x27 + 1)) fun x160 =>
    some (.inl (x171, x160))) (
    some (.inr x26))
abbrev g12_J13 (x0 : Int) (v1 : AVal) (v2 : AVal) (v3 : AVal) (x44 : Int) (o : Bool × Mm) (m1 : Mm) (t1 : Tr) : Prop :=
  match o with
  | (c184, m_18) => m_18 = m1 ∧ t1.get 184 = (.b c184) ∧ t1.get 0 = (.i .i64 x0) ∧ t1.get 1 = v1 ∧ t1.get 2 = v2 ∧ t1.get 3 = v3 ∧ t1.get 13 = (.i .i64 x44) ∧ t1.get 23 = AVal.nsl
abbrev g12_J14 (x0 : Int) (v1 : AVal) (v2 : AVal) (v3 : AVal) (x44 : Int) (o : Bool × Mm) (m1 : Mm) (t1 : Tr) : Prop :=
  match o with
  | (c184_1, m_19) => m_19 = m1 ∧ t1.get 184 = (.b c184_1) ∧ t1.get 0 = (.i .i64 x0) ∧ t1.get 1 = v1 ∧ t1.get 2 = v2 ∧ t1.get 3 = v3 ∧ t1.get 13 = (.i .i64 x44) ∧ t1.get 23 = AVal.nsl
abbrev g12_J15 (x0 : Int) (v1 : AVal) (v2 : AVal) (v3 : AVal) (x44 : Int) (x191 : Int) (x190 : Int) (o : Bool × Mm) (m1 : Mm) (t1 : Tr) : Prop :=
  match o with
  | (c199, m_23) => m_23 = m1 ∧ t1.get 199 = (.b c199) ∧ t1.get 0 = (.i .i64 x0) ∧ t1.get 1 = v1 ∧ t1.get 2 = v2 ∧ t1.get 3 = v3 ∧ t1.get 13 = (.i .i64 x44) ∧ t1.get 14 = (.i .i64 x191) ∧ t1.get 23 = AVal.nsl ∧ t1.get 28 = (.i .i64 x190)
abbrev g12_J16  (o : Bool × Mm) (m1 : Mm) (t1 : Tr) : Prop :=
  match o with
  | (c204, m_25) => m_25 = m1 ∧ t1.get 204 = (.b c204)
abbrev g12_I17 (x0 : Int) (v1 : AVal) (v2 : AVal) (v3 : AVal) (x44 : Int) (x190 : Int) (s : AVal × Int × Mm) (m1 : Mm) (t1 : Tr) : Prop :=
  match s with
  | (v23, x29, m_27) => m_27 = m1 ∧ t1.get 23 = v23 ∧ t1.get 29 = (.i .i64 x29) ∧ t1.get 0 = (.i .i64 x0) ∧ t1.get 1 = v1 ∧ t1.get 2 = v2 ∧ t1.get 3 = v3 ∧ t1.get 13 = (.i .i64 x44) ∧ t1.get 28 = (.i .i64 x190)
abbrev g12_J17 (x0 : Int) (v1 : AVal) (v2 : AVal) (v3 : AVal) (x44 : Int) (x190 : Int) (o : (AVal × Mm)) (e : AExit) (m1 : Mm) (t1 : Tr) : Prop :=
  match o with
  | (y23, mo) => e = (.exit 4) ∧ mo = m1 ∧ t1.get 23 = y23 ∧ t1.get 0 = (.i .i64 x0) ∧ t1.get 1 = v1 ∧ t1.get 13 = (.i .i64 x44) ∧ t1.get 28 = (.i .i64 x190)
def g12_b17 (M : Means) (ro : List ABlk) (x0 : Int) (v1 : AVal) (v2 : AVal) (v3 : AVal) (x44 : Int) (x190 : Int) (v23 : AVal) (x29 : Int) (m_27 : Mm) : Option ((AVal × Int × Mm) ⊕ ((AVal × Mm))) :=
  forceB (ltI x29 x0) fun c207 =>
  cond c207 (
    bindO (evP .e (.ixS 1 (.c v2) (.c (.i .i64 x29)))) fun v213 =>
    bindO (evP .e (.ixS 1 (.c v3) (.c (.i .i64 x29)))) fun v217 =>
    bindO (ldA ro m_27.h true 1 v213) fun v214 =>
    asI .i64 v214 fun x214 =>
    bindO (ldA ro m_27.h true 1 v217) fun v218 =>
    asI .i64 v218 fun x218 =>
    forceI (wr .i64 (x214 + x218)) fun x219 =>
    bindP (stepM ro m_27 (.bsl 3 1 [(AVal.i IntKind.i64 0)] 1 [((0, 1), .c (.i .i64 x219))])) fun v220 m_28 =>
    bindP (stepM ro m_28 (.app 3 1 8 [(AVal.i IntKind.i64 0)] (.c v23) (.c v220))) fun v221 m_29 =>
    forceI (wr .i64 (x29 + 1)) fun x209 =>
    some (.inl (v221, x209, m_29))) (
    some (.inr (v23, m_27)))
abbrev g12_J18 (m_31 : Mm) (o : Bool) (m1 : Mm) (t1 : Tr) : Prop :=
  match o with
  | c237 => m_31 = m1 ∧ t1.get 237 = (.b c237)
abbrev g12_J19  (o : Bool × Mm) (m1 : Mm) (t1 : Tr) : Prop :=
  match o with
  | (c240, m_32) => m_32 = m1 ∧ t1.get 240 = (.b c240)
def g12 (M : Means) (ro : List ABlk) (x0 : Int) (v1 : AVal) (v2 : AVal) (v3 : AVal) (v4 : AVal) (x5 : Int) (m0 : Mm) : Option (AVal × Heap × Nat × Nat) :=
  bindP (stepM ro m0 (.bsl 22 1 [AVal.nsl] 4 [((0, 1), .c v1), ((1, 1), .c v2), ((2, 1), .c v3), ((3, 1), .c v4)])) fun v35 m_1 =>
  bindP (callM M.call m_1 14 [v35]) fun v36 m_2 =>
  asB v36 fun c36 =>
  forceB (!c36) fun c37 =>
  cond c37 (
    bindP (callM M.call m_2 15 []) fun v38 m_3 =>
    asB v38 fun c38 =>
    finM m0.h.length (tupA [(.b c38)]) m_3) (
    bindP (callM M.call m_2 33 [(.i .i64 x0), v1, v2]) fun v43 m_4 =>
    bindO (evP .e (.ext 0 (.c v43))) fun v44 =>
    asI .i64 v44 fun x44 =>
    bindO (evP .e (.ext 1 (.c v43))) fun v45 =>
    asI .i64 v45 fun x45 =>
    bindP (callM M.call m_4 35 [(.i .i64 x0), v1, v2]) fun v50 m_5 =>
    bindO (evP .e (.ext 0 (.c v50))) fun v51 =>
    bindO (evP .e (.ext 1 (.c v50))) fun v52 =>
    asI .i64 v52 fun x52 =>
    bindO (evP .e (.ext 2 (.c v50))) fun v53 =>
    asI .i64 v53 fun x53 =>
    bindP (callM M.call m_5 39 [(.i .i64 x0), v1]) fun v56 m_6 =>
    asB v56 fun c56 =>
    forceB (!c56) fun c57 =>
    bindO (cond c57 (
      some (true, m_6)) (
      bindP (callM M.call m_6 43 [(.i .i64 x0), v2]) fun v61 m_8 =>
      asB v61 fun c61 =>
      forceB (!c61) fun c62 =>
      some (c62, m_8))) fun ⟨c63, m_7⟩ =>
    cond c63 (
      forceB (!eqI x53 0) fun c65 =>
      bindO (cond c65 (
        bindO (evP .e (.len false (.c v51))) fun v68 =>
        asI .i64 v68 fun x68 =>
        forceI (wr .i64 (x68 + x52)) fun x70 =>
        forceB (eqI x70 0) fun c71 =>
        some c71) (
        some false)) fun c72 =>
      bindO (cond c72 (
        bindP (callM M.call m_7 15 []) fun v74 m_10 =>
        asB v74 fun c74 =>
        some (c74, m_10)) (
        some (false, m_7))) fun ⟨c75, m_9⟩ =>
      finM m0.h.length (tupA [(.b c75)]) m_9) (
      bindP (callM M.call m_7 25 [(.i .i64 x0), v1, v51]) fun v80 m_11 =>
      bindO (evP .e (.ext 0 (.c v80))) fun v81 =>
      asI .i64 v81 fun x81 =>
      bindO (evP .e (.ext 1 (.c v80))) fun v82 =>
      asB v82 fun c82 =>
      bindO (evP .e (.ext 2 (.c v80))) fun v83 =>
      asI .i64 v83 fun x83 =>
      forceB (!eqI x45 0) fun c85 =>
      bindO (cond c85 (
        some true) (
        forceB (!eqI x53 0) fun c88 =>
        some c88)) fun c89 =>
      bindO (cond c89 (
        some true) (
        forceB (!eqI x83 0) fun c92 =>
        some c92)) fun c93 =>
      bindO (cond c93 (
        some true) (
        forceB (!eqI x44 x52) fun c97 =>
        some c97)) fun c98 =>
      bindO (cond c98 (
        some true) (
        forceB (!c82) fun c101 =>
        some c101)) fun c102 =>
      cond c102 (
        finM m0.h.length (tupA [(.b false)]) m_11) (
        forceI (wr .i64 x5) fun x104 =>
        bindO (evP .e (.len false (.c v1))) fun v106 =>
        asI .i64 v106 fun x106 =>
        chk (!eqI x106 (.ofNat 0)) <|
        forceI (Int.tmod x104 x106) fun x107 =>
        bindO (M.loop (S := AVal × Int × Mm) (R := (AVal × Mm)) (fun s => g12_b7 M ro x0 v1 v2 v3 v4 x44 v51 x52 x107 s.1 s.2.1 s.2.2) (AVal.nsl, 0, m_11)) fun ⟨v22_1, m_15⟩ =>
        bindP (callM M.call m_15 33 [(.i .i64 x0), v1, v22_1]) fun v124 m_16 =>
        bindO (evP .e (.ext 0 (.c v124))) fun v125 =>
        asI .i64 v125 fun x125 =>
        bindO (evP .e (.ext 1 (.c v124))) fun v126 =>
        asI .i64 v126 fun x126 =>
        forceB (!eqI x126 0) fun c128 =>
        bindO (cond c128 (
          some true) (
          bindO (evP .e (.ixS 1 (.c v1) (.c (.i .i64 x107)))) fun v133 =>
          bindO (ldM ro m_16 true 1 v133) fun v134 =>
          asI .i64 v134 fun x134 =>
          forceB (!eqI x125 x134) fun c135 =>
          some c135)) fun c136 =>
        cond c136 (
          finM m0.h.length (tupA [(.b false)]) m_16) (
          bindP (callM M.call m_16 25 [(.i .i64 x0), v1, v4]) fun v141 m_17 =>
          bindO (evP .e (.ext 0 (.c v141))) fun v142 =>
          asI .i64 v142 fun x142 =>
          bindO (evP .e (.ext 1 (.c v141))) fun v143 =>
          asB v143 fun c143 =>
          bindO (evP .e (.ext 2 (.c v141))) fun v144 =>
          asI .i64 v144 fun x144 =>
          forceB (eqI x144 0) fun c146 =>
          bindO (cond c146 (
            some c143) (
            some false)) fun c149 =>
          bindO (α := (Mm ⊕ (Bool × Mm))) (
            cond c149 (
              bindO (M.loop (S := Int × Int) (R := Int) (fun s => g12_b11 M ro x0 v1 v2 v3 v4 x44 v51 x52 m_17 s.1 s.2) (0, 0)) fun x26_1 =>
              forceB (ltI x52 x26_1) fun c174 =>
              bindO (cond c174 (
                some (true, m_17)) (
                forceB (eqI x26_1 x52) fun c178 =>
                bindO (cond c178 (
                  bindP (callM M.call m_17 42 [v4, v51]) fun v182 m_20 =>
                  asB v182 fun c182 =>
                  some (c182, m_20)) (
                  some (false, m_17))) fun ⟨c184_1, m_19⟩ =>
                some (c184_1, m_19))) fun ⟨c184, m_18⟩ =>
              cond c184 (
                some (.inr (false, m_18))) (
                some (.inl m_18))) (
              some (.inl m_17))) fun o_10 => match o_10 with
          | (.inl m_21) =>
            bindP (callM M.call m_21 33 [(.i .i64 x0), v1, v3]) fun v189 m_22 =>
            bindO (evP .e (.ext 0 (.c v189))) fun v190 =>
            asI .i64 v190 fun x190 =>
            bindO (evP .e (.ext 1 (.c v189))) fun v191 =>
            asI .i64 v191 fun x191 =>
            forceB (!eqI x191 0) fun c193 =>
            bindO (cond c193 (
              some (true, m_22)) (
              bindP (callM M.call m_22 43 [(.i .i64 x0), v3]) fun v197 m_24 =>
              asB v197 fun c197 =>
              forceB (!c197) fun c198 =>
              some (c198, m_24))) fun ⟨c199, m_23⟩ =>
            cond c199 (
              forceB (!eqI x191 0) fun c201 =>
              bindO (cond c201 (
                bindP (callM M.call m_23 15 []) fun v203 m_26 =>
                asB v203 fun c203 =>
                some (c203, m_26)) (
                some (false, m_23))) fun ⟨c204, m_25⟩ =>
              finM m0.h.length (tupA [(.b c204)]) m_25) (
              bindO (M.loop (S := AVal × Int × Mm) (R := (AVal × Mm)) (fun s => g12_b17 M ro x0 v1 v2 v3 x44 x190 s.1 s.2.1 s.2.2) (AVal.nsl, 0, m_23)) fun ⟨v23_1, m_30⟩ =>
              bindP (callM M.call m_30 33 [(.i .i64 x0), v1, v23_1]) fun v226 m_31 =>
              bindO (evP .e (.ext 0 (.c v226))) fun v227 =>
              asI .i64 v227 fun x227 =>
              bindO (evP .e (.ext 1 (.c v226))) fun v228 =>
              asI .i64 v228 fun x228 =>
              forceB (!eqI x228 0) fun c230 =>
              bindO (cond c230 (
                some true) (
                forceI (wr .i64 (x44 + x190)) fun x235 =>
                forceB (!ltI x235 x227) fun c236 =>
                some c236)) fun c237 =>
              bindO (cond c237 (
                bindP (callM M.call m_31 15 []) fun v239 m_33 =>
                asB v239 fun c239 =>
                some (c239, m_33)) (
                some (false, m_31))) fun ⟨c240, m_32⟩ =>
              finM m0.h.length (tupA [(.b c240)]) m_32)
          | (.inr (c12, m_34)) =>
            finM m0.h.length (tupA [(.b c12)]) m_34))))

theorem g12_ok {ro : List ABlk} {O : Caller} {M : Means} (hM : M.Ok ⟨F, O⟩ ro) {x0 v1 v2 v3 v4 x5 h r} (ho : O 12 [(.i .i64 x0), v1, v2, v3, v4, (.i .u8 x5)] h = none) (hr : g12 M ro x0 v1 v2 v3 v4 x5 ⟨h, h.length, h.length⟩ = some r) : callX ⟨F, O⟩ ro 12 [(.i .i64 x0), v1, v2, v3, v4, (.i .u8 x5)] h = some r := by
  refine callX_of (F := ⟨F, O⟩) (fn := fn12) (g := g12 M ro x0 v1 v2 v3 v4 x5) ho rfl rfl hr ?_
  clear ho
  clear hr
  intro m0 t0 ht hr
  have g0 : t0.get 0 = (.i .i64 x0) := ht 0
  have g1 : t0.get 1 = v1 := ht 1
  have g2 : t0.get 2 = v2 := ht 2
  have g3 : t0.get 3 = v3 := ht 3
  have g4 : t0.get 4 = v4 := ht 4
  have g5 : t0.get 5 = (.i .u8 x5) := ht 5
  clear ht
  unfold g12 at hr
  refine w_seq ?_
  refine w_ops ?_
  refine wo_step (v := (.b false)) (s_pure (p_mv rfl)) ?_
  refine wo_nil ?_
  refine nx_norm ?_
  refine w_seq ?_
  refine w_seq ?_
  refine w_ops ?_
  refine wo_step (v := v1) (s_pure (p_mv g1)) ?_
  refine wo_step (v := v2) (s_pure (p_mv g2)) ?_
  refine wo_step (v := v3) (s_pure (p_mv g3)) ?_
  refine wo_step (v := v4) (s_pure (p_mv g4)) ?_
  have hq := bindP_inv hr
  clear hr
  obtain ⟨v35, m_1, e35, hr⟩ := hq
  refine wo_step (v := v35) (s_bsl (qc rfl (qc rfl (qc rfl (qc rfl qn)))) e35) ?_
  have hq := bindP_inv hr
  clear hr
  obtain ⟨v36, m_2, e36, hr⟩ := hq
  have hq := asB_inv hr
  clear hr
  obtain ⟨c36, rfl, hr⟩ := hq
  refine wo_step (v := (.b c36)) (s_call (mc rfl mn) (callM_le hM.call e36)) ?_
  have hq := forceB_inv hr
  clear hr
  obtain ⟨c37, e37, hr⟩ := hq
  refine wo_step (v := (.b c37)) (s_pure ((p_not rfl).trans (cb e37))) ?_
  refine wo_nil ?_
  refine nx_norm ?_
  have hq := cond_inv hr
  clear hr
  rcases hq with ⟨rfl, hr⟩ | ⟨rfl, hr⟩
  · refine w_condT rfl ?_
    refine w_seq ?_
    refine w_ops ?_
    have hq := bindP_inv hr
    clear hr
    obtain ⟨v38, m_3, e38, hr⟩ := hq
    have hq := asB_inv hr
    clear hr
    obtain ⟨c38, rfl, hr⟩ := hq
    refine wo_step (v := (.b c38)) (s_call mn (callM_le hM.call e38)) ?_
    refine wo_step (v := (.b c38)) (s_pure (p_mv rfl)) ?_
    refine wo_nil ?_
    refine nx_norm ?_
    refine w_ret ?_
    refine nx_ret ?_
    exact qf ret_ok (rt rfl rn) hr
  · refine w_condF rfl ?_
    refine w_skip ?_
    refine nx_norm ?_
    refine w_seq ?_
    refine w_ops ?_
    refine wo_step (v := (.i .i64 x0)) (s_pure (p_mv g0)) ?_
    refine wo_step (v := v1) (s_pure (p_mv g1)) ?_
    refine wo_step (v := v2) (s_pure (p_mv g2)) ?_
    have hq := bindP_inv hr
    clear hr
    obtain ⟨v43, m_4, e43, hr⟩ := hq
    refine wo_step (v := v43) (s_call (mc rfl (mc rfl (mc rfl mn))) (callM_le hM.call e43)) ?_
    refine wo_step (v := v43) (s_pure (p_mv rfl)) ?_
    have hq := bindO_inv hr
    clear hr
    obtain ⟨v44, e44, hr⟩ := hq
    have hq := asI_inv hr
    clear hr
    obtain ⟨x44, rfl, hr⟩ := hq
    refine wo_step (v := (.i .i64 x44)) (s_pure (o_ext rfl e44)) ?_
    have hq := bindO_inv hr
    clear hr
    obtain ⟨v45, e45, hr⟩ := hq
    have hq := asI_inv hr
    clear hr
    obtain ⟨x45, rfl, hr⟩ := hq
    refine wo_step (v := (.i .i64 x45)) (s_pure (o_ext rfl e45)) ?_
    refine wo_step (v := (.i .i64 x44)) (s_pure (p_mv rfl)) ?_
    refine wo_step (v := (.i .i64 x45)) (s_pure (p_mv rfl)) ?_
    refine wo_nil ?_
    refine nx_norm ?_
    refine w_seq ?_
    refine w_ops ?_
    refine wo_step (v := (.i .i64 x0)) (s_pure (p_mv g0)) ?_
    refine wo_step (v := v1) (s_pure (p_mv g1)) ?_
    refine wo_step (v := v2) (s_pure (p_mv g2)) ?_
    have hq := bindP_inv hr
    clear hr
    obtain ⟨v50, m_5, e50, hr⟩ := hq
    refine wo_step (v := v50) (s_call (mc rfl (mc rfl (mc rfl mn))) (callM_le hM.call e50)) ?_
    refine wo_step (v := v50) (s_pure (p_mv rfl)) ?_
    have hq := bindO_inv hr
    clear hr
    obtain ⟨v51, e51, hr⟩ := hq
    refine wo_step (v := v51) (s_pure (o_ext rfl e51)) ?_
    have hq := bindO_inv hr
    clear hr
    obtain ⟨v52, e52, hr⟩ := hq
    have hq := asI_inv hr
    clear hr
    obtain ⟨x52, rfl, hr⟩ := hq
    refine wo_step (v := (.i .i64 x52)) (s_pure (o_ext rfl e52)) ?_
    have hq := bindO_inv hr
    clear hr
    obtain ⟨v53, e53, hr⟩ := hq
    have hq := asI_inv hr
    clear hr
    obtain ⟨x53, rfl, hr⟩ := hq
    refine wo_step (v := (.i .i64 x53)) (s_pure (o_ext rfl e53)) ?_
    refine wo_step (v := v51) (s_pure (p_mv rfl)) ?_
    refine wo_step (v := (.i .i64 x52)) (s_pure (p_mv rfl)) ?_
    refine wo_step (v := (.i .i64 x53)) (s_pure (p_mv rfl)) ?_
    refine wo_nil ?_
    refine nx_norm ?_
    refine w_seq ?_
    refine w_seq ?_
    refine w_ops ?_
    refine wo_step (v := (.i .i64 x0)) (s_pure (p_mv g0)) ?_
    refine wo_step (v := v1) (s_pure (p_mv g1)) ?_
    have hq := bindP_inv hr
    clear hr
    obtain ⟨v56, m_6, e56, hr⟩ := hq
    have hq := asB_inv hr
    clear hr
    obtain ⟨c56, rfl, hr⟩ := hq
    refine wo_step (v := (.b c56)) (s_call (mc rfl (mc rfl mn)) (callM_le hM.call e56)) ?_
    have hq := forceB_inv hr
    clear hr
    obtain ⟨c57, e57, hr⟩ := hq
    refine wo_step (v := (.b c57)) (s_pure ((p_not rfl).trans (cb e57))) ?_
    refine wo_step (v := (.b c57)) (s_pure (p_mv rfl)) ?_
    have hq := bindO_inv hr
    clear hr
    obtain ⟨o, hr, hk⟩ := hq
    refine wo_join 5 (g12_J0 x0 v1 v2 v3 v4 x5 x44 x45 v51 x52 x53 o) ?_ ?_
    · clear hk
      have hq := cond_inv hr
      clear hr
      rcases hq with ⟨rfl, hr⟩ | ⟨rfl, hr⟩
      · refine wo_skip (v := (.b true)) rfl rfl ?_
        refine wo_skip (v := (.b true)) rfl rfl ?_
        refine wo_skip (v := (.b true)) rfl rfl ?_
        refine wo_skip (v := (.b true)) rfl rfl ?_
        refine wo_step (v := (.b true)) (s_pure (p_pickT rfl rfl)) ?_
        refine wo_nil ?_
        cases hr
        exact ⟨_, _, rfl, rfl, gl rfl, gl g0, gl g1, gl g2, gl g3, gl g4, gl g5, gl rfl, gl rfl, gl rfl, gl rfl, gl rfl⟩
      · refine wo_take (v := (.i .i64 x0)) rfl (s_pure (p_mv g0)) ?_
        refine wo_take (v := v2) rfl (s_pure (p_mv g2)) ?_
        have hq := bindP_inv hr
        clear hr
        obtain ⟨v61, m_8, e61, hr⟩ := hq
        have hq := asB_inv hr
        clear hr
        obtain ⟨c61, rfl, hr⟩ := hq
        refine wo_take (v := (.b c61)) rfl (s_call (mc rfl (mc rfl mn)) (callM_le hM.call e61)) ?_
        have hq := forceB_inv hr
        clear hr
        obtain ⟨c62, e62, hr⟩ := hq
        refine wo_take (v := (.b c62)) rfl (s_pure ((p_not rfl).trans (cb e62))) ?_
        refine wo_step (v := (.b c62)) (s_pure (p_pickF rfl rfl)) ?_
        refine wo_nil ?_
        cases hr
        exact ⟨_, _, rfl, rfl, gl rfl, gl g0, gl g1, gl g2, gl g3, gl g4, gl g5, gl rfl, gl rfl, gl rfl, gl rfl, gl rfl⟩
    · clear hr
      have hr := hk
      clear hk
      obtain ⟨c63, m_7⟩ := o
      rintro mm t_1 ⟨rfl, g63, g0, g1, g2, g3, g4, g5, g13, g14, g15, g16, g17⟩
      refine wo_nil ?_
      refine nx_norm ?_
      have hq := cond_inv hr
      clear hr
      rcases hq with ⟨rfl, hr⟩ | ⟨rfl, hr⟩
      · refine w_condT g63 ?_
        refine w_seq ?_
        refine w_ops ?_
        refine wo_step (v := (.i .i64 x53)) (s_pure (p_mv g17)) ?_
        have hq := forceB_inv hr
        clear hr
        obtain ⟨c65, e65, hr⟩ := hq
        refine wo_step (v := (.b c65)) (s_pure (p_bin rfl rfl (b_neq.trans (cb e65)))) ?_
        refine wo_step (v := (.b c65)) (s_pure (p_mv rfl)) ?_
        have hq := bindO_inv hr
        clear hr
        obtain ⟨o_1, hr, hk⟩ := hq
        refine wo_join 6 (g12_J1 m_7 o_1) ?_ ?_
        · clear hk
          have hq := cond_inv hr
          clear hr
          rcases hq with ⟨rfl, hr⟩ | ⟨rfl, hr⟩
          · refine wo_take (v := v51) rfl (s_pure (p_mv g15)) ?_
            have hq := bindO_inv hr
            clear hr
            obtain ⟨v68, e68, hr⟩ := hq
            have hq := asI_inv hr
            clear hr
            obtain ⟨x68, rfl, hr⟩ := hq
            refine wo_take (v := (.i .i64 x68)) rfl (s_pure (o_len rfl e68)) ?_
            refine wo_take (v := (.i .i64 x52)) rfl (s_pure (p_mv g16)) ?_
            have hq := forceI_inv hr
            clear hr
            obtain ⟨x70, e70, hr⟩ := hq
            refine wo_take (v := (.i .i64 x70)) rfl (s_pure (p_bin rfl rfl (b_add.trans (ci e70)))) ?_
            have hq := forceB_inv hr
            clear hr
            obtain ⟨c71, e71, hr⟩ := hq
            refine wo_take (v := (.b c71)) rfl (s_pure (p_bin rfl rfl (b_eql.trans (cb e71)))) ?_
            refine wo_step (v := (.b c71)) (s_pure (p_pickT rfl rfl)) ?_
            refine wo_nil ?_
            cases hr
            exact ⟨_, _, rfl, rfl, gl rfl⟩
          · refine wo_skip (v := (.b false)) rfl rfl ?_
            refine wo_skip (v := (.b false)) rfl rfl ?_
            refine wo_skip (v := (.b false)) rfl rfl ?_
            refine wo_skip (v := (.b false)) rfl rfl ?_
            refine wo_skip (v := (.b false)) rfl rfl ?_
            refine wo_step (v := (.b false)) (s_pure (p_pickF rfl rfl)) ?_
            refine wo_nil ?_
            cases hr
            exact ⟨_, _, rfl, rfl, gl rfl⟩
        · clear hr
          have hr := hk
          clear hk
          obtain ⟨c72, ho⟩ : ∃ z, z = o_1 := ⟨_, rfl⟩
          subst ho
          rintro mm_1 t_2 ⟨rfl, g72⟩
          refine wo_step (v := (.b c72)) (s_pure (p_mv g72)) ?_
          have hq := bindO_inv hr
          clear hr
          obtain ⟨o_2, hr, hk⟩ := hq
          refine wo_join 2 (g12_J2  o_2) ?_ ?_
          · clear hk
            have hq := cond_inv hr
            clear hr
            rcases hq with ⟨rfl, hr⟩ | ⟨rfl, hr⟩
            · have hq := bindP_inv hr
              clear hr
              obtain ⟨v74, m_10, e74, hr⟩ := hq
              have hq := asB_inv hr
              clear hr
              obtain ⟨c74, rfl, hr⟩ := hq
              refine wo_take (v := (.b c74)) rfl (s_call mn (callM_le hM.call e74)) ?_
              refine wo_step (v := (.b c74)) (s_pure (p_pickT rfl rfl)) ?_
              refine wo_nil ?_
              cases hr
              exact ⟨_, _, rfl, rfl, gl rfl⟩
            · refine wo_skip (v := (.b false)) rfl rfl ?_
              refine wo_step (v := (.b false)) (s_pure (p_pickF rfl rfl)) ?_
              refine wo_nil ?_
              cases hr
              exact ⟨_, _, rfl, rfl, gl rfl⟩
          · clear hr
            have hr := hk
            clear hk
            obtain ⟨c75, m_9⟩ := o_2
            rintro mm_2 t_3 ⟨rfl, g75⟩
            refine wo_step (v := (.b c75)) (s_pure (p_mv g75)) ?_
            refine wo_nil ?_
            refine nx_norm ?_
            refine w_ret ?_
            refine nx_ret ?_
            exact qf ret_ok (rt rfl rn) hr
      · refine w_condF g63 ?_
        refine w_skip ?_
        refine nx_norm ?_
        refine w_seq ?_
        refine w_ops ?_
        refine wo_step (v := (.i .i64 x0)) (s_pure (p_mv g0)) ?_
        refine wo_step (v := v1) (s_pure (p_mv g1)) ?_
        refine wo_step (v := v51) (s_pure (p_mv g15)) ?_
        have hq := bindP_inv hr
        clear hr
        obtain ⟨v80, m_11, e80, hr⟩ := hq
        refine wo_step (v := v80) (s_call (mc rfl (mc rfl (mc rfl mn))) (callM_le hM.call e80)) ?_
        refine wo_step (v := v80) (s_pure (p_mv rfl)) ?_
        have hq := bindO_inv hr
        clear hr
        obtain ⟨v81, e81, hr⟩ := hq
        have hq := asI_inv hr
        clear hr
        obtain ⟨x81, rfl, hr⟩ := hq
        refine wo_step (v := (.i .i64 x81)) (s_pure (o_ext rfl e81)) ?_
        have hq := bindO_inv hr
        clear hr
        obtain ⟨v82, e82, hr⟩ := hq
        have hq := asB_inv hr
        clear hr
        obtain ⟨c82, rfl, hr⟩ := hq
        refine wo_step (v := (.b c82)) (s_pure (o_ext rfl e82)) ?_
        have hq := bindO_inv hr
        clear hr
        obtain ⟨v83, e83, hr⟩ := hq
        have hq := asI_inv hr
        clear hr
        obtain ⟨x83, rfl, hr⟩ := hq
        refine wo_step (v := (.i .i64 x83)) (s_pure (o_ext rfl e83)) ?_
        refine wo_step (v := (.i .i64 x81)) (s_pure (p_mv rfl)) ?_
        refine wo_step (v := (.b c82)) (s_pure (p_mv rfl)) ?_
        refine wo_step (v := (.i .i64 x83)) (s_pure (p_mv rfl)) ?_
        refine wo_nil ?_
        refine nx_norm ?_
        refine w_seq ?_
        refine w_seq ?_
        refine w_ops ?_
        refine wo_step (v := (.i .i64 x45)) (s_pure (p_mv g14)) ?_
        have hq := forceB_inv hr
        clear hr
        obtain ⟨c85, e85, hr⟩ := hq
        refine wo_step (v := (.b c85)) (s_pure (p_bin rfl rfl (b_neq.trans (cb e85)))) ?_
        refine wo_step (v := (.b c85)) (s_pure (p_mv rfl)) ?_
        have hq := bindO_inv hr
        clear hr
        obtain ⟨o_3, hr, hk⟩ := hq
        refine wo_join 3 (g12_J3 x0 v1 v2 v3 v4 x5 x44 v51 x52 c82 x83 m_11 o_3) ?_ ?_
        · clear hk
          have hq := cond_inv hr
          clear hr
          rcases hq with ⟨rfl, hr⟩ | ⟨rfl, hr⟩
          · refine wo_skip (v := (.b true)) rfl rfl ?_
            refine wo_skip (v := (.b true)) rfl rfl ?_
            refine wo_step (v := (.b true)) (s_pure (p_pickT rfl rfl)) ?_
            refine wo_nil ?_
            cases hr
            exact ⟨_, _, rfl, rfl, gl rfl, gl g0, gl g1, gl g2, gl g3, gl g4, gl g5, gl g13, gl g15, gl g16, gl rfl, gl rfl⟩
          · refine wo_take (v := (.i .i64 x53)) rfl (s_pure (p_mv g17)) ?_
            have hq := forceB_inv hr
            clear hr
            obtain ⟨c88, e88, hr⟩ := hq
            refine wo_take (v := (.b c88)) rfl (s_pure (p_bin rfl rfl (b_neq.trans (cb e88)))) ?_
            refine wo_step (v := (.b c88)) (s_pure (p_pickF rfl rfl)) ?_
            refine wo_nil ?_
            cases hr
            exact ⟨_, _, rfl, rfl, gl rfl, gl g0, gl g1, gl g2, gl g3, gl g4, gl g5, gl g13, gl g15, gl g16, gl rfl, gl rfl⟩
        · clear hr
          have hr := hk
          clear hk
          obtain ⟨c89, ho⟩ : ∃ z, z = o_3 := ⟨_, rfl⟩
          subst ho
          rintro mm_3 t_4 ⟨rfl, g89, g0, g1, g2, g3, g4, g5, g13, g15, g16, g19, g20⟩
          refine wo_step (v := (.b c89)) (s_pure (p_mv g89)) ?_
          have hq := bindO_inv hr
          clear hr
          obtain ⟨o_4, hr, hk⟩ := hq
          refine wo_join 3 (g12_J4 x0 v1 v2 v3 v4 x5 x44 v51 x52 c82 m_11 o_4) ?_ ?_
          · clear hk
            have hq := cond_inv hr
            clear hr
            rcases hq with ⟨rfl, hr⟩ | ⟨rfl, hr⟩
            · refine wo_skip (v := (.b true)) rfl rfl ?_
              refine wo_skip (v := (.b true)) rfl rfl ?_
              refine wo_step (v := (.b true)) (s_pure (p_pickT rfl rfl)) ?_
              refine wo_nil ?_
              cases hr
              exact ⟨_, _, rfl, rfl, gl rfl, gl g0, gl g1, gl g2, gl g3, gl g4, gl g5, gl g13, gl g15, gl g16, gl g19⟩
            · refine wo_take (v := (.i .i64 x83)) rfl (s_pure (p_mv g20)) ?_
              have hq := forceB_inv hr
              clear hr
              obtain ⟨c92, e92, hr⟩ := hq
              refine wo_take (v := (.b c92)) rfl (s_pure (p_bin rfl rfl (b_neq.trans (cb e92)))) ?_
              refine wo_step (v := (.b c92)) (s_pure (p_pickF rfl rfl)) ?_
              refine wo_nil ?_
              cases hr
              exact ⟨_, _, rfl, rfl, gl rfl, gl g0, gl g1, gl g2, gl g3, gl g4, gl g5, gl g13, gl g15, gl g16, gl g19⟩
          · clear hr
            have hr := hk
            clear hk
            obtain ⟨c93, ho⟩ : ∃ z, z = o_4 := ⟨_, rfl⟩
            subst ho
            rintro mm_4 t_5 ⟨rfl, g93, g0, g1, g2, g3, g4, g5, g13, g15, g16, g19⟩
            refine wo_step (v := (.b c93)) (s_pure (p_mv g93)) ?_
            have hq := bindO_inv hr
            clear hr
            obtain ⟨o_5, hr, hk⟩ := hq
            refine wo_join 4 (g12_J5 x0 v1 v2 v3 v4 x5 x44 v51 x52 c82 m_11 o_5) ?_ ?_
            · clear hk
              have hq := cond_inv hr
              clear hr
              rcases hq with ⟨rfl, hr⟩ | ⟨rfl, hr⟩
              · refine wo_skip (v := (.b true)) rfl rfl ?_
                refine wo_skip (v := (.b true)) rfl rfl ?_
                refine wo_skip (v := (.b true)) rfl rfl ?_
                refine wo_step (v := (.b true)) (s_pure (p_pickT rfl rfl)) ?_
                refine wo_nil ?_
                cases hr
                exact ⟨_, _, rfl, rfl, gl rfl, gl g0, gl g1, gl g2, gl g3, gl g4, gl g5, gl g13, gl g15, gl g16, gl g19⟩
              · refine wo_take (v := (.i .i64 x44)) rfl (s_pure (p_mv g13)) ?_
                refine wo_take (v := (.i .i64 x52)) rfl (s_pure (p_mv g16)) ?_
                have hq := forceB_inv hr
                clear hr
                obtain ⟨c97, e97, hr⟩ := hq
                refine wo_take (v := (.b c97)) rfl (s_pure (p_bin rfl rfl (b_neq.trans (cb e97)))) ?_
                refine wo_step (v := (.b c97)) (s_pure (p_pickF rfl rfl)) ?_
                refine wo_nil ?_
                cases hr
                exact ⟨_, _, rfl, rfl, gl rfl, gl g0, gl g1, gl g2, gl g3, gl g4, gl g5, gl g13, gl g15, gl g16, gl g19⟩
            · clear hr
              have hr := hk
              clear hk
              obtain ⟨c98, ho⟩ : ∃ z, z = o_5 := ⟨_, rfl⟩
              subst ho
              rintro mm_5 t_6 ⟨rfl, g98, g0, g1, g2, g3, g4, g5, g13, g15, g16, g19⟩
              refine wo_step (v := (.b c98)) (s_pure (p_mv g98)) ?_
              have hq := bindO_inv hr
              clear hr
              obtain ⟨o_6, hr, hk⟩ := hq
              refine wo_join 3 (g12_J6 x0 v1 v2 v3 v4 x5 x44 v51 x52 m_11 o_6) ?_ ?_
              · clear hk
                have hq := cond_inv hr
                clear hr
                rcases hq with ⟨rfl, hr⟩ | ⟨rfl, hr⟩
                · refine wo_skip (v := (.b true)) rfl rfl ?_
                  refine wo_skip (v := (.b true)) rfl rfl ?_
                  refine wo_step (v := (.b true)) (s_pure (p_pickT rfl rfl)) ?_
                  refine wo_nil ?_
                  cases hr
                  exact ⟨_, _, rfl, rfl, gl rfl, gl g0, gl g1, gl g2, gl g3, gl g4, gl g5, gl g13, gl g15, gl g16⟩
                · refine wo_take (v := (.b c82)) rfl (s_pure (p_mv g19)) ?_
                  have hq := forceB_inv hr
                  clear hr
                  obtain ⟨c101, e101, hr⟩ := hq
                  refine wo_take (v := (.b c101)) rfl (s_pure ((p_not rfl).trans (cb e101))) ?_
                  refine wo_step (v := (.b c101)) (s_pure (p_pickF rfl rfl)) ?_
                  refine wo_nil ?_
                  cases hr
                  exact ⟨_, _, rfl, rfl, gl rfl, gl g0, gl g1, gl g2, gl g3, gl g4, gl g5, gl g13, gl g15, gl g16⟩
              · clear hr
                have hr := hk
                clear hk
                obtain ⟨c102, ho⟩ : ∃ z, z = o_6 := ⟨_, rfl⟩
                subst ho
                rintro mm_6 t_7 ⟨rfl, g102, g0, g1, g2, g3, g4, g5, g13, g15, g16⟩
                refine wo_nil ?_
                refine nx_norm ?_
                have hq := cond_inv hr
                clear hr
                rcases hq with ⟨rfl, hr⟩ | ⟨rfl, hr⟩
                · refine w_condT g102 ?_
                  refine w_seq ?_
                  refine w_ops ?_
                  refine wo_step (v := (.b false)) (s_pure (p_mv rfl)) ?_
                  refine wo_nil ?_
                  refine nx_norm ?_
                  refine w_ret ?_
                  refine nx_ret ?_
                  exact qf ret_ok (rt rfl rn) hr
                · refine w_condF g102 ?_
                  refine w_skip ?_
                  refine nx_norm ?_
                  refine w_seq ?_
                  refine w_ops ?_
                  refine wo_step (v := (.i .u8 x5)) (s_pure (p_mv g5)) ?_
                  have hq := forceI_inv hr
                  clear hr
                  obtain ⟨x104, e104, hr⟩ := hq
                  refine wo_step (v := (.i .i64 x104)) (s_pure ((p_conv rfl).trans (ci e104))) ?_
                  refine wo_step (v := v1) (s_pure (p_mv g1)) ?_
                  have hq := bindO_inv hr
                  clear hr
                  obtain ⟨v106, e106, hr⟩ := hq
                  have hq := asI_inv hr
                  clear hr
                  obtain ⟨x106, rfl, hr⟩ := hq
                  refine wo_step (v := (.i .i64 x106)) (s_pure (o_len rfl e106)) ?_
                  have hq := chk_inv hr
                  clear hr
                  obtain ⟨hc107, hr⟩ := hq
                  have hq := forceI_inv hr
                  clear hr
                  obtain ⟨x107, e107, hr⟩ := hq
                  refine wo_step (v := (.i .i64 x107)) (s_pure (p_bin rfl rfl ((b_rem hc107).trans (ci e107)))) ?_
                  refine wo_step (v := (.i .i64 x107)) (s_pure (p_mv rfl)) ?_
                  refine wo_nil ?_
                  refine nx_norm ?_
                  refine w_seq ?_
                  refine w_ops ?_
                  refine wo_step (v := AVal.nsl) (s_pure (p_mv rfl)) ?_
                  refine wo_step (v := AVal.nsl) (s_pure (p_mv rfl)) ?_
                  refine wo_nil ?_
                  refine nx_norm ?_
                  refine w_seq ?_
                  refine w_seq ?_
                  refine w_ops ?_
                  refine wo_step (v := (.i .i64 0)) (s_pure (p_mv rfl)) ?_
                  refine wo_nil ?_
                  refine nx_norm ?_
                  refine w_block ?_
                  have hq := bindO_inv hr
                  clear hr
                  obtain ⟨o_7, hl_2, hr⟩ := hq
                  obtain ⟨n_2, hl_2⟩ := hM.loop _ _ _ hl_2
                  refine jp_mono (w_loop _ (g12_I7 x0 v1 v2 v3 v4 x44 v51 x52 x107) (g12_J7 x0 v1 v2 v3 v4 x44 v51 x52 x107) ?_ n_2 _ _ _ _ hl_2 ⟨rfl, gl rfl, gl rfl, gl g0, gl g1, gl g2, gl g3, gl g4, gl g13, gl g15, gl g16, gl rfl, gl rfl⟩) ?_
                  · clear hr hl_2
                    intro s mm_23 t_8 o hi hr
                    obtain ⟨v22, x24, m_12⟩ := s
                    obtain ⟨rfl, g22, g24, g0, g1, g2, g3, g4, g13, g15, g16, g21, g23⟩ := hi
                    unfold g12_b7 at hr
                    refine w_seq ?_
                    refine w_seq ?_
                    refine w_ops ?_
                    refine wo_step (v := (.i .i64 x24)) (s_pure (p_mv g24)) ?_
                    refine wo_step (v := (.i .i64 x0)) (s_pure (p_mv g0)) ?_
                    have hq := forceB_inv hr
                    clear hr
                    obtain ⟨c110, e110, hr⟩ := hq
                    refine wo_step (v := (.b c110)) (s_pure (p_bin rfl rfl (b_lss.trans (cb e110)))) ?_
                    refine wo_nil ?_
                    refine nx_norm ?_
                    have hq := cond_inv hr
                    clear hr
                    rcases hq with ⟨rfl, hr⟩ | ⟨rfl, hr⟩
                    · refine w_condT rfl ?_
                      refine w_skip ?_
                      refine nx_norm ?_
                      refine w_seq ?_
                      refine w_block ?_
                      refine w_ops ?_
                      refine wo_step (v := v22) (s_pure (p_mv g22)) ?_
                      refine wo_step (v := (.i .i64 x107)) (s_pure (p_mv g21)) ?_
                      refine wo_step (v := (.i .i64 x24)) (s_pure (p_mv g24)) ?_
                      have hq := chk_inv hr
                      clear hr
                      obtain ⟨hc116, hr⟩ := hq
                      have hq := forceI_inv hr
                      clear hr
                      obtain ⟨x116, e116, hr⟩ := hq
                      refine wo_step (v := (.i .i64 x116)) (s_pure (p_bin rfl rfl ((b_shr hc116).trans (ci e116)))) ?_
                      have hq := forceI_inv hr
                      clear hr
                      obtain ⟨x117, e117, hr⟩ := hq
                      refine wo_step (v := (.i .i64 x117)) (s_pure (p_bin rfl rfl ((b_rem rfl).trans (ci e117)))) ?_
                      have hq := bindP_inv hr
                      clear hr
                      obtain ⟨v118, m_13, e118, hr⟩ := hq
                      refine wo_step (v := v118) (s_bsl (qc rfl qn) e118) ?_
                      have hq := bindP_inv hr
                      clear hr
                      obtain ⟨v119, m_14, e119, hr⟩ := hq
                      refine wo_step (v := v119) (s_app rfl rfl e119) ?_
                      refine wo_step (v := v119) (s_pure (p_mv rfl)) ?_
                      refine wo_nil ?_
                      refine bk_norm ?_
                      refine nx_norm ?_
                      refine w_ops ?_
                      refine wo_step (v := (.i .i64 x24)) (s_pure (p_mv g24)) ?_
                      have hq := forceI_inv hr
                      clear hr
                      obtain ⟨x112, e112, hr⟩ := hq
                      refine wo_step (v := (.i .i64 x112)) (s_pure (p_bin rfl rfl (b_add.trans (ci e112)))) ?_
                      refine wo_step (v := (.i .i64 x112)) (s_pure (p_mv rfl)) ?_
                      refine wo_nil ?_
                      cases hr
                      exact ⟨_, _, rfl, rfl, rfl, gl rfl, gl rfl, gl g0, gl g1, gl g2, gl g3, gl g4, gl g13, gl g15, gl g16, gl g21, gl g23⟩
                    · refine w_condF rfl ?_
                      refine w_exit ?_
                      refine nx_exit ?_
                      cases hr
                      exact ⟨_, _, rfl, ne_norm_exit, rfl, rfl, gl g22, gl g0, gl g1, gl g2, gl g3, gl g4, gl g13, gl g15, gl g16, gl g21, gl g23⟩
                  · obtain ⟨v22_1, m_15⟩ := o_7
                    rintro _ mm_22 t_9 ⟨rfl, rfl, g22, g0, g1, g2, g3, g4, g13, g15, g16, g21, g23⟩
                    refine bk_hit ?_
                    refine nx_norm ?_
                    refine w_seq ?_
                    refine w_ops ?_
                    refine wo_step (v := (.i .i64 x0)) (s_pure (p_mv g0)) ?_
                    refine wo_step (v := v1) (s_pure (p_mv g1)) ?_
                    refine wo_step (v := v22_1) (s_pure (p_mv g22)) ?_
                    have hq := bindP_inv hr
                    clear hr
                    obtain ⟨v124, m_16, e124, hr⟩ := hq
                    refine wo_step (v := v124) (s_call (mc rfl (mc rfl (mc rfl mn))) (callM_le hM.call e124)) ?_
                    refine wo_step (v := v124) (s_pure (p_mv rfl)) ?_
                    have hq := bindO_inv hr
                    clear hr
                    obtain ⟨v125, e125, hr⟩ := hq
                    have hq := asI_inv hr
                    clear hr
                    obtain ⟨x125, rfl, hr⟩ := hq
                    refine wo_step (v := (.i .i64 x125)) (s_pure (o_ext rfl e125)) ?_
                    have hq := bindO_inv hr
                    clear hr
                    obtain ⟨v126, e126, hr⟩ := hq
                    have hq := asI_inv hr
                    clear hr
                    obtain ⟨x126, rfl, hr⟩ := hq
                    refine wo_step (v := (.i .i64 x126)) (s_pure (o_ext rfl e126)) ?_
                    refine wo_step (v := (.i .i64 x125)) (s_pure (p_mv rfl)) ?_
                    refine wo_step (v := (.i .i64 x126)) (s_pure (p_mv rfl)) ?_
                    refine wo_nil ?_
                    refine nx_norm ?_
                    refine w_seq ?_
                    refine w_seq ?_
                    refine w_ops ?_
                    refine wo_step (v := (.i .i64 x126)) (s_pure (p_mv rfl)) ?_
                    have hq := forceB_inv hr
                    clear hr
                    obtain ⟨c128, e128, hr⟩ := hq
                    refine wo_step (v := (.b c128)) (s_pure (p_bin rfl rfl (b_neq.trans (cb e128)))) ?_
                    refine wo_step (v := (.b c128)) (s_pure (p_mv rfl)) ?_
                    have hq := bindO_inv hr
                    clear hr
                    obtain ⟨o_8, hr, hk⟩ := hq
                    refine wo_join 7 (g12_J8 x0 v1 v2 v3 v4 x44 v51 x52 m_16 o_8) ?_ ?_
                    · clear hk
                      have hq := cond_inv hr
                      clear hr
                      rcases hq with ⟨rfl, hr⟩ | ⟨rfl, hr⟩
                      · refine wo_skip (v := (.b true)) rfl rfl ?_
                        refine wo_skip (v := (.b true)) rfl rfl ?_
                        refine wo_skip (v := (.b true)) rfl rfl ?_
                        refine wo_skip (v := (.b true)) rfl rfl ?_
                        refine wo_skip (v := (.b true)) rfl rfl ?_
                        refine wo_skip (v := (.b true)) rfl rfl ?_
                        refine wo_step (v := (.b true)) (s_pure (p_pickT rfl rfl)) ?_
                        refine wo_nil ?_
                        cases hr
                        exact ⟨_, _, rfl, rfl, gl rfl, gl g0, gl g1, gl g2, gl g3, gl g4, gl g13, gl g15, gl g16, gl g23⟩
                      · refine wo_take (v := (.i .i64 x125)) rfl (s_pure (p_mv rfl)) ?_
                        refine wo_take (v := v1) rfl (s_pure (p_mv g1)) ?_
                        refine wo_take (v := (.i .i64 x107)) rfl (s_pure (p_mv g21)) ?_
                        have hq := bindO_inv hr
                        clear hr
                        obtain ⟨v133, e133, hr⟩ := hq
                        refine wo_take (v := v133) rfl (s_pure (o_ixS rfl rfl e133)) ?_
                        have hq := bindO_inv hr
                        clear hr
                        obtain ⟨v134, e134, hr⟩ := hq
                        have hq := asI_inv hr
                        clear hr
                        obtain ⟨x134, rfl, hr⟩ := hq
                        refine wo_take (v := (.i .i64 x134)) rfl (s_ld rfl e134) ?_
                        have hq := forceB_inv hr
                        clear hr
                        obtain ⟨c135, e135, hr⟩ := hq
                        refine wo_take (v := (.b c135)) rfl (s_pure (p_bin rfl rfl (b_neq.trans (cb e135)))) ?_
                        refine wo_step (v := (.b c135)) (s_pure (p_pickF rfl rfl)) ?_
                        refine wo_nil ?_
                        cases hr
                        exact ⟨_, _, rfl, rfl, gl rfl, gl g0, gl g1, gl g2, gl g3, gl g4, gl g13, gl g15, gl g16, gl g23⟩
                    · clear hr
                      have hr := hk
                      clear hk
                      obtain ⟨c136, ho⟩ : ∃ z, z = o_8 := ⟨_, rfl⟩
                      subst ho
                      rintro mm_7 t_10 ⟨rfl, g136, g0, g1, g2, g3, g4, g13, g15, g16, g23⟩
                      refine wo_nil ?_
                      refine nx_norm ?_
                      have hq := cond_inv hr
                      clear hr
                      rcases hq with ⟨rfl, hr⟩ | ⟨rfl, hr⟩
                      · refine w_condT g136 ?_
                        refine w_seq ?_
                        refine w_ops ?_
                        refine wo_step (v := (.b false)) (s_pure (p_mv rfl)) ?_
                        refine wo_nil ?_
                        refine nx_norm ?_
                        refine w_ret ?_
                        refine nx_ret ?_
                        exact qf ret_ok (rt rfl rn) hr
                      · refine w_condF g136 ?_
                        refine w_skip ?_
                        refine nx_norm ?_
                        refine w_seq ?_
                        refine w_ops ?_
                        refine wo_step (v := (.i .i64 x0)) (s_pure (p_mv g0)) ?_
                        refine wo_step (v := v1) (s_pure (p_mv g1)) ?_
                        refine wo_step (v := v4) (s_pure (p_mv g4)) ?_
                        have hq := bindP_inv hr
                        clear hr
                        obtain ⟨v141, m_17, e141, hr⟩ := hq
                        refine wo_step (v := v141) (s_call (mc rfl (mc rfl (mc rfl mn))) (callM_le hM.call e141)) ?_
                        refine wo_step (v := v141) (s_pure (p_mv rfl)) ?_
                        have hq := bindO_inv hr
                        clear hr
                        obtain ⟨v142, e142, hr⟩ := hq
                        have hq := asI_inv hr
                        clear hr
                        obtain ⟨x142, rfl, hr⟩ := hq
                        refine wo_step (v := (.i .i64 x142)) (s_pure (o_ext rfl e142)) ?_
                        have hq := bindO_inv hr
                        clear hr
                        obtain ⟨v143, e143, hr⟩ := hq
                        have hq := asB_inv hr
                        clear hr
                        obtain ⟨c143, rfl, hr⟩ := hq
                        refine wo_step (v := (.b c143)) (s_pure (o_ext rfl e143)) ?_
                        have hq := bindO_inv hr
                        clear hr
                        obtain ⟨v144, e144, hr⟩ := hq
                        have hq := asI_inv hr
                        clear hr
                        obtain ⟨x144, rfl, hr⟩ := hq
                        refine wo_step (v := (.i .i64 x144)) (s_pure (o_ext rfl e144)) ?_
                        refine wo_step (v := (.b c143)) (s_pure (p_mv rfl)) ?_
                        refine wo_step (v := (.i .i64 x144)) (s_pure (p_mv rfl)) ?_
                        refine wo_nil ?_
                        refine nx_norm ?_
                        refine w_seq ?_
                        refine w_seq ?_
                        refine w_ops ?_
                        refine wo_step (v := (.i .i64 x144)) (s_pure (p_mv rfl)) ?_
                        have hq := forceB_inv hr
                        clear hr
                        obtain ⟨c146, e146, hr⟩ := hq
                        refine wo_step (v := (.b c146)) (s_pure (p_bin rfl rfl (b_eql.trans (cb e146)))) ?_
                        refine wo_step (v := (.b c146)) (s_pure (p_mv rfl)) ?_
                        have hq := bindO_inv hr
                        clear hr
                        obtain ⟨o_9, hr, hk⟩ := hq
                        refine wo_join 2 (g12_J9 x0 v1 v2 v3 v4 x44 v51 x52 m_17 o_9) ?_ ?_
                        · clear hk
                          have hq := cond_inv hr
                          clear hr
                          rcases hq with ⟨rfl, hr⟩ | ⟨rfl, hr⟩
                          · refine wo_take (v := (.b c143)) rfl (s_pure (p_mv rfl)) ?_
                            refine wo_step (v := (.b c143)) (s_pure (p_pickT rfl rfl)) ?_
                            refine wo_nil ?_
                            cases hr
                            exact ⟨_, _, rfl, rfl, gl rfl, gl g0, gl g1, gl g2, gl g3, gl g4, gl g13, gl g15, gl g16, gl g23⟩
                          · refine wo_skip (v := (.b false)) rfl rfl ?_
                            refine wo_step (v := (.b false)) (s_pure (p_pickF rfl rfl)) ?_
                            refine wo_nil ?_
                            cases hr
                            exact ⟨_, _, rfl, rfl, gl rfl, gl g0, gl g1, gl g2, gl g3, gl g4, gl g13, gl g15, gl g16, gl g23⟩
                        · clear hr
                          have hr := hk
                          clear hk
                          obtain ⟨c149, ho⟩ : ∃ z, z = o_9 := ⟨_, rfl⟩
                          subst ho
                          rintro mm_8 t_11 ⟨rfl, g149, g0, g1, g2, g3, g4, g13, g15, g16, g23⟩
                          refine wo_nil ?_
                          refine nx_norm ?_
                          have hq := bindO_inv hr
                          clear hr
                          obtain ⟨o_10, hr, hk⟩ := hq
                          refine jp_mono (J := g12_J10 x0 v1 v2 v3 x44 o_10) ?_ ?_
                          · clear hk
                            have hq := cond_inv hr
                            clear hr
                            rcases hq with ⟨rfl, hr⟩ | ⟨rfl, hr⟩
                            · refine w_condT g149 ?_
                              refine w_seq ?_
                              refine w_ops ?_
                              refine wo_step (v := (.i .i64 0)) (s_pure (p_mv rfl)) ?_
                              refine wo_nil ?_
                              refine nx_norm ?_
                              refine w_seq ?_
                              refine w_seq ?_
                              refine w_ops ?_
                              refine wo_step (v := (.i .i64 0)) (s_pure (p_mv rfl)) ?_
                              refine wo_nil ?_
                              refine nx_norm ?_
                              refine w_block ?_
                              have hq := bindO_inv hr
                              clear hr
                              obtain ⟨o_12, hl, hr⟩ := hq
                              obtain ⟨n, hl⟩ := hM.loop _ _ _ hl
                              refine jp_mono (w_loop _ (g12_I11 x0 v1 v2 v3 v4 x44 v51 x52 m_17) (g12_J11 x0 v1 v2 v3 v4 x44 v51 x52 m_17) ?_ n _ _ _ _ hl ⟨rfl, gl rfl, gl rfl, gl g0, gl g1, gl g2, gl g3, gl g4, gl g13, gl g15, gl g16, gl g23⟩) ?_
                              · clear hr hl
                                intro s mm_13 t_12 o hi hr
                                obtain ⟨x26, x27⟩ := s
                                obtain ⟨rfl, g26, g27, g0, g1, g2, g3, g4, g13, g15, g16, g23⟩ := hi
                                unfold g12_b11 at hr
                                refine w_seq ?_
                                refine w_seq ?_
                                refine w_ops ?_
                                refine wo_step (v := (.i .i64 x27)) (s_pure (p_mv g27)) ?_
                                refine wo_step (v := (.i .i64 x0)) (s_pure (p_mv g0)) ?_
                                have hq := forceB_inv hr
                                clear hr
                                obtain ⟨c152, e152, hr⟩ := hq
                                refine wo_step (v := (.b c152)) (s_pure (p_bin rfl rfl (b_lss.trans (cb e152)))) ?_
                                refine wo_step (v := (.b c152)) (s_pure (p_mv rfl)) ?_
                                have hq := bindO_inv hr
                                clear hr
                                obtain ⟨o_11, hr, hk⟩ := hq
                                refine wo_join 5 (g12_J12 x0 v1 v2 v3 v4 x44 v51 x52 x26 x27 m_17 o_11) ?_ ?_
                                · clear hk
                                  have hq := cond_inv hr
                                  clear hr
                                  rcases hq with ⟨rfl, hr⟩ | ⟨rfl, hr⟩
                                  · refine wo_take (v := (.i .i64 x27)) rfl (s_pure (p_mv g27)) ?_
                                    refine wo_take (v := v4) rfl (s_pure (p_mv g4)) ?_
                                    have hq := bindO_inv hr
                                    clear hr
                                    obtain ⟨v156, e156, hr⟩ := hq
                                    have hq := asI_inv hr
                                    clear hr
                                    obtain ⟨x156, rfl, hr⟩ := hq
                                    refine wo_take (v := (.i .i64 x156)) rfl (s_pure (o_len rfl e156)) ?_
                                    have hq := forceB_inv hr
                                    clear hr
                                    obtain ⟨c157, e157, hr⟩ := hq
                                    refine wo_take (v := (.b c157)) rfl (s_pure (p_bin rfl rfl (b_lss.trans (cb e157)))) ?_
                                    refine wo_step (v := (.b c157)) (s_pure (p_pickT rfl rfl)) ?_
                                    refine wo_nil ?_
                                    cases hr
                                    exact ⟨_, _, rfl, rfl, gl rfl, gl g0, gl g1, gl g2, gl g3, gl g4, gl g13, gl g15, gl g16, gl g23, gl g26, gl g27⟩
                                  · refine wo_skip (v := (.b false)) rfl rfl ?_
                                    refine wo_skip (v := (.b false)) rfl rfl ?_
                                    refine wo_skip (v := (.b false)) rfl rfl ?_
                                    refine wo_skip (v := (.b false)) rfl rfl ?_
                                    refine wo_step (v := (.b false)) (s_pure (p_pickF rfl rfl)) ?_
                                    refine wo_nil ?_
                                    cases hr
                                    exact ⟨_, _, rfl, rfl, gl rfl, gl g0, gl g1, gl g2, gl g3, gl g4, gl g13, gl g15, gl g16, gl g23, gl g26, gl g27⟩
                                · clear hr
                                  have hr := hk
                                  clear hk
                                  obtain ⟨c158, ho⟩ : ∃ z, z = o_11 := ⟨_, rfl⟩
                                  subst ho
                                  rintro mm_9 t_13 ⟨rfl, g158, g0, g1, g2, g3, g4, g13, g15, g16, g23, g26, g27⟩
                                  refine wo_nil ?_
                                  refine nx_norm ?_
                                  have hq := cond_inv hr
                                  clear hr
                                  rcases hq with ⟨rfl, hr⟩ | ⟨rfl, hr⟩
                                  · refine w_condT g158 ?_
                                    refine w_skip ?_
                                    refine nx_norm ?_
                                    refine w_seq ?_
                                    refine w_block ?_
                                    refine w_any ?_
                                    refine wa_step (v := (.i .i64 x26)) (a_pure (p_mv g26)) ?_
                                    refine wa_step (v := v2) (a_pure (p_mv g2)) ?_
                                    refine wa_step (v := (.i .i64 x27)) (a_pure (p_mv g27)) ?_
                                    have hq := bindO_inv hr
                                    clear hr
                                    obtain ⟨v164, e164, hr⟩ := hq
                                    refine wa_step (v := v164) (a_pure (o_ixS rfl rfl e164)) ?_
                                    have hq := bindO_inv hr
                                    clear hr
                                    obtain ⟨v165, e165, hr⟩ := hq
                                    have hq := asI_inv hr
                                    clear hr
                                    obtain ⟨x165, rfl, hr⟩ := hq
                                    refine wa_step (v := (.i .i64 x165)) (a_ld rfl e165) ?_
                                    refine wa_step (v := v4) (a_pure (p_mv g4)) ?_
                                    refine wa_step (v := (.i .i64 x27)) (a_pure (p_mv g27)) ?_
                                    have hq := bindO_inv hr
                                    clear hr
                                    obtain ⟨v168, e168, hr⟩ := hq
                                    refine wa_step (v := v168) (a_pure (o_ixS rfl rfl e168)) ?_
                                    have hq := bindO_inv hr
                                    clear hr
                                    obtain ⟨v169, e169, hr⟩ := hq
                                    have hq := asI_inv hr
                                    clear hr
                                    obtain ⟨x169, rfl, hr⟩ := hq
                                    refine wa_step (v := (.i .i64 x169)) (a_ld rfl e169) ?_
                                    have hq := forceI_inv hr
                                    clear hr
                                    obtain ⟨x170, e170, hr⟩ := hq
                                    refine wa_step (v := (.i .i64 x170)) (a_pure (p_bin rfl rfl (b_mul.trans (ci e170)))) ?_
                                    have hq := forceI_inv hr
                                    clear hr
                                    obtain ⟨x171, e171, hr⟩ := hq
                                    refine wa_step (v := (.i .i64 x171)) (a_pure (p_bin rfl rfl (b_add.trans (ci e171)))) ?_
                                    refine wa_step (v := (.i .i64 x171)) (a_pure (p_mv rfl)) ?_
                                    refine wa_nil ?_
                                    refine ⟨m_17, rfl, ?_⟩
                                    refine bk_norm ?_
                                    refine nx_norm ?_
                                    refine w_ops ?_
                                    refine wo_step (v := (.i .i64 x27)) (s_pure (p_mv g27)) ?_
                                    have hq := forceI_inv hr
                                    clear hr
                                    obtain ⟨x160, e160, hr⟩ := hq
                                    refine wo_step (v := (.i .i64 x160)) (s_pure (p_bin rfl rfl (b_add.trans (ci e160)))) ?_
                                    refine wo_step (v := (.i .i64 x160)) (s_pure (p_mv rfl)) ?_
                                    refine wo_nil ?_
                                    cases hr
                                    exact ⟨_, _, rfl, rfl, rfl, gl rfl, gl rfl, gl g0, gl g1, gl g2, gl g3, gl g4, gl g13, gl g15, gl g16, gl g23⟩
                                  · refine w_condF g158 ?_
                                    refine w_exit ?_
                                    refine nx_exit ?_
                                    cases hr
                                    exact ⟨_, _, rfl, ne_norm_exit, rfl, rfl, gl g26, gl g0, gl g1, gl g2, gl g3, gl g4, gl g13, gl g15, gl g16, gl g23⟩
                              · obtain ⟨x26_1, ho⟩ : ∃ z, z = o_12 := ⟨_, rfl⟩
                                subst ho
                                rintro _ mm_12 t_14 ⟨rfl, rfl, g26, g0, g1, g2, g3, g4, g13, g15, g16, g23⟩
                                refine bk_hit ?_
                                refine nx_norm ?_
                                refine w_seq ?_
                                refine w_ops ?_
                                refine wo_step (v := (.i .i64 x26_1)) (s_pure (p_mv g26)) ?_
                                refine wo_step (v := (.i .i64 x52)) (s_pure (p_mv g16)) ?_
                                have hq := forceB_inv hr
                                clear hr
                                obtain ⟨c174, e174, hr⟩ := hq
                                refine wo_step (v := (.b c174)) (s_pure (p_bin rfl rfl (b_gtr.trans (cb e174)))) ?_
                                refine wo_step (v := (.b c174)) (s_pure (p_mv rfl)) ?_
                                have hq := bindO_inv hr
                                clear hr
                                obtain ⟨o_13, hr, hk⟩ := hq
                                refine wo_join 9 (g12_J13 x0 v1 v2 v3 x44 o_13) ?_ ?_
                                · clear hk
                                  have hq := cond_inv hr
                                  clear hr
                                  rcases hq with ⟨rfl, hr⟩ | ⟨rfl, hr⟩
                                  · refine wo_skip (v := (.b true)) rfl rfl ?_
                                    refine wo_skip (v := (.b true)) rfl rfl ?_
                                    refine wo_skip (v := (.b true)) rfl rfl ?_
                                    refine wo_skip (v := (.b true)) rfl rfl ?_
                                    refine wo_skip (v := und) rfl rfl ?_
                                    refine wo_skip (v := und) rfl rfl ?_
                                    refine wo_skip (v := und) rfl rfl ?_
                                    refine wo_skip (v := (.b true)) rfl rfl ?_
                                    refine wo_step (v := (.b true)) (s_pure (p_pickT rfl rfl)) ?_
                                    refine wo_nil ?_
                                    cases hr
                                    exact ⟨_, _, rfl, rfl, gl rfl, gl g0, gl g1, gl g2, gl g3, gl g13, gl g23⟩
                                  · refine wo_take (v := (.i .i64 x26_1)) rfl (s_pure (p_mv g26)) ?_
                                    refine wo_take (v := (.i .i64 x52)) rfl (s_pure (p_mv g16)) ?_
                                    have hq := forceB_inv hr
                                    clear hr
                                    obtain ⟨c178, e178, hr⟩ := hq
                                    refine wo_take (v := (.b c178)) rfl (s_pure (p_bin rfl rfl (b_eql.trans (cb e178)))) ?_
                                    refine wo_take (v := (.b c178)) rfl (s_pure (p_mv rfl)) ?_
                                    have hq := bindO_inv hr
                                    clear hr
                                    obtain ⟨o_14, hr, hk⟩ := hq
                                    refine wo_join 5 (g12_J14 x0 v1 v2 v3 x44 o_14) ?_ ?_
                                    · clear hk
                                      have hq := cond_inv hr
                                      clear hr
                                      rcases hq with ⟨rfl, hr⟩ | ⟨rfl, hr⟩
                                      · refine wo_take (v := v4) rfl (s_pure (p_mv g4)) ?_
                                        refine wo_take (v := v51) rfl (s_pure (p_mv g15)) ?_
                                        have hq := bindP_inv hr
                                        clear hr
                                        obtain ⟨v182, m_20, e182, hr⟩ := hq
                                        have hq := asB_inv hr
                                        clear hr
                                        obtain ⟨c182, rfl, hr⟩ := hq
                                        refine wo_take (v := (.b c182)) rfl (s_call (mc rfl (mc rfl mn)) (callM_le hM.call e182)) ?_
                                        refine wo_take (v := (.b c182)) rfl (s_pure (p_pickT rfl rfl)) ?_
                                        refine wo_step (v := (.b c182)) (s_pure (p_pickF rfl rfl)) ?_
                                        refine wo_nil ?_
                                        cases hr
                                        exact ⟨_, _, rfl, rfl, gl rfl, gl g0, gl g1, gl g2, gl g3, gl g13, gl g23⟩
                                      · refine wo_skip (v := (.b false)) rfl rfl ?_
                                        refine wo_skip (v := (.b false)) rfl rfl ?_
                                        refine wo_skip (v := (.b false)) rfl rfl ?_
                                        refine wo_take (v := (.b false)) rfl (s_pure (p_pickF rfl rfl)) ?_
                                        refine wo_step (v := (.b false)) (s_pure (p_pickF rfl rfl)) ?_
                                        refine wo_nil ?_
                                        cases hr
                                        exact ⟨_, _, rfl, rfl, gl rfl, gl g0, gl g1, gl g2, gl g3, gl g13, gl g23⟩
                                    · clear hr
                                      have hr := hk
                                      clear hk
                                      obtain ⟨c184_1, m_19⟩ := o_14
                                      rintro mm_10 t_15 ⟨rfl, g184, g0, g1, g2, g3, g13, g23⟩
                                      refine wo_nil ?_
                                      cases hr
                                      exact ⟨_, _, rfl, rfl, gl g184, gl g0, gl g1, gl g2, gl g3, gl g13, gl g23⟩
                                · clear hr
                                  have hr := hk
                                  clear hk
                                  obtain ⟨c184, m_18⟩ := o_13
                                  rintro mm_11 t_16 ⟨rfl, g184, g0, g1, g2, g3, g13, g23⟩
                                  refine wo_nil ?_
                                  refine nx_norm ?_
                                  have hq := cond_inv hr
                                  clear hr
                                  rcases hq with ⟨rfl, hr⟩ | ⟨rfl, hr⟩
                                  · refine w_condT g184 ?_
                                    refine w_seq ?_
                                    refine w_ops ?_
                                    refine wo_step (v := (.b false)) (s_pure (p_mv rfl)) ?_
                                    refine wo_nil ?_
                                    refine nx_norm ?_
                                    refine w_ret ?_
                                    cases hr
                                    exact ⟨_, _, rfl, rfl, rfl, gl rfl⟩
                                  · refine w_condF g184 ?_
                                    refine w_skip ?_
                                    cases hr
                                    exact ⟨_, _, rfl, rfl, rfl, gl g0, gl g1, gl g2, gl g3, gl g13, gl g23⟩
                            · refine w_condF g149 ?_
                              refine w_skip ?_
                              cases hr
                              exact ⟨_, _, rfl, rfl, rfl, gl g0, gl g1, gl g2, gl g3, gl g13, gl g23⟩
                          · clear hr
                            have hr := hk
                            clear hk
                            rcases o_10 with o_10 | o_10
                            · obtain ⟨m_21, ho⟩ : ∃ z, z = o_10 := ⟨_, rfl⟩
                              subst ho
                              rintro _ mm_20 t_17 ⟨rfl, rfl, g0, g1, g2, g3, g13, g23⟩
                              refine nx_norm ?_
                              refine w_seq ?_
                              refine w_ops ?_
                              refine wo_step (v := (.i .i64 x0)) (s_pure (p_mv g0)) ?_
                              refine wo_step (v := v1) (s_pure (p_mv g1)) ?_
                              refine wo_step (v := v3) (s_pure (p_mv g3)) ?_
                              have hq := bindP_inv hr
                              clear hr
                              obtain ⟨v189, m_22, e189, hr⟩ := hq
                              refine wo_step (v := v189) (s_call (mc rfl (mc rfl (mc rfl mn))) (callM_le hM.call e189)) ?_
                              refine wo_step (v := v189) (s_pure (p_mv rfl)) ?_
                              have hq := bindO_inv hr
                              clear hr
                              obtain ⟨v190, e190, hr⟩ := hq
                              have hq := asI_inv hr
                              clear hr
                              obtain ⟨x190, rfl, hr⟩ := hq
                              refine wo_step (v := (.i .i64 x190)) (s_pure (o_ext rfl e190)) ?_
                              have hq := bindO_inv hr
                              clear hr
                              obtain ⟨v191, e191, hr⟩ := hq
                              have hq := asI_inv hr
                              clear hr
                              obtain ⟨x191, rfl, hr⟩ := hq
                              refine wo_step (v := (.i .i64 x191)) (s_pure (o_ext rfl e191)) ?_
                              refine wo_step (v := (.i .i64 x190)) (s_pure (p_mv rfl)) ?_
                              refine wo_step (v := (.i .i64 x191)) (s_pure (p_mv rfl)) ?_
                              refine wo_nil ?_
                              refine nx_norm ?_
                              refine w_seq ?_
                              refine w_seq ?_
                              refine w_ops ?_
                              refine wo_step (v := (.i .i64 x191)) (s_pure (p_mv rfl)) ?_
                              have hq := forceB_inv hr
                              clear hr
                              obtain ⟨c193, e193, hr⟩ := hq
                              refine wo_step (v := (.b c193)) (s_pure (p_bin rfl rfl (b_neq.trans (cb e193)))) ?_
                              refine wo_step (v := (.b c193)) (s_pure (p_mv rfl)) ?_
                              have hq := bindO_inv hr
                              clear hr
                              obtain ⟨o_15, hr, hk⟩ := hq
                              refine wo_join 5 (g12_J15 x0 v1 v2 v3 x44 x191 x190 o_15) ?_ ?_
                              · clear hk
                                have hq := cond_inv hr
                                clear hr
                                rcases hq with ⟨rfl, hr⟩ | ⟨rfl, hr⟩
                                · refine wo_skip (v := (.b true)) rfl rfl ?_
                                  refine wo_skip (v := (.b true)) rfl rfl ?_
                                  refine wo_skip (v := (.b true)) rfl rfl ?_
                                  refine wo_skip (v := (.b true)) rfl rfl ?_
                                  refine wo_step (v := (.b true)) (s_pure (p_pickT rfl rfl)) ?_
                                  refine wo_nil ?_
                                  cases hr
                                  exact ⟨_, _, rfl, rfl, gl rfl, gl g0, gl g1, gl g2, gl g3, gl g13, gl rfl, gl g23, gl rfl⟩
                                · refine wo_take (v := (.i .i64 x0)) rfl (s_pure (p_mv g0)) ?_
                                  refine wo_take (v := v3) rfl (s_pure (p_mv g3)) ?_
                                  have hq := bindP_inv hr
                                  clear hr
                                  obtain ⟨v197, m_24, e197, hr⟩ := hq
                                  have hq := asB_inv hr
                                  clear hr
                                  obtain ⟨c197, rfl, hr⟩ := hq
                                  refine wo_take (v := (.b c197)) rfl (s_call (mc rfl (mc rfl mn)) (callM_le hM.call e197)) ?_
                                  have hq := forceB_inv hr
                                  clear hr
                                  obtain ⟨c198, e198, hr⟩ := hq
                                  refine wo_take (v := (.b c198)) rfl (s_pure ((p_not rfl).trans (cb e198))) ?_
                                  refine wo_step (v := (.b c198)) (s_pure (p_pickF rfl rfl)) ?_
                                  refine wo_nil ?_
                                  cases hr
                                  exact ⟨_, _, rfl, rfl, gl rfl, gl g0, gl g1, gl g2, gl g3, gl g13, gl rfl, gl g23, gl rfl⟩
                              · clear hr
                                have hr := hk
                                clear hk
                                obtain ⟨c199, m_23⟩ := o_15
                                rintro mm_14 t_18 ⟨rfl, g199, g0, g1, g2, g3, g13, g14, g23, g28⟩
                                refine wo_nil ?_
                                refine nx_norm ?_
                                have hq := cond_inv hr
                                clear hr
                                rcases hq with ⟨rfl, hr⟩ | ⟨rfl, hr⟩
                                · refine w_condT g199 ?_
                                  refine w_seq ?_
                                  refine w_ops ?_
                                  refine wo_step (v := (.i .i64 x191)) (s_pure (p_mv g14)) ?_
                                  have hq := forceB_inv hr
                                  clear hr
                                  obtain ⟨c201, e201, hr⟩ := hq
                                  refine wo_step (v := (.b c201)) (s_pure (p_bin rfl rfl (b_neq.trans (cb e201)))) ?_
                                  refine wo_step (v := (.b c201)) (s_pure (p_mv rfl)) ?_
                                  have hq := bindO_inv hr
                                  clear hr
                                  obtain ⟨o_16, hr, hk⟩ := hq
                                  refine wo_join 2 (g12_J16  o_16) ?_ ?_
                                  · clear hk
                                    have hq := cond_inv hr
                                    clear hr
                                    rcases hq with ⟨rfl, hr⟩ | ⟨rfl, hr⟩
                                    · have hq := bindP_inv hr
                                      clear hr
                                      obtain ⟨v203, m_26, e203, hr⟩ := hq
                                      have hq := asB_inv hr
                                      clear hr
                                      obtain ⟨c203, rfl, hr⟩ := hq
                                      refine wo_take (v := (.b c203)) rfl (s_call mn (callM_le hM.call e203)) ?_
                                      refine wo_step (v := (.b c203)) (s_pure (p_pickT rfl rfl)) ?_
                                      refine wo_nil ?_
                                      cases hr
                                      exact ⟨_, _, rfl, rfl, gl rfl⟩
                                    · refine wo_skip (v := (.b false)) rfl rfl ?_
                                      refine wo_step (v := (.b false)) (s_pure (p_pickF rfl rfl)) ?_
                                      refine wo_nil ?_
                                      cases hr
                                      exact ⟨_, _, rfl, rfl, gl rfl⟩
                                  · clear hr
                                    have hr := hk
                                    clear hk
                                    obtain ⟨c204, m_25⟩ := o_16
                                    rintro mm_15 t_19 ⟨rfl, g204⟩
                                    refine wo_step (v := (.b c204)) (s_pure (p_mv g204)) ?_
                                    refine wo_nil ?_
                                    refine nx_norm ?_
                                    refine w_ret ?_
                                    refine nx_ret ?_
                                    exact qf ret_ok (rt rfl rn) hr
                                · refine w_condF g199 ?_
                                  refine w_skip ?_
                                  refine nx_norm ?_
                                  refine w_seq ?_
                                  refine w_seq ?_
                                  refine w_ops ?_
                                  refine wo_step (v := (.i .i64 0)) (s_pure (p_mv rfl)) ?_
                                  refine wo_nil ?_
                                  refine nx_norm ?_
                                  refine w_block ?_
                                  have hq := bindO_inv hr
                                  clear hr
                                  obtain ⟨o_17, hl_1, hr⟩ := hq
                                  obtain ⟨n_1, hl_1⟩ := hM.loop _ _ _ hl_1
                                  refine jp_mono (w_loop _ (g12_I17 x0 v1 v2 v3 x44 x190) (g12_J17 x0 v1 v2 v3 x44 x190) ?_ n_1 _ _ _ _ hl_1 ⟨rfl, gl g23, gl rfl, gl g0, gl g1, gl g2, gl g3, gl g13, gl g28⟩) ?_
                                  · clear hr hl_1
                                    intro s mm_19 t_20 o hi hr
                                    obtain ⟨v23, x29, m_27⟩ := s
                                    obtain ⟨rfl, g23, g29, g0, g1, g2, g3, g13, g28⟩ := hi
                                    unfold g12_b17 at hr
                                    refine w_seq ?_
                                    refine w_seq ?_
                                    refine w_ops ?_
                                    refine wo_step (v := (.i .i64 x29)) (s_pure (p_mv g29)) ?_
                                    refine wo_step (v := (.i .i64 x0)) (s_pure (p_mv g0)) ?_
                                    have hq := forceB_inv hr
                                    clear hr
                                    obtain ⟨c207, e207, hr⟩ := hq
                                    refine wo_step (v := (.b c207)) (s_pure (p_bin rfl rfl (b_lss.trans (cb e207)))) ?_
                                    refine wo_nil ?_
                                    refine nx_norm ?_
                                    have hq := cond_inv hr
                                    clear hr
                                    rcases hq with ⟨rfl, hr⟩ | ⟨rfl, hr⟩
                                    · refine w_condT rfl ?_
                                      refine w_skip ?_
                                      refine nx_norm ?_
                                      refine w_seq ?_
                                      refine w_block ?_
                                      refine w_seq ?_
                                      refine w_ops ?_
                                      refine wo_step (v := v23) (s_pure (p_mv g23)) ?_
                                      refine wo_step (v := v2) (s_pure (p_mv g2)) ?_
                                      refine wo_step (v := (.i .i64 x29)) (s_pure (p_mv g29)) ?_
                                      have hq := bindO_inv hr
                                      clear hr
                                      obtain ⟨v213, e213, hr⟩ := hq
                                      refine wo_step (v := v213) (s_pure (o_ixS rfl rfl e213)) ?_
                                      refine wo_step (v := v3) (s_pure (p_mv g3)) ?_
                                      refine wo_step (v := (.i .i64 x29)) (s_pure (p_mv g29)) ?_
                                      have hq := bindO_inv hr
                                      clear hr
                                      obtain ⟨v217, e217, hr⟩ := hq
                                      refine wo_step (v := v217) (s_pure (o_ixS rfl rfl e217)) ?_
                                      refine wo_nil ?_
                                      refine nx_norm ?_
                                      refine w_seq ?_
                                      refine w_any ?_
                                      have hq := bindO_inv hr
                                      clear hr
                                      obtain ⟨v214, e214, hr⟩ := hq
                                      have hq := asI_inv hr
                                      clear hr
                                      obtain ⟨x214, rfl, hr⟩ := hq
                                      refine wa_step (v := (.i .i64 x214)) (a_ld rfl e214) ?_
                                      have hq := bindO_inv hr
                                      clear hr
                                      obtain ⟨v218, e218, hr⟩ := hq
                                      have hq := asI_inv hr
                                      clear hr
                                      obtain ⟨x218, rfl, hr⟩ := hq
                                      refine wa_step (v := (.i .i64 x218)) (a_ld rfl e218) ?_
                                      refine wa_nil ?_
                                      refine ⟨m_27, rfl, ?_⟩
                                      refine nx_norm ?_
                                      refine w_ops ?_
                                      have hq := forceI_inv hr
                                      clear hr
                                      obtain ⟨x219, e219, hr⟩ := hq
                                      refine wo_step (v := (.i .i64 x219)) (s_pure (p_bin rfl rfl (b_add.trans (ci e219)))) ?_
                                      have hq := bindP_inv hr
                                      clear hr
                                      obtain ⟨v220, m_28, e220, hr⟩ := hq
                                      refine wo_step (v := v220) (s_bsl (qc rfl qn) e220) ?_
                                      have hq := bindP_inv hr
                                      clear hr
                                      obtain ⟨v221, m_29, e221, hr⟩ := hq
                                      refine wo_step (v := v221) (s_app rfl rfl e221) ?_
                                      refine wo_step (v := v221) (s_pure (p_mv rfl)) ?_
                                      refine wo_nil ?_
                                      refine bk_norm ?_
                                      refine nx_norm ?_
                                      refine w_ops ?_
                                      refine wo_step (v := (.i .i64 x29)) (s_pure (p_mv g29)) ?_
                                      have hq := forceI_inv hr
                                      clear hr
                                      obtain ⟨x209, e209, hr⟩ := hq
                                      refine wo_step (v := (.i .i64 x209)) (s_pure (p_bin rfl rfl (b_add.trans (ci e209)))) ?_
                                      refine wo_step (v := (.i .i64 x209)) (s_pure (p_mv rfl)) ?_
                                      refine wo_nil ?_
                                      cases hr
                                      exact ⟨_, _, rfl, rfl, rfl, gl rfl, gl rfl, gl g0, gl g1, gl g2, gl g3, gl g13, gl g28⟩
                                    · refine w_condF rfl ?_
                                      refine w_exit ?_
                                      refine nx_exit ?_
                                      cases hr
                                      exact ⟨_, _, rfl, ne_norm_exit, rfl, rfl, gl g23, gl g0, gl g1, gl g13, gl g28⟩
                                  · obtain ⟨v23_1, m_30⟩ := o_17
                                    rintro _ mm_18 t_21 ⟨rfl, rfl, g23, g0, g1, g13, g28⟩
                                    refine bk_hit ?_
                                    refine nx_norm ?_
                                    refine w_seq ?_
                                    refine w_ops ?_
                                    refine wo_step (v := (.i .i64 x0)) (s_pure (p_mv g0)) ?_
                                    refine wo_step (v := v1) (s_pure (p_mv g1)) ?_
                                    refine wo_step (v := v23_1) (s_pure (p_mv g23)) ?_
                                    have hq := bindP_inv hr
                                    clear hr
                                    obtain ⟨v226, m_31, e226, hr⟩ := hq
                                    refine wo_step (v := v226) (s_call (mc rfl (mc rfl (mc rfl mn))) (callM_le hM.call e226)) ?_
                                    refine wo_step (v := v226) (s_pure (p_mv rfl)) ?_
                                    have hq := bindO_inv hr
                                    clear hr
                                    obtain ⟨v227, e227, hr⟩ := hq
                                    have hq := asI_inv hr
                                    clear hr
                                    obtain ⟨x227, rfl, hr⟩ := hq
                                    refine wo_step (v := (.i .i64 x227)) (s_pure (o_ext rfl e227)) ?_
                                    have hq := bindO_inv hr
                                    clear hr
                                    obtain ⟨v228, e228, hr⟩ := hq
                                    have hq := asI_inv hr
                                    clear hr
                                    obtain ⟨x228, rfl, hr⟩ := hq
                                    refine wo_step (v := (.i .i64 x228)) (s_pure (o_ext rfl e228)) ?_
                                    refine wo_step (v := (.i .i64 x227)) (s_pure (p_mv rfl)) ?_
                                    refine wo_step (v := (.i .i64 x228)) (s_pure (p_mv rfl)) ?_
                                    refine wo_nil ?_
                                    refine nx_norm ?_
                                    refine w_seq ?_
                                    refine w_ops ?_
                                    refine wo_step (v := (.i .i64 x228)) (s_pure (p_mv rfl)) ?_
                                    have hq := forceB_inv hr
                                    clear hr
                                    obtain ⟨c230, e230, hr⟩ := hq
                                    refine wo_step (v := (.b c230)) (s_pure (p_bin rfl rfl (b_neq.trans (cb e230)))) ?_
                                    refine wo_step (v := (.b c230)) (s_pure (p_mv rfl)) ?_
                                    have hq := bindO_inv hr
                                    clear hr
                                    obtain ⟨o_18, hr, hk⟩ := hq
                                    refine wo_join 6 (g12_J18 m_31 o_18) ?_ ?_
                                    · clear hk
                                      have hq := cond_inv hr
                                      clear hr
                                      rcases hq with ⟨rfl, hr⟩ | ⟨rfl, hr⟩
                                      · refine wo_skip (v := (.b true)) rfl rfl ?_
                                        refine wo_skip (v := (.b true)) rfl rfl ?_
                                        refine wo_skip (v := (.b true)) rfl rfl ?_
                                        refine wo_skip (v := (.b true)) rfl rfl ?_
                                        refine wo_skip (v := (.b true)) rfl rfl ?_
                                        refine wo_step (v := (.b true)) (s_pure (p_pickT rfl rfl)) ?_
                                        refine wo_nil ?_
                                        cases hr
                                        exact ⟨_, _, rfl, rfl, gl rfl⟩
                                      · refine wo_take (v := (.i .i64 x227)) rfl (s_pure (p_mv rfl)) ?_
                                        refine wo_take (v := (.i .i64 x44)) rfl (s_pure (p_mv g13)) ?_
                                        refine wo_take (v := (.i .i64 x190)) rfl (s_pure (p_mv g28)) ?_
                                        have hq := forceI_inv hr
                                        clear hr
                                        obtain ⟨x235, e235, hr⟩ := hq
                                        refine wo_take (v := (.i .i64 x235)) rfl (s_pure (p_bin rfl rfl (b_add.trans (ci e235)))) ?_
                                        have hq := forceB_inv hr
                                        clear hr
                                        obtain ⟨c236, e236, hr⟩ := hq
                                        refine wo_take (v := (.b c236)) rfl (s_pure (p_bin rfl rfl (b_leq.trans (cb e236)))) ?_
                                        refine wo_step (v := (.b c236)) (s_pure (p_pickF rfl rfl)) ?_
                                        refine wo_nil ?_
                                        cases hr
                                        exact ⟨_, _, rfl, rfl, gl rfl⟩
                                    · clear hr
                                      have hr := hk
                                      clear hk
                                      obtain ⟨c237, ho⟩ : ∃ z, z = o_18 := ⟨_, rfl⟩
                                      subst ho
                                      rintro mm_16 t_22 ⟨rfl, g237⟩
                                      refine wo_step (v := (.b c237)) (s_pure (p_mv g237)) ?_
                                      have hq := bindO_inv hr
                                      clear hr
                                      obtain ⟨o_19, hr, hk⟩ := hq
                                      refine wo_join 2 (g12_J19  o_19) ?_ ?_
                                      · clear hk
                                        have hq := cond_inv hr
                                        clear hr
                                        rcases hq with ⟨rfl, hr⟩ | ⟨rfl, hr⟩
                                        · have hq := bindP_inv hr
                                          clear hr
                                          obtain ⟨v239, m_33, e239, hr⟩ := hq
                                          have hq := asB_inv hr
                                          clear hr
                                          obtain ⟨c239, rfl, hr⟩ := hq
                                          refine wo_take (v := (.b c239)) rfl (s_call mn (callM_le hM.call e239)) ?_
                                          refine wo_step (v := (.b c239)) (s_pure (p_pickT rfl rfl)) ?_
                                          refine wo_nil ?_
                                          cases hr
                                          exact ⟨_, _, rfl, rfl, gl rfl⟩
                                        · refine wo_skip (v := (.b false)) rfl rfl ?_
                                          refine wo_step (v := (.b false)) (s_pure (p_pickF rfl rfl)) ?_
                                          refine wo_nil ?_
                                          cases hr
                                          exact ⟨_, _, rfl, rfl, gl rfl⟩
                                      · clear hr
                                        have hr := hk
                                        clear hk
                                        obtain ⟨c240, m_32⟩ := o_19
                                        rintro mm_17 t_23 ⟨rfl, g240⟩
                                        refine wo_step (v := (.b c240)) (s_pure (p_mv g240)) ?_
                                        refine wo_nil ?_
                                        refine nx_norm ?_
                                        refine w_ret ?_
                                        exact qf ret_ok (rt rfl rn) hr
                            · obtain ⟨c12, m_34⟩ := o_10
                              rintro _ mm_21 t_24 ⟨rfl, rfl, g12⟩
                              refine nx_ret ?_
                              exact qf ret_ok (rt g12 rn) hr

/- dibber/dibberlaw08.few -/
abbrev g14_I0 (v0 : AVal) (m0 : Mm) (s : Int) (m1 : Mm) (t1 : Tr) : Prop :=
  match s with
  | x3 => m0 = m1 ∧ t1.get 3 = (.i .i64 x3) ∧ t1.get 0 = v0
abbrev g14_J0 (v0 : AVal) (m0 : Mm) (o : (Unit ⊕ Bool)) (e : AExit) (m1 : Mm) (t1 : Tr) : Prop :=
  match o with
  | (.inl _) => e = (.exit 0) ∧ m0 = m1
  | (.inr y2) => e = .ret ∧ m0 = m1 ∧ t1.get 2 = (.b y2)
def g14_b0 (M : Means) (ro : List ABlk) (v0 : AVal) (m0 : Mm) (x3 : Int) : Option ((Int) ⊕ ((Unit ⊕ Bool))) :=
  bindO (evP .e (.len false (.c v0))) fun v6 =>
  asI .i64 v6 fun x6 =>
  forceB (ltI x3 x6) fun c7 =>
  cond c7 (
    bindO (evP .e (.ixS 1 (.c v0) (.c (.i .i64 x3)))) fun v12 =>
    bindO (ldM ro m0 true 1 v12) fun v13 =>
    bindO (evP .e (.len false (.c v13))) fun v14 =>
    asI .i64 v14 fun x14 =>
    forceB (ltI 100 x14) fun c15 =>
    cond c15 (
      some (.inr (.inr false))) (
      forceI (wr .i64 (x3 + 1)) fun x9 =>
      some (.inl x9))) (
    some (.inr (.inl ())))
def g14 (M : Means) (ro : List ABlk) (v0 : AVal) (m0 : Mm) : Option (AVal × Heap × Nat × Nat) :=
  bindO (M.loop (S := Int) (R := (Unit ⊕ Bool)) (fun s => g14_b0 M ro v0 m0 s) 0) fun o => match o with
  | (.inl _) =>
    finM m0.h.length (tupA [(.b true)]) m0
  | (.inr c2) =>
    finM m0.h.length (tupA [(.b c2)]) m0

theorem g14_ok {ro : List ABlk} {O : Caller} {M : Means} (hM : M.Ok ⟨F, O⟩ ro) {v0 h r} (ho : O 14 [v0] h = none) (hr : g14 M ro v0 ⟨h, h.length, h.length⟩ = some r) : callX ⟨F, O⟩ ro 14 [v0] h = some r := by
  refine callX_of (F := ⟨F, O⟩) (fn := fn14) (g := g14 M ro v0) ho rfl rfl hr ?_
  clear ho
  clear hr
  intro m0 t0 ht hr
  have g0 : t0.get 0 = v0 := ht 0
  clear ht
  unfold g14 at hr
  refine w_seq ?_
  refine w_ops ?_
  refine wo_step (v := (.b false)) (s_pure (p_mv rfl)) ?_
  refine wo_nil ?_
  refine nx_norm ?_
  refine w_seq ?_
  refine w_seq ?_
  refine w_ops ?_
  refine wo_step (v := (.i .i64 0)) (s_pure (p_mv rfl)) ?_
  refine wo_nil ?_
  refine nx_norm ?_
  refine w_block ?_
  have hq := bindO_inv hr
  clear hr
  obtain ⟨o, hl, hr⟩ := hq
  obtain ⟨n, hl⟩ := hM.loop _ _ _ hl
  refine jp_mono (w_loop _ (g14_I0 v0 m0) (g14_J0 v0 m0) ?_ n _ _ _ _ hl ⟨rfl, gl rfl, gl g0⟩) ?_
  · clear hr hl
    intro s mm_2 t_1 o hi hr
    obtain ⟨x3, hs⟩ : ∃ z, z = s := ⟨_, rfl⟩
    subst hs
    obtain ⟨rfl, g3, g0⟩ := hi
    unfold g14_b0 at hr
    refine w_seq ?_
    refine w_seq ?_
    refine w_ops ?_
    refine wo_step (v := (.i .i64 x3)) (s_pure (p_mv g3)) ?_
    refine wo_step (v := v0) (s_pure (p_mv g0)) ?_
    have hq := bindO_inv hr
    clear hr
    obtain ⟨v6, e6, hr⟩ := hq
    have hq := asI_inv hr
    clear hr
    obtain ⟨x6, rfl, hr⟩ := hq
    refine wo_step (v := (.i .i64 x6)) (s_pure (o_len rfl e6)) ?_
    have hq := forceB_inv hr
    clear hr
    obtain ⟨c7, e7, hr⟩ := hq
    refine wo_step (v := (.b c7)) (s_pure (p_bin rfl rfl (b_lss.trans (cb e7)))) ?_
    refine wo_nil ?_
    refine nx_norm ?_
    have hq := cond_inv hr
    clear hr
    rcases hq with ⟨rfl, hr⟩ | ⟨rfl, hr⟩
    · refine w_condT rfl ?_
      refine w_skip ?_
      refine nx_norm ?_
      refine w_seq ?_
      refine w_block ?_
      refine w_seq ?_
      refine w_ops ?_
      refine wo_step (v := v0) (s_pure (p_mv g0)) ?_
      refine wo_step (v := (.i .i64 x3)) (s_pure (p_mv g3)) ?_
      have hq := bindO_inv hr
      clear hr
      obtain ⟨v12, e12, hr⟩ := hq
      refine wo_step (v := v12) (s_pure (o_ixS rfl rfl e12)) ?_
      have hq := bindO_inv hr
      clear hr
      obtain ⟨v13, e13, hr⟩ := hq
      refine wo_step (v := v13) (s_ld rfl e13) ?_
      have hq := bindO_inv hr
      clear hr
      obtain ⟨v14, e14, hr⟩ := hq
      have hq := asI_inv hr
      clear hr
      obtain ⟨x14, rfl, hr⟩ := hq
      refine wo_step (v := (.i .i64 x14)) (s_pure (o_len rfl e14)) ?_
      have hq := forceB_inv hr
      clear hr
      obtain ⟨c15, e15, hr⟩ := hq
      refine wo_step (v := (.b c15)) (s_pure (p_bin rfl rfl (b_gtr.trans (cb e15)))) ?_
      refine wo_nil ?_
      refine nx_norm ?_
      have hq := cond_inv hr
      clear hr
      rcases hq with ⟨rfl, hr⟩ | ⟨rfl, hr⟩
      · refine w_condT rfl ?_
        refine w_seq ?_
        refine w_ops ?_
        refine wo_step (v := (.b false)) (s_pure (p_mv rfl)) ?_
        refine wo_nil ?_
        refine nx_norm ?_
        refine w_ret ?_
        refine bk_ret ?_
        refine nx_ret ?_
        cases hr
        exact ⟨_, _, rfl, ne_norm_ret, rfl, rfl, gl rfl⟩
      · refine w_condF rfl ?_
        refine w_skip ?_
        refine bk_norm ?_
        refine nx_norm ?_
        refine w_ops ?_
        refine wo_step (v := (.i .i64 x3)) (s_pure (p_mv g3)) ?_
        have hq := forceI_inv hr
        clear hr
        obtain ⟨x9, e9, hr⟩ := hq
        refine wo_step (v := (.i .i64 x9)) (s_pure (p_bin rfl rfl (b_add.trans (ci e9)))) ?_
        refine wo_step (v := (.i .i64 x9)) (s_pure (p_mv rfl)) ?_
        refine wo_nil ?_
        cases hr
        exact ⟨_, _, rfl, rfl, rfl, gl rfl, gl g0⟩
    · refine w_condF rfl ?_
      refine w_exit ?_
      refine nx_exit ?_
      cases hr
      exact ⟨_, _, rfl, ne_norm_exit, rfl, rfl⟩
  · rcases o with o | o
    · rintro _ mm t_2 ⟨rfl, rfl⟩
      refine bk_hit ?_
      refine nx_norm ?_
      refine w_seq ?_
      refine w_ops ?_
      refine wo_step (v := (.b true)) (s_pure (p_mv rfl)) ?_
      refine wo_nil ?_
      refine nx_norm ?_
      refine w_ret ?_
      exact qf ret_ok (rt rfl rn) hr
    · obtain ⟨c2, ho⟩ : ∃ z, z = o := ⟨_, rfl⟩
      subst ho
      rintro _ mm_1 t_3 ⟨rfl, rfl, g2⟩
      refine bk_ret ?_
      refine nx_ret ?_
      exact qf ret_ok (rt g2 rn) hr

/- dibber/share.Check -/
abbrev g16_I0 (x0 : Int) (v1 : AVal) (v15 : AVal) (x16 : Int) (s : Int × Mm) (m1 : Mm) (t1 : Tr) : Prop :=
  match s with
  | (x17, m_3) => m_3 = m1 ∧ t1.get 17 = (.i .i64 x17) ∧ t1.get 0 = (.i .i64 x0) ∧ t1.get 1 = v1 ∧ t1.get 15 = v15 ∧ t1.get 16 = (.i .i64 x16)
abbrev g16_J0 (x0 : Int) (v1 : AVal) (v15 : AVal) (x16 : Int) (o : (Mm ⊕ (Int × Int × Int × Mm))) (e : AExit) (m1 : Mm) (t1 : Tr) : Prop :=
  match o with
  | (.inl mo) => e = (.exit 0) ∧ mo = m1
  | (.inr (y4, y5, y6, mo)) => e = .ret ∧ mo = m1 ∧ t1.get 4 = (.i .i64 y4) ∧ t1.get 5 = (.i .i64 y5) ∧ t1.get 6 = (.i .i64 y6)
def g16_b0 (M : Means) (ro : List ABlk) (x0 : Int) (v1 : AVal) (v15 : AVal) (x16 : Int) (x17 : Int) (m_3 : Mm) : Option ((Int × Mm) ⊕ ((Mm ⊕ (Int × Int × Int × Mm)))) :=
  forceB (ltI x17 x16) fun c18 =>
  cond c18 (
    bindO (evP .e (.ixS 1 (.c v15) (.c (.i .i64 x17)))) fun v19 =>
    bindO (ldM ro m_3 true 1 v19) fun v20 =>
    asI .i64 v20 fun x20 =>
    bindP (callM M.call m_3 46 [(.i .i64 x20)]) fun v23 m_4 =>
    bindP (callM M.call m_4 47 [v1, (.i .i64 x20)]) fun v26 m_5 =>
    bindP (stepM ro m_5 (.bsl 53 1 [AVal.nfn] 2 [((0, 1), .c v23), ((1, 1), .c v26)])) fun v27 m_6 =>
    bindP (callM M.call m_6 45 [(.i .i64 x0), v27]) fun v28 m_7 =>
    bindO (evP .e (.len false (.c v28))) fun v30 =>
    asI .i64 v30 fun x30 =>
    forceB (ltI 0 x30) fun c31 =>
    cond c31 (
      bindO (evP .e (.ixS 1 (.c v28) (.c (.i .i64 0)))) fun v34 =>
      bindO (ldM ro m_7 true 1 v34) fun v35 =>
      asI .i64 v35 fun x35 =>
      some (.inr (.inr (x20, x35, 0, m_7)))) (
      forceI (wr .i64 (x17 + 1)) fun x36 =>
      some (.inl (x36, m_7)))) (
    some (.inr (.inl m_3)))
def g16 (M : Means) (ro : List ABlk) (x0 : Int) (v1 : AVal) (m0 : Mm) : Option (AVal × Heap × Nat × Nat) :=
  bindP (callM M.call m0 44 [(.i .i64 x0), v1]) fun v12 m_1 =>
  asB v12 fun c12 =>
  forceB (!c12) fun c13 =>
  cond c13 (
    finM m0.h.length (tupA [(.i .i64 0), (.i .i64 0), (.i .i64 2)]) m_1) (
    bindP (callM M.call m_1 45 [(.i .i64 x0), AVal.nsl]) fun v15 m_2 =>
    bindO (evP .e (.len false (.c v15))) fun v16 =>
    asI .i64 v16 fun x16 =>
    bindO (M.loop (S := Int × Mm) (R := (Mm ⊕ (Int × Int × Int × Mm))) (fun s => g16_b0 M ro x0 v1 v15 x16 s.1 s.2) (0, m_2)) fun o => match o with
    | (.inl m_8) =>
      finM m0.h.length (tupA [(.i .i64 0), (.i .i64 0), (.i .i64 10)]) m_8
    | (.inr (x4, x5, x6, m_9)) =>
      finM m0.h.length (tupA [(.i .i64 x4), (.i .i64 x5), (.i .i64 x6)]) m_9)

theorem g16_ok {ro : List ABlk} {O : Caller} {M : Means} (hM : M.Ok ⟨F, O⟩ ro) {x0 v1 h r} (ho : O 16 [(.i .i64 x0), v1] h = none) (hr : g16 M ro x0 v1 ⟨h, h.length, h.length⟩ = some r) : callX ⟨F, O⟩ ro 16 [(.i .i64 x0), v1] h = some r := by
  refine callX_of (F := ⟨F, O⟩) (fn := fn16) (g := g16 M ro x0 v1) ho rfl rfl hr ?_
  clear ho
  clear hr
  intro m0 t0 ht hr
  have g0 : t0.get 0 = (.i .i64 x0) := ht 0
  have g1 : t0.get 1 = v1 := ht 1
  clear ht
  unfold g16 at hr
  refine w_seq ?_
  refine w_ops ?_
  refine wo_step (v := (.i .i64 0)) (s_pure (p_mv rfl)) ?_
  refine wo_step (v := (.i .i64 0)) (s_pure (p_mv rfl)) ?_
  refine wo_step (v := (.i .i64 0)) (s_pure (p_mv rfl)) ?_
  refine wo_nil ?_
  refine nx_norm ?_
  refine w_seq ?_
  refine w_seq ?_
  refine w_ops ?_
  refine wo_step (v := (.i .i64 x0)) (s_pure (p_mv g0)) ?_
  refine wo_step (v := v1) (s_pure (p_mv g1)) ?_
  have hq := bindP_inv hr
  clear hr
  obtain ⟨v12, m_1, e12, hr⟩ := hq
  have hq := asB_inv hr
  clear hr
  obtain ⟨c12, rfl, hr⟩ := hq
  refine wo_step (v := (.b c12)) (s_call (mc rfl (mc rfl mn)) (callM_le hM.call e12)) ?_
  have hq := forceB_inv hr
  clear hr
  obtain ⟨c13, e13, hr⟩ := hq
  refine wo_step (v := (.b c13)) (s_pure ((p_not rfl).trans (cb e13))) ?_
  refine wo_nil ?_
  refine nx_norm ?_
  have hq := cond_inv hr
  clear hr
  rcases hq with ⟨rfl, hr⟩ | ⟨rfl, hr⟩
  · refine w_condT rfl ?_
    refine w_seq ?_
    refine w_ops ?_
    refine wo_step (v := (.i .i64 0)) (s_pure (p_mv rfl)) ?_
    refine wo_step (v := (.i .i64 0)) (s_pure (p_mv rfl)) ?_
    refine wo_step (v := (.i .i64 2)) (s_pure (p_mv rfl)) ?_
    refine wo_nil ?_
    refine nx_norm ?_
    refine w_ret ?_
    refine nx_ret ?_
    exact qf ret_ok (rt rfl (rt rfl (rt rfl rn))) hr
  · refine w_condF rfl ?_
    refine w_skip ?_
    refine nx_norm ?_
    refine w_seq ?_
    refine w_seq ?_
    refine w_ops ?_
    refine wo_step (v := (.i .i64 x0)) (s_pure (p_mv g0)) ?_
    have hq := bindP_inv hr
    clear hr
    obtain ⟨v15, m_2, e15, hr⟩ := hq
    refine wo_step (v := v15) (s_call (mc rfl (mc rfl mn)) (callM_le hM.call e15)) ?_
    have hq := bindO_inv hr
    clear hr
    obtain ⟨v16, e16, hr⟩ := hq
    have hq := asI_inv hr
    clear hr
    obtain ⟨x16, rfl, hr⟩ := hq
    refine wo_step (v := (.i .i64 x16)) (s_pure (o_len rfl e16)) ?_
    refine wo_step (v := (.i .i64 0)) (s_pure (p_mv rfl)) ?_
    refine wo_nil ?_
    refine nx_norm ?_
    refine w_block ?_
    have hq := bindO_inv hr
    clear hr
    obtain ⟨o, hl, hr⟩ := hq
    obtain ⟨n, hl⟩ := hM.loop _ _ _ hl
    refine jp_mono (w_loop _ (g16_I0 x0 v1 v15 x16) (g16_J0 x0 v1 v15 x16) ?_ n _ _ _ _ hl ⟨rfl, gl rfl, gl g0, gl g1, gl rfl, gl rfl⟩) ?_
    · clear hr hl
      intro s mm_2 t_1 o hi hr
      obtain ⟨x17, m_3⟩ := s
      obtain ⟨rfl, g17, g0, g1, g15, g16⟩ := hi
      unfold g16_b0 at hr
      refine w_seq ?_
      refine w_ops ?_
      have hq := forceB_inv hr
      clear hr
      obtain ⟨c18, e18, hr⟩ := hq
      refine wo_step (v := (.b c18)) (s_pure (p_bin g17 g16 (b_lss.trans (cb e18)))) ?_
      refine wo_nil ?_
      refine nx_norm ?_
      refine w_seq ?_
      have hq := cond_inv hr
      clear hr
      rcases hq with ⟨rfl, hr⟩ | ⟨rfl, hr⟩
      · refine w_condT rfl ?_
        refine w_skip ?_
        refine nx_norm ?_
        refine w_seq ?_
        refine w_block ?_
        refine w_seq ?_
        refine w_ops ?_
        have hq := bindO_inv hr
        clear hr
        obtain ⟨v19, e19, hr⟩ := hq
        refine wo_step (v := v19) (s_pure (o_ixS g15 g17 e19)) ?_
        have hq := bindO_inv hr
        clear hr
        obtain ⟨v20, e20, hr⟩ := hq
        have hq := asI_inv hr
        clear hr
        obtain ⟨x20, rfl, hr⟩ := hq
        refine wo_step (v := (.i .i64 x20)) (s_ld rfl e20) ?_
        refine wo_step (v := (.i .i64 x20)) (s_pure (p_mv rfl)) ?_
        refine wo_nil ?_
        refine nx_norm ?_
        refine w_seq ?_
        refine w_ops ?_
        refine wo_step (v := (.i .i64 x0)) (s_pure (p_mv g0)) ?_
        refine wo_step (v := (.i .i64 x20)) (s_pure (p_mv rfl)) ?_
        have hq := bindP_inv hr
        clear hr
        obtain ⟨v23, m_4, e23, hr⟩ := hq
        refine wo_step (v := v23) (s_call (mc rfl mn) (callM_le hM.call e23)) ?_
        refine wo_step (v := v1) (s_pure (p_mv g1)) ?_
        refine wo_step (v := (.i .i64 x20)) (s_pure (p_mv rfl)) ?_
        have hq := bindP_inv hr
        clear hr
        obtain ⟨v26, m_5, e26, hr⟩ := hq
        refine wo_step (v := v26) (s_call (mc rfl (mc rfl mn)) (callM_le hM.call e26)) ?_
        have hq := bindP_inv hr
        clear hr
        obtain ⟨v27, m_6, e27, hr⟩ := hq
        refine wo_step (v := v27) (s_bsl (qc rfl (qc rfl qn)) e27) ?_
        have hq := bindP_inv hr
        clear hr
        obtain ⟨v28, m_7, e28, hr⟩ := hq
        refine wo_step (v := v28) (s_call (mc rfl (mc rfl mn)) (callM_le hM.call e28)) ?_
        refine wo_step (v := v28) (s_pure (p_mv rfl)) ?_
        refine wo_nil ?_
        refine nx_norm ?_
        refine w_seq ?_
        refine w_ops ?_
        refine wo_step (v := v28) (s_pure (p_mv rfl)) ?_
        have hq := bindO_inv hr
        clear hr
        obtain ⟨v30, e30, hr⟩ := hq
        have hq := asI_inv hr
        clear hr
        obtain ⟨x30, rfl, hr⟩ := hq
        refine wo_step (v := (.i .i64 x30)) (s_pure (o_len rfl e30)) ?_
        have hq := forceB_inv hr
        clear hr
        obtain ⟨c31, e31, hr⟩ := hq
        refine wo_step (v := (.b c31)) (s_pure (p_bin rfl rfl (b_gtr.trans (cb e31)))) ?_
        refine wo_nil ?_
        refine nx_norm ?_
        have hq := cond_inv hr
        clear hr
        rcases hq with ⟨rfl, hr⟩ | ⟨rfl, hr⟩
        · refine w_condT rfl ?_
          refine w_seq ?_
          refine w_ops ?_
          refine wo_step (v := (.i .i64 x20)) (s_pure (p_mv rfl)) ?_
          refine wo_step (v := v28) (s_pure (p_mv rfl)) ?_
          have hq := bindO_inv hr
          clear hr
          obtain ⟨v34, e34, hr⟩ := hq
          refine wo_step (v := v34) (s_pure (o_ixS rfl rfl e34)) ?_
          refine wo_step (v := (.i .i64 x20)) (s_pure (p_mv rfl)) ?_
          have hq := bindO_inv hr
          clear hr
          obtain ⟨v35, e35, hr⟩ := hq
          have hq := asI_inv hr
          clear hr
          obtain ⟨x35, rfl, hr⟩ := hq
          refine wo_step (v := (.i .i64 x35)) (s_ld rfl e35) ?_
          refine wo_step (v := (.i .i64 x35)) (s_pure (p_mv rfl)) ?_
          refine wo_step (v := (.i .i64 0)) (s_pure (p_mv rfl)) ?_
          refine wo_nil ?_
          refine nx_norm ?_
          refine w_ret ?_
          refine bk_ret ?_
          refine nx_ret ?_
          cases hr
          exact ⟨_, _, rfl, ne_norm_ret, rfl, rfl, gl rfl, gl rfl, gl rfl⟩
        · refine w_condF rfl ?_
          refine w_skip ?_
          refine bk_norm ?_
          refine nx_norm ?_
          refine w_ops ?_
          have hq := forceI_inv hr
          clear hr
          obtain ⟨x36, e36, hr⟩ := hq
          refine wo_step (v := (.i .i64 x36)) (s_pure (p_bin g17 rfl (b_add.trans (ci e36)))) ?_
          refine wo_step (v := (.i .i64 x36)) (s_pure (p_mv rfl)) ?_
          refine wo_nil ?_
          cases hr
          exact ⟨_, _, rfl, rfl, rfl, gl rfl, gl g0, gl g1, gl g15, gl g16⟩
      · refine w_condF rfl ?_
        refine w_exit ?_
        refine nx_exit ?_
        cases hr
        exact ⟨_, _, rfl, ne_norm_exit, rfl, rfl⟩
    · rcases o with o | o
      · obtain ⟨m_8, ho⟩ : ∃ z, z = o := ⟨_, rfl⟩
        subst ho
        rintro _ mm t_2 ⟨rfl, rfl⟩
        refine bk_hit ?_
        refine nx_norm ?_
        refine w_seq ?_
        refine w_ops ?_
        refine wo_step (v := (.i .i64 0)) (s_pure (p_mv rfl)) ?_
        refine wo_step (v := (.i .i64 0)) (s_pure (p_mv rfl)) ?_
        refine wo_step (v := (.i .i64 10)) (s_pure (p_mv rfl)) ?_
        refine wo_nil ?_
        refine nx_norm ?_
        refine w_ret ?_
        exact qf ret_ok (rt rfl (rt rfl (rt rfl rn))) hr
      · obtain ⟨x4, x5, x6, m_9⟩ := o
        rintro _ mm_1 t_3 ⟨rfl, rfl, g4, g5, g6⟩
        refine bk_ret ?_
        refine nx_ret ?_
        exact qf ret_ok (rt g4 (rt g5 (rt g6 rn))) hr

/- dibber/dibberref08.Check -/

def g17 (M : Means) (ro : List ABlk) (x0 : Int) (v1 : AVal) (m0 : Mm) : Option (AVal × Heap × Nat × Nat) :=
  bindP (callM M.call m0 48 [(.i .i64 x0), v1]) fun v12 m_1 =>
  asB v12 fun c12 =>
  forceB (!c12) fun c13 =>
  cond c13 (
    finM m0.h.length (tupA [(.i .i64 0), (.i .i64 0), (.i .i64 2)]) m_1) (
    bindP (callM M.call m_1 49 [v1]) fun v16 m_2 =>
    bindO (evP .e (.ext 0 (.c v16))) fun v17 =>
    asI .i64 v17 fun x17 =>
    bindO (evP .e (.ext 1 (.c v16))) fun v18 =>
    asI .i64 v18 fun x18 =>
    bindO (evP .e (.ext 2 (.c v16))) fun v19 =>
    asB v19 fun c19 =>
    forceB (!c19) fun c21 =>
    cond c21 (
      finM m0.h.length (tupA [(.i .i64 0), (.i .i64 0), (.i .i64 10)]) m_2) (
      finM m0.h.length (tupA [(.i .i64 x17), (.i .i64 x18), (.i .i64 0)]) m_2))

theorem g17_ok {ro : List ABlk} {O : Caller} {M : Means} (hM : M.Ok ⟨F, O⟩ ro) {x0 v1 h r} (ho : O 17 [(.i .i64 x0), v1] h = none) (hr : g17 M ro x0 v1 ⟨h, h.length, h.length⟩ = some r) : callX ⟨F, O⟩ ro 17 [(.i .i64 x0), v1] h = some r := by
  refine callX_of (F := ⟨F, O⟩) (fn := fn17) (g := g17 M ro x0 v1) ho rfl rfl hr ?_
  clear ho
  clear hr
  intro m0 t0 ht hr
  have g0 : t0.get 0 = (.i .i64 x0) := ht 0
  have g1 : t0.get 1 = v1 := ht 1
  clear ht
  unfold g17 at hr
  refine w_seq ?_
  refine w_ops ?_
  refine wo_step (v := (.i .i64 0)) (s_pure (p_mv rfl)) ?_
  refine wo_step (v := (.i .i64 0)) (s_pure (p_mv rfl)) ?_
  refine wo_step (v := (.i .i64 0)) (s_pure (p_mv rfl)) ?_
  refine wo_nil ?_
  refine nx_norm ?_
  refine w_seq ?_
  refine w_seq ?_
  refine w_ops ?_
  refine wo_step (v := (.i .i64 x0)) (s_pure (p_mv g0)) ?_
  refine wo_step (v := v1) (s_pure (p_mv g1)) ?_
  have hq := bindP_inv hr
  clear hr
  obtain ⟨v12, m_1, e12, hr⟩ := hq
  have hq := asB_inv hr
  clear hr
  obtain ⟨c12, rfl, hr⟩ := hq
  refine wo_step (v := (.b c12)) (s_call (mc rfl (mc rfl mn)) (callM_le hM.call e12)) ?_
  have hq := forceB_inv hr
  clear hr
  obtain ⟨c13, e13, hr⟩ := hq
  refine wo_step (v := (.b c13)) (s_pure ((p_not rfl).trans (cb e13))) ?_
  refine wo_nil ?_
  refine nx_norm ?_
  have hq := cond_inv hr
  clear hr
  rcases hq with ⟨rfl, hr⟩ | ⟨rfl, hr⟩
  · refine w_condT rfl ?_
    refine w_seq ?_
    refine w_ops ?_
    refine wo_step (v := (.i .i64 0)) (s_pure (p_mv rfl)) ?_
    refine wo_step (v := (.i .i64 0)) (s_pure (p_mv rfl)) ?_
    refine wo_step (v := (.i .i64 2)) (s_pure (p_mv rfl)) ?_
    refine wo_nil ?_
    refine nx_norm ?_
    refine w_ret ?_
    refine nx_ret ?_
    exact qf ret_ok (rt rfl (rt rfl (rt rfl rn))) hr
  · refine w_condF rfl ?_
    refine w_skip ?_
    refine nx_norm ?_
    refine w_seq ?_
    refine w_ops ?_
    refine wo_step (v := v1) (s_pure (p_mv g1)) ?_
    have hq := bindP_inv hr
    clear hr
    obtain ⟨v16, m_2, e16, hr⟩ := hq
    refine wo_step (v := v16) (s_call (mc rfl mn) (callM_le hM.call e16)) ?_
    refine wo_step (v := v16) (s_pure (p_mv rfl)) ?_
    have hq := bindO_inv hr
    clear hr
    obtain ⟨v17, e17, hr⟩ := hq
    have hq := asI_inv hr
    clear hr
    obtain ⟨x17, rfl, hr⟩ := hq
    refine wo_step (v := (.i .i64 x17)) (s_pure (o_ext rfl e17)) ?_
    have hq := bindO_inv hr
    clear hr
    obtain ⟨v18, e18, hr⟩ := hq
    have hq := asI_inv hr
    clear hr
    obtain ⟨x18, rfl, hr⟩ := hq
    refine wo_step (v := (.i .i64 x18)) (s_pure (o_ext rfl e18)) ?_
    have hq := bindO_inv hr
    clear hr
    obtain ⟨v19, e19, hr⟩ := hq
    have hq := asB_inv hr
    clear hr
    obtain ⟨c19, rfl, hr⟩ := hq
    refine wo_step (v := (.b c19)) (s_pure (o_ext rfl e19)) ?_
    refine wo_step (v := (.i .i64 x17)) (s_pure (p_mv rfl)) ?_
    refine wo_step (v := (.i .i64 x18)) (s_pure (p_mv rfl)) ?_
    refine wo_step (v := (.b c19)) (s_pure (p_mv rfl)) ?_
    refine wo_nil ?_
    refine nx_norm ?_
    refine w_seq ?_
    refine w_seq ?_
    refine w_ops ?_
    refine wo_step (v := (.b c19)) (s_pure (p_mv rfl)) ?_
    have hq := forceB_inv hr
    clear hr
    obtain ⟨c21, e21, hr⟩ := hq
    refine wo_step (v := (.b c21)) (s_pure ((p_not rfl).trans (cb e21))) ?_
    refine wo_nil ?_
    refine nx_norm ?_
    have hq := cond_inv hr
    clear hr
    rcases hq with ⟨rfl, hr⟩ | ⟨rfl, hr⟩
    · refine w_condT rfl ?_
      refine w_seq ?_
      refine w_ops ?_
      refine wo_step (v := (.i .i64 0)) (s_pure (p_mv rfl)) ?_
      refine wo_step (v := (.i .i64 0)) (s_pure (p_mv rfl)) ?_
      refine wo_step (v := (.i .i64 10)) (s_pure (p_mv rfl)) ?_
      refine wo_nil ?_
      refine nx_norm ?_
      refine w_ret ?_
      refine nx_ret ?_
      exact qf ret_ok (rt rfl (rt rfl (rt rfl rn))) hr
    · refine w_condF rfl ?_
      refine w_skip ?_
      refine nx_norm ?_
      refine w_seq ?_
      refine w_ops ?_
      refine wo_step (v := (.i .i64 x17)) (s_pure (p_mv rfl)) ?_
      refine wo_step (v := (.i .i64 x18)) (s_pure (p_mv rfl)) ?_
      refine wo_step (v := (.i .i64 x17)) (s_pure (p_mv rfl)) ?_
      refine wo_step (v := (.i .i64 x18)) (s_pure (p_mv rfl)) ?_
      refine wo_step (v := (.i .i64 0)) (s_pure (p_mv rfl)) ?_
      refine wo_nil ?_
      refine nx_norm ?_
      refine w_ret ?_
      exact qf ret_ok (rt rfl (rt rfl (rt rfl rn))) hr

/- dibber/share.Fair -/
abbrev g25_J0 (x0 : Int) (v1 : AVal) (v2 : AVal) (o : Bool × Mm) (m1 : Mm) (t1 : Tr) : Prop :=
  match o with
  | (c20, m_2) => m_2 = m1 ∧ t1.get 20 = (.b c20) ∧ t1.get 0 = (.i .i64 x0) ∧ t1.get 1 = v1 ∧ t1.get 2 = v2
def g25 (M : Means) (ro : List ABlk) (x0 : Int) (v1 : AVal) (v2 : AVal) (m0 : Mm) : Option (AVal × Heap × Nat × Nat) :=
  bindP (callM M.call m0 44 [(.i .i64 x0), v1]) fun v13 m_1 =>
  asB v13 fun c13 =>
  forceB (!c13) fun c14 =>
  bindO (cond c14 (
    some (true, m_1)) (
    bindP (callM M.call m_1 65 [(.i .i64 x0), v2]) fun v18 m_3 =>
    asB v18 fun c18 =>
    forceB (!c18) fun c19 =>
    some (c19, m_3))) fun ⟨c20, m_2⟩ =>
  cond c20 (
    finM m0.h.length (tupA [(.i .i64 0), (.b false), (.i .i64 2)]) m_2) (
    bindP (callM M.call m_2 66 [v1, v2]) fun v24 m_4 =>
    bindP (stepM ro m_4 (.bsl 53 1 [AVal.nfn] 1 [((0, 1), .c v24)])) fun v25 m_5 =>
    bindP (callM M.call m_5 45 [(.i .i64 x0), v25]) fun v26 m_6 =>
    bindO (evP .e (.len false (.c v26))) fun v28 =>
    asI .i64 v28 fun x28 =>
    forceB (ltI 0 x28) fun c29 =>
    cond c29 (
      bindO (evP .e (.ixS 1 (.c v26) (.c (.i .i64 0)))) fun v31 =>
      bindO (ldM ro m_6 true 1 v31) fun v32 =>
      asI .i64 v32 fun x32 =>
      finM m0.h.length (tupA [(.i .i64 x32), (.b false), (.i .i64 0)]) m_6) (
      chk (!ltI x0 (.ofNat 0)) <|
      forceI (shlV .i64 1 x0) fun x34 =>
      forceI (wr .i64 (x34 - 1)) fun x35 =>
      bindO (some (Mm.base m_6)) fun m_7 =>
      bindP (callM M.call m_7 67 [v2, (.i .i64 x35)]) fun v39 m_8 =>
      asI .i64 v39 fun x39 =>
      chk (!Nat.blt m_8.lw m_6.h.length) <|
      bindO (evP .e (.ixS 1 (.c v1) (.c (.i .i64 x35)))) fun v42 =>
      bindO (ldA ro m_6.h true 1 v42) fun v43 =>
      asI .i64 v43 fun x43 =>
      forceB (eqI x39 x43) fun c44 =>
      bindO (some (Mm.join m_6 m_8)) fun m_9 =>
      finM m0.h.length (tupA [(.i .i64 x35), (.b c44), (.i .i64 0)]) m_9))

theorem g25_ok {ro : List ABlk} {O : Caller} {M : Means} (hM : M.Ok ⟨F, O⟩ ro) {x0 v1 v2 h r} (ho : O 25 [(.i .i64 x0), v1, v2] h = none) (hr : g25 M ro x0 v1 v2 ⟨h, h.length, h.length⟩ = some r) : callX ⟨F, O⟩ ro 25 [(.i .i64 x0), v1, v2] h = some r := by
  refine callX_of (F := ⟨F, O⟩) (fn := fn25) (g := g25 M ro x0 v1 v2) ho rfl rfl hr ?_
  clear ho
  clear hr
  intro m0 t0 ht hr
  have g0 : t0.get 0 = (.i .i64 x0) := ht 0
  have g1 : t0.get 1 = v1 := ht 1
  have g2 : t0.get 2 = v2 := ht 2
  clear ht
  unfold g25 at hr
  refine w_seq ?_
  refine w_ops ?_
  refine wo_step (v := (.i .i64 0)) (s_pure (p_mv rfl)) ?_
  refine wo_step (v := (.b false)) (s_pure (p_mv rfl)) ?_
  refine wo_step (v := (.i .i64 0)) (s_pure (p_mv rfl)) ?_
  refine wo_nil ?_
  refine nx_norm ?_
  refine w_seq ?_
  refine w_seq ?_
  refine w_ops ?_
  refine wo_step (v := (.i .i64 x0)) (s_pure (p_mv g0)) ?_
  refine wo_step (v := v1) (s_pure (p_mv g1)) ?_
  have hq := bindP_inv hr
  clear hr
  obtain ⟨v13, m_1, e13, hr⟩ := hq
  have hq := asB_inv hr
  clear hr
  obtain ⟨c13, rfl, hr⟩ := hq
  refine wo_step (v := (.b c13)) (s_call (mc rfl (mc rfl mn)) (callM_le hM.call e13)) ?_
  have hq := forceB_inv hr
  clear hr
  obtain ⟨c14, e14, hr⟩ := hq
  refine wo_step (v := (.b c14)) (s_pure ((p_not rfl).trans (cb e14))) ?_
  refine wo_step (v := (.b c14)) (s_pure (p_mv rfl)) ?_
  have hq := bindO_inv hr
  clear hr
  obtain ⟨o, hr, hk⟩ := hq
  refine wo_join 5 (g25_J0 x0 v1 v2 o) ?_ ?_
  · clear hk
    have hq := cond_inv hr
    clear hr
    rcases hq with ⟨rfl, hr⟩ | ⟨rfl, hr⟩
    · refine wo_skip (v := (.b true)) rfl rfl ?_
      refine wo_skip (v := (.b true)) rfl rfl ?_
      refine wo_skip (v := (.b true)) rfl rfl ?_
      refine wo_skip (v := (.b true)) rfl rfl ?_
      refine wo_step (v := (.b true)) (s_pure (p_pickT rfl rfl)) ?_
      refine wo_nil ?_
      cases hr
      exact ⟨_, _, rfl, rfl, gl rfl, gl g0, gl g1, gl g2⟩
    · refine wo_take (v := (.i .i64 x0)) rfl (s_pure (p_mv g0)) ?_
      refine wo_take (v := v2) rfl (s_pure (p_mv g2)) ?_
      have hq := bindP_inv hr
      clear hr
      obtain ⟨v18, m_3, e18, hr⟩ := hq
      have hq := asB_inv hr
      clear hr
      obtain ⟨c18, rfl, hr⟩ := hq
      refine wo_take (v := (.b c18)) rfl (s_call (mc rfl (mc rfl mn)) (callM_le hM.call e18)) ?_
      have hq := forceB_inv hr
      clear hr
      obtain ⟨c19, e19, hr⟩ := hq
      refine wo_take (v := (.b c19)) rfl (s_pure ((p_not rfl).trans (cb e19))) ?_
      refine wo_step (v := (.b c19)) (s_pure (p_pickF rfl rfl)) ?_
      refine wo_nil ?_
      cases hr
      exact ⟨_, _, rfl, rfl, gl rfl, gl g0, gl g1, gl g2⟩
  · clear hr
    have hr := hk
    clear hk
    obtain ⟨c20, m_2⟩ := o
    rintro mm t_1 ⟨rfl, g20, g0, g1, g2⟩
    refine wo_nil ?_
    refine nx_norm ?_
    have hq := cond_inv hr
    clear hr
    rcases hq with ⟨rfl, hr⟩ | ⟨rfl, hr⟩
    · refine w_condT g20 ?_
      refine w_seq ?_
      refine w_ops ?_
      refine wo_step (v := (.i .i64 0)) (s_pure (p_mv rfl)) ?_
      refine wo_step (v := (.b false)) (s_pure (p_mv rfl)) ?_
      refine wo_step (v := (.i .i64 2)) (s_pure (p_mv rfl)) ?_
      refine wo_nil ?_
      refine nx_norm ?_
      refine w_ret ?_
      refine nx_ret ?_
      exact qf ret_ok (rt rfl (rt rfl (rt rfl rn))) hr
    · refine w_condF g20 ?_
      refine w_skip ?_
      refine nx_norm ?_
      refine w_seq ?_
      refine w_seq ?_
      refine w_ops ?_
      refine wo_step (v := (.i .i64 x0)) (s_pure (p_mv g0)) ?_
      refine wo_step (v := v1) (s_pure (p_mv g1)) ?_
      refine wo_step (v := v2) (s_pure (p_mv g2)) ?_
      have hq := bindP_inv hr
      clear hr
      obtain ⟨v24, m_4, e24, hr⟩ := hq
      refine wo_step (v := v24) (s_call (mc rfl (mc rfl mn)) (callM_le hM.call e24)) ?_
      have hq := bindP_inv hr
      clear hr
      obtain ⟨v25, m_5, e25, hr⟩ := hq
      refine wo_step (v := v25) (s_bsl (qc rfl qn) e25) ?_
      have hq := bindP_inv hr
      clear hr
      obtain ⟨v26, m_6, e26, hr⟩ := hq
      refine wo_step (v := v26) (s_call (mc rfl (mc rfl mn)) (callM_le hM.call e26)) ?_
      refine wo_step (v := v26) (s_pure (p_mv rfl)) ?_
      refine wo_nil ?_
      refine nx_norm ?_
      refine w_seq ?_
      refine w_ops ?_
      refine wo_step (v := v26) (s_pure (p_mv rfl)) ?_
      have hq := bindO_inv hr
      clear hr
      obtain ⟨v28, e28, hr⟩ := hq
      have hq := asI_inv hr
      clear hr
      obtain ⟨x28, rfl, hr⟩ := hq
      refine wo_step (v := (.i .i64 x28)) (s_pure (o_len rfl e28)) ?_
      have hq := forceB_inv hr
      clear hr
      obtain ⟨c29, e29, hr⟩ := hq
      refine wo_step (v := (.b c29)) (s_pure (p_bin rfl rfl (b_gtr.trans (cb e29)))) ?_
      refine wo_nil ?_
      refine nx_norm ?_
      have hq := cond_inv hr
      clear hr
      rcases hq with ⟨rfl, hr⟩ | ⟨rfl, hr⟩
      · refine w_condT rfl ?_
        refine w_seq ?_
        refine w_ops ?_
        refine wo_step (v := v26) (s_pure (p_mv rfl)) ?_
        have hq := bindO_inv hr
        clear hr
        obtain ⟨v31, e31, hr⟩ := hq
        refine wo_step (v := v31) (s_pure (o_ixS rfl rfl e31)) ?_
        have hq := bindO_inv hr
        clear hr
        obtain ⟨v32, e32, hr⟩ := hq
        have hq := asI_inv hr
        clear hr
        obtain ⟨x32, rfl, hr⟩ := hq
        refine wo_step (v := (.i .i64 x32)) (s_ld rfl e32) ?_
        refine wo_step (v := (.i .i64 x32)) (s_pure (p_mv rfl)) ?_
        refine wo_step (v := (.b false)) (s_pure (p_mv rfl)) ?_
        refine wo_step (v := (.i .i64 0)) (s_pure (p_mv rfl)) ?_
        refine wo_nil ?_
        refine nx_norm ?_
        refine w_ret ?_
        refine nx_ret ?_
        exact qf ret_ok (rt rfl (rt rfl (rt rfl rn))) hr
      · refine w_condF rfl ?_
        refine w_skip ?_
        refine nx_norm ?_
        refine w_seq ?_
        refine w_ops ?_
        refine wo_step (v := (.i .i64 x0)) (s_pure (p_mv g0)) ?_
        have hq := chk_inv hr
        clear hr
        obtain ⟨hc34, hr⟩ := hq
        have hq := forceI_inv hr
        clear hr
        obtain ⟨x34, e34, hr⟩ := hq
        refine wo_step (v := (.i .i64 x34)) (s_pure (p_bin rfl rfl ((b_shl hc34).trans (ci e34)))) ?_
        have hq := forceI_inv hr
        clear hr
        obtain ⟨x35, e35, hr⟩ := hq
        refine wo_step (v := (.i .i64 x35)) (s_pure (p_bin rfl rfl (b_sub.trans (ci e35)))) ?_
        refine wo_step (v := (.i .i64 x35)) (s_pure (p_mv rfl)) ?_
        refine wo_nil ?_
        refine nx_norm ?_
        refine w_seq ?_
        have hq := bindO_inv hr
        clear hr
        obtain ⟨m_7, ef, hr⟩ := hq
        refine w_flt (af := true) rfl ef ?_
        refine wf_step (v := (.i .i64 x35)) (f_P rfl (s_pure (p_mv rfl))) ?_
        refine wf_step (v := v2) (f_P rfl (s_pure (p_mv g2))) ?_
        refine wf_step (v := (.i .i64 x35)) (f_P rfl (s_pure (p_mv rfl))) ?_
        have hq := bindP_inv hr
        clear hr
        obtain ⟨v39, m_8, e39, hr⟩ := hq
        have hq := asI_inv hr
        clear hr
        obtain ⟨x39, rfl, hr⟩ := hq
        have hq := chk_inv hr
        clear hr
        obtain ⟨hc39, hr⟩ := hq
        refine wf_step (v := (.i .i64 x39)) (f_M hc39 (s_call (mc rfl (mc rfl mn)) (callM_le hM.call e39))) ?_
        refine wf_step (v := v1) (f_P rfl (s_pure (p_mv g1))) ?_
        refine wf_step (v := (.i .i64 x35)) (f_P rfl (s_pure (p_mv rfl))) ?_
        have hq := bindO_inv hr
        clear hr
        obtain ⟨v42, e42, hr⟩ := hq
        refine wf_step (v := v42) (f_P rfl (s_pure (o_ixS rfl rfl e42))) ?_
        have hq := bindO_inv hr
        clear hr
        obtain ⟨v43, e43, hr⟩ := hq
        have hq := asI_inv hr
        clear hr
        obtain ⟨x43, rfl, hr⟩ := hq
        refine wf_step (v := (.i .i64 x43)) (f_ld rfl e43) ?_
        have hq := forceB_inv hr
        clear hr
        obtain ⟨c44, e44, hr⟩ := hq
        refine wf_step (v := (.b c44)) (f_P rfl (s_pure (p_bin rfl rfl (b_eql.trans (cb e44))))) ?_
        refine wf_step (v := (.i .i64 x35)) (f_P rfl (s_pure (p_mv rfl))) ?_
        refine wf_step (v := (.b c44)) (f_P rfl (s_pure (p_mv rfl))) ?_
        refine wf_step (v := (.i .i64 0)) (f_P rfl (s_pure (p_mv rfl))) ?_
        have hq := bindO_inv hr
        clear hr
        obtain ⟨m_9, ef_1, hr⟩ := hq
        refine wf_end ef_1 ?_
        refine nx_norm ?_
        refine w_ret ?_
        exact qf ret_ok (rt rfl (rt rfl (rt rfl rn))) hr

/- dibber/share.Fills -/
abbrev g33_J0 (v1 : AVal) (v2 : AVal) (o : Bool × Mm) (m1 : Mm) (t1 : Tr) : Prop :=
  match o with
  | (c19, m_2) => m_2 = m1 ∧ t1.get 19 = (.b c19) ∧ t1.get 1 = v1 ∧ t1.get 2 = v2
abbrev g33_I1 (v1 : AVal) (v2 : AVal) (s : Int × Int × Mm) (m1 : Mm) (t1 : Tr) : Prop :=
  match s with
  | (x8, x9, m_4) => m_4 = m1 ∧ t1.get 8 = (.i .i64 x8) ∧ t1.get 9 = (.i .i64 x9) ∧ t1.get 1 = v1 ∧ t1.get 2 = v2
abbrev g33_J1 (v1 : AVal) (v2 : AVal) (o : (Int × Mm)) (e : AExit) (m1 : Mm) (t1 : Tr) : Prop :=
  match o with
  | (y8, mo) => e = (.exit 0) ∧ mo = m1 ∧ t1.get 8 = (.i .i64 y8)
def g33_b1 (M : Means) (ro : List ABlk) (v1 : AVal) (v2 : AVal) (x8 : Int) (x9 : Int) (m_4 : Mm) : Option ((Int × Int × Mm) ⊕ ((Int × Mm))) :=
  bindP (callM M.call m_4 79 [v2]) fun v22 m_5 =>
  asI .i64 v22 fun x22 =>
  forceB (!ltI x22 x9) fun c23 =>
  cond c23 (
    bindP (callM M.call m_5 80 [v2, (.i .i64 x9)]) fun v30 m_6 =>
    asI .i64 v30 fun x30 =>
    bindO (evP .e (.ixS 1 (.c v1) (.c (.i .i64 x30)))) fun v31 =>
    bindO (ldM ro m_6 true 1 v31) fun v32 =>
    asI .i64 v32 fun x32 =>
    forceI (wr .i64 (x8 + x32)) fun x33 =>
    forceI (wr .i64 (x9 + 1)) fun x25 =>
    some (.inl (x33, x25, m_6))) (
    some (.inr (x8, m_5)))
def g33 (M : Means) (ro : List ABlk) (x0 : Int) (v1 : AVal) (v2 : AVal) (m0 : Mm) : Option (AVal × Heap × Nat × Nat) :=
  bindP (callM M.call m0 44 [(.i .i64 x0), v1]) fun v12 m_1 =>
  asB v12 fun c12 =>
  forceB (!c12) fun c13 =>
  bindO (cond c13 (
    some (true, m_1)) (
    bindP (callM M.call m_1 78 [(.i .i64 x0), v2]) fun v17 m_3 =>
    asB v17 fun c17 =>
    forceB (!c17) fun c18 =>
    some (c18, m_3))) fun ⟨c19, m_2⟩ =>
  cond c19 (
    finM m0.h.length (tupA [(.i .i64 0), (.i .i64 2)]) m_2) (
    bindO (M.loop (S := Int × Int × Mm) (R := (Int × Mm)) (fun s => g33_b1 M ro v1 v2 s.1 s.2.1 s.2.2) (0, 1, m_2)) fun ⟨x8_1, m_7⟩ =>
    finM m0.h.length (tupA [(.i .i64 x8_1), (.i .i64 0)]) m_7)

theorem g33_ok {ro : List ABlk} {O : Caller} {M : Means} (hM : M.Ok ⟨F, O⟩ ro) {x0 v1 v2 h r} (ho : O 33 [(.i .i64 x0), v1, v2] h = none) (hr : g33 M ro x0 v1 v2 ⟨h, h.length, h.length⟩ = some r) : callX ⟨F, O⟩ ro 33 [(.i .i64 x0), v1, v2] h = some r := by
  refine callX_of (F := ⟨F, O⟩) (fn := fn33) (g := g33 M ro x0 v1 v2) ho rfl rfl hr ?_
  clear ho
  clear hr
  intro m0 t0 ht hr
  have g0 : t0.get 0 = (.i .i64 x0) := ht 0
  have g1 : t0.get 1 = v1 := ht 1
  have g2 : t0.get 2 = v2 := ht 2
  clear ht
  unfold g33 at hr
  refine w_seq ?_
  refine w_ops ?_
  refine wo_step (v := (.i .i64 0)) (s_pure (p_mv rfl)) ?_
  refine wo_step (v := (.i .i64 0)) (s_pure (p_mv rfl)) ?_
  refine wo_nil ?_
  refine nx_norm ?_
  refine w_seq ?_
  refine w_seq ?_
  refine w_ops ?_
  refine wo_step (v := (.i .i64 x0)) (s_pure (p_mv g0)) ?_
  refine wo_step (v := v1) (s_pure (p_mv g1)) ?_
  have hq := bindP_inv hr
  clear hr
  obtain ⟨v12, m_1, e12, hr⟩ := hq
  have hq := asB_inv hr
  clear hr
  obtain ⟨c12, rfl, hr⟩ := hq
  refine wo_step (v := (.b c12)) (s_call (mc rfl (mc rfl mn)) (callM_le hM.call e12)) ?_
  have hq := forceB_inv hr
  clear hr
  obtain ⟨c13, e13, hr⟩ := hq
  refine wo_step (v := (.b c13)) (s_pure ((p_not rfl).trans (cb e13))) ?_
  refine wo_step (v := (.b c13)) (s_pure (p_mv rfl)) ?_
  have hq := bindO_inv hr
  clear hr
  obtain ⟨o, hr, hk⟩ := hq
  refine wo_join 5 (g33_J0 v1 v2 o) ?_ ?_
  · clear hk
    have hq := cond_inv hr
    clear hr
    rcases hq with ⟨rfl, hr⟩ | ⟨rfl, hr⟩
    · refine wo_skip (v := (.b true)) rfl rfl ?_
      refine wo_skip (v := (.b true)) rfl rfl ?_
      refine wo_skip (v := (.b true)) rfl rfl ?_
      refine wo_skip (v := (.b true)) rfl rfl ?_
      refine wo_step (v := (.b true)) (s_pure (p_pickT rfl rfl)) ?_
      refine wo_nil ?_
      cases hr
      exact ⟨_, _, rfl, rfl, gl rfl, gl g1, gl g2⟩
    · refine wo_take (v := (.i .i64 x0)) rfl (s_pure (p_mv g0)) ?_
      refine wo_take (v := v2) rfl (s_pure (p_mv g2)) ?_
      have hq := bindP_inv hr
      clear hr
      obtain ⟨v17, m_3, e17, hr⟩ := hq
      have hq := asB_inv hr
      clear hr
      obtain ⟨c17, rfl, hr⟩ := hq
      refine wo_take (v := (.b c17)) rfl (s_call (mc rfl (mc rfl mn)) (callM_le hM.call e17)) ?_
      have hq := forceB_inv hr
      clear hr
      obtain ⟨c18, e18, hr⟩ := hq
      refine wo_take (v := (.b c18)) rfl (s_pure ((p_not rfl).trans (cb e18))) ?_
      refine wo_step (v := (.b c18)) (s_pure (p_pickF rfl rfl)) ?_
      refine wo_nil ?_
      cases hr
      exact ⟨_, _, rfl, rfl, gl rfl, gl g1, gl g2⟩
  · clear hr
    have hr := hk
    clear hk
    obtain ⟨c19, m_2⟩ := o
    rintro mm t_1 ⟨rfl, g19, g1, g2⟩
    refine wo_nil ?_
    refine nx_norm ?_
    have hq := cond_inv hr
    clear hr
    rcases hq with ⟨rfl, hr⟩ | ⟨rfl, hr⟩
    · refine w_condT g19 ?_
      refine w_seq ?_
      refine w_ops ?_
      refine wo_step (v := (.i .i64 0)) (s_pure (p_mv rfl)) ?_
      refine wo_step (v := (.i .i64 2)) (s_pure (p_mv rfl)) ?_
      refine wo_nil ?_
      refine nx_norm ?_
      refine w_ret ?_
      refine nx_ret ?_
      exact qf ret_ok (rt rfl (rt rfl rn)) hr
    · refine w_condF g19 ?_
      refine w_skip ?_
      refine nx_norm ?_
      refine w_seq ?_
      refine w_ops ?_
      refine wo_step (v := (.i .i64 0)) (s_pure (p_mv rfl)) ?_
      refine wo_nil ?_
      refine nx_norm ?_
      refine w_seq ?_
      refine w_seq ?_
      refine w_ops ?_
      refine wo_step (v := (.i .i64 1)) (s_pure (p_mv rfl)) ?_
      refine wo_nil ?_
      refine nx_norm ?_
      refine w_block ?_
      have hq := bindO_inv hr
      clear hr
      obtain ⟨o_1, hl, hr⟩ := hq
      obtain ⟨n, hl⟩ := hM.loop _ _ _ hl
      refine jp_mono (w_loop _ (g33_I1 v1 v2) (g33_J1 v1 v2) ?_ n _ _ _ _ hl ⟨rfl, gl rfl, gl rfl, gl g1, gl g2⟩) ?_
      · clear hr hl
        intro s mm_2 t_2 o hi hr
        obtain ⟨x8, x9, m_4⟩ := s
        obtain ⟨rfl, g8, g9, g1, g2⟩ := hi
        unfold g33_b1 at hr
        refine w_seq ?_
        refine w_seq ?_
        refine w_ops ?_
        refine wo_step (v := (.i .i64 x9)) (s_pure (p_mv g9)) ?_
        refine wo_step (v := v2) (s_pure (p_mv g2)) ?_
        have hq := bindP_inv hr
        clear hr
        obtain ⟨v22, m_5, e22, hr⟩ := hq
        have hq := asI_inv hr
        clear hr
        obtain ⟨x22, rfl, hr⟩ := hq
        refine wo_step (v := (.i .i64 x22)) (s_call (mc rfl mn) (callM_le hM.call e22)) ?_
        have hq := forceB_inv hr
        clear hr
        obtain ⟨c23, e23, hr⟩ := hq
        refine wo_step (v := (.b c23)) (s_pure (p_bin rfl rfl (b_leq.trans (cb e23)))) ?_
        refine wo_nil ?_
        refine nx_norm ?_
        have hq := cond_inv hr
        clear hr
        rcases hq with ⟨rfl, hr⟩ | ⟨rfl, hr⟩
        · refine w_condT rfl ?_
          refine w_skip ?_
          refine nx_norm ?_
          refine w_seq ?_
          refine w_block ?_
          refine w_ops ?_
          refine wo_step (v := (.i .i64 x8)) (s_pure (p_mv g8)) ?_
          refine wo_step (v := v1) (s_pure (p_mv g1)) ?_
          refine wo_step (v := v2) (s_pure (p_mv g2)) ?_
          refine wo_step (v := (.i .i64 x9)) (s_pure (p_mv g9)) ?_
          have hq := bindP_inv hr
          clear hr
          obtain ⟨v30, m_6, e30, hr⟩ := hq
          have hq := asI_inv hr
          clear hr
          obtain ⟨x30, rfl, hr⟩ := hq
          refine wo_step (v := (.i .i64 x30)) (s_call (mc rfl (mc rfl mn)) (callM_le hM.call e30)) ?_
          have hq := bindO_inv hr
          clear hr
          obtain ⟨v31, e31, hr⟩ := hq
          refine wo_step (v := v31) (s_pure (o_ixS rfl rfl e31)) ?_
          have hq := bindO_inv hr
          clear hr
          obtain ⟨v32, e32, hr⟩ := hq
          have hq := asI_inv hr
          clear hr
          obtain ⟨x32, rfl, hr⟩ := hq
          refine wo_step (v := (.i .i64 x32)) (s_ld rfl e32) ?_
          have hq := forceI_inv hr
          clear hr
          obtain ⟨x33, e33, hr⟩ := hq
          refine wo_step (v := (.i .i64 x33)) (s_pure (p_bin rfl rfl (b_add.trans (ci e33)))) ?_
          refine wo_step (v := (.i .i64 x33)) (s_pure (p_mv rfl)) ?_
          refine wo_nil ?_
          refine bk_norm ?_
          refine nx_norm ?_
          refine w_ops ?_
          refine wo_step (v := (.i .i64 x9)) (s_pure (p_mv g9)) ?_
          have hq := forceI_inv hr
          clear hr
          obtain ⟨x25, e25, hr⟩ := hq
          refine wo_step (v := (.i .i64 x25)) (s_pure (p_bin rfl rfl (b_add.trans (ci e25)))) ?_
          refine wo_step (v := (.i .i64 x25)) (s_pure (p_mv rfl)) ?_
          refine wo_nil ?_
          cases hr
          exact ⟨_, _, rfl, rfl, rfl, gl rfl, gl rfl, gl g1, gl g2⟩
        · refine w_condF rfl ?_
          refine w_exit ?_
          refine nx_exit ?_
          cases hr
          exact ⟨_, _, rfl, ne_norm_exit, rfl, rfl, gl g8⟩
      · obtain ⟨x8_1, m_7⟩ := o_1
        rintro _ mm_1 t_3 ⟨rfl, rfl, g8⟩
        refine bk_hit ?_
        refine nx_norm ?_
        refine w_seq ?_
        refine w_ops ?_
        refine wo_step (v := (.i .i64 x8_1)) (s_pure (p_mv g8)) ?_
        refine wo_step (v := (.i .i64 x8_1)) (s_pure (p_mv rfl)) ?_
        refine wo_step (v := (.i .i64 0)) (s_pure (p_mv rfl)) ?_
        refine wo_nil ?_
        refine nx_norm ?_
        refine w_ret ?_
        exact qf ret_ok (rt rfl (rt rfl rn)) hr

/- dibber/share.Dearest -/
abbrev g35_I0 (v5 : AVal) (v32 : AVal) (x34 : Int) (m_6 : Mm) (s : Int × Int) (m1 : Mm) (t1 : Tr) : Prop :=
  match s with
  | (x12, x35) => m_6 = m1 ∧ t1.get 12 = (.i .i64 x12) ∧ t1.get 35 = (.i .i64 x35) ∧ t1.get 5 = v5 ∧ t1.get 11 = v32 ∧ t1.get 33 = v32 ∧ t1.get 34 = (.i .i64 x34)
abbrev g35_J0 (v5 : AVal) (v32 : AVal) (x34 : Int) (m_6 : Mm) (o : Int) (e : AExit) (m1 : Mm) (t1 : Tr) : Prop :=
  match o with
  | y12 => e = (.exit 0) ∧ m_6 = m1 ∧ t1.get 12 = (.i .i64 y12) ∧ t1.get 11 = v32
def g35_b0 (M : Means) (ro : List ABlk) (v5 : AVal) (v32 : AVal) (x34 : Int) (m_6 : Mm) (x12 : Int) (x35 : Int) : Option ((Int × Int) ⊕ (Int)) :=
  forceB (ltI x35 x34) fun c36 =>
  cond c36 (
    bindO (evP .e (.ixS 1 (.c v32) (.c (.i .i64 x35)))) fun v38 =>
    bindO (ldM ro m_6 true 1 v38) fun v39 =>
    asI .i64 v39 fun x39 =>
    bindO (ldM ro m_6 true 1 v5) fun v41 =>
    bindO (evP .e (.ixS 1 (.c v41) (.c (.i .i64 x35)))) fun v43 =>
    bindO (ldM ro m_6 true 1 v43) fun v44 =>
    asI .i64 v44 fun x44 =>
    forceI (wr .i64 (x44 * x39)) fun x46 =>
    forceI (wr .i64 (x12 + x46)) fun x47 =>
    forceI (wr .i64 (x35 + 1)) fun x48 =>
    some (.inl (x47, x48))) (
    some (.inr x12))
def g35 (M : Means) (ro : List ABlk) (x0 : Int) (v1 : AVal) (v2 : AVal) (m0 : Mm) : Option (AVal × Heap × Nat × Nat) :=
  bindP (stepM ro m0 (.bx 22 1 (.c v2))) fun v5 m_1 =>
  bindP (callM M.call m_1 51 [(.i .i64 x0), v1]) fun v17 m_2 =>
  asI .i64 v17 fun x17 =>
  forceB (!eqI x17 0) fun c19 =>
  cond c19 (
    finM m0.h.length (tupA [AVal.nsl, (.i .i64 0), (.i .i64 x17)]) m_2) (
    bindO (ldM ro m_2 true 1 v5) fun v22 =>
    bindP (callM M.call m_2 78 [(.i .i64 x0), v22]) fun v23 m_3 =>
    asB v23 fun c23 =>
    forceB (!c23) fun c24 =>
    cond c24 (
      finM m0.h.length (tupA [AVal.nsl, (.i .i64 0), (.i .i64 2)]) m_3) (
      bindP (callM M.call m_3 75 [(.i .i64 x0)]) fun v26 m_4 =>
      bindO (some (AVal.fn 82 [] [v5])) fun v28 =>
      bindP (callM M.call m_4 81 [v26, v28]) fun v29 m_5 =>
      bindP (callM M.call m_5 53 [v1, v26]) fun v32 m_6 =>
      bindO (evP .e (.len false (.c v32))) fun v34 =>
      asI .i64 v34 fun x34 =>
      bindO (M.loop (S := Int × Int) (R := Int) (fun s => g35_b0 M ro v5 v32 x34 m_6 s.1 s.2) (0, 0)) fun x12_1 =>
      finM m0.h.length (tupA [v32, (.i .i64 x12_1), (.i .i64 0)]) m_6))

theorem g35_ok {ro : List ABlk} {O : Caller} {M : Means} (hM : M.Ok ⟨F, O⟩ ro) {x0 v1 v2 h r} (ho : O 35 [(.i .i64 x0), v1, v2] h = none) (hr : g35 M ro x0 v1 v2 ⟨h, h.length, h.length⟩ = some r) : callX ⟨F, O⟩ ro 35 [(.i .i64 x0), v1, v2] h = some r := by
  refine callX_of (F := ⟨F, O⟩) (fn := fn35) (g := g35 M ro x0 v1 v2) ho rfl rfl hr ?_
  clear ho
  clear hr
  intro m0 t0 ht hr
  have g0 : t0.get 0 = (.i .i64 x0) := ht 0
  have g1 : t0.get 1 = v1 := ht 1
  have g2 : t0.get 2 = v2 := ht 2
  clear ht
  unfold g35 at hr
  refine w_seq ?_
  refine w_ops ?_
  have hq := bindP_inv hr
  clear hr
  obtain ⟨v5, m_1, e5, hr⟩ := hq
  refine wo_step (v := v5) (s_bx g2 e5) ?_
  refine wo_step (v := AVal.nsl) (s_pure (p_mv rfl)) ?_
  refine wo_step (v := (.i .i64 0)) (s_pure (p_mv rfl)) ?_
  refine wo_step (v := (.i .i64 0)) (s_pure (p_mv rfl)) ?_
  refine wo_nil ?_
  refine nx_norm ?_
  refine w_seq ?_
  refine w_seq ?_
  refine w_ops ?_
  refine wo_step (v := (.i .i64 x0)) (s_pure (p_mv g0)) ?_
  refine wo_step (v := v1) (s_pure (p_mv g1)) ?_
  have hq := bindP_inv hr
  clear hr
  obtain ⟨v17, m_2, e17, hr⟩ := hq
  have hq := asI_inv hr
  clear hr
  obtain ⟨x17, rfl, hr⟩ := hq
  refine wo_step (v := (.i .i64 x17)) (s_call (mc rfl (mc rfl mn)) (callM_le hM.call e17)) ?_
  refine wo_step (v := (.i .i64 x17)) (s_pure (p_mv rfl)) ?_
  refine wo_nil ?_
  refine nx_norm ?_
  refine w_seq ?_
  refine w_ops ?_
  refine wo_step (v := (.i .i64 x17)) (s_pure (p_mv rfl)) ?_
  have hq := forceB_inv hr
  clear hr
  obtain ⟨c19, e19, hr⟩ := hq
  refine wo_step (v := (.b c19)) (s_pure (p_bin rfl rfl (b_neq.trans (cb e19)))) ?_
  refine wo_nil ?_
  refine nx_norm ?_
  have hq := cond_inv hr
  clear hr
  rcases hq with ⟨rfl, hr⟩ | ⟨rfl, hr⟩
  · refine w_condT rfl ?_
    refine w_seq ?_
    refine w_ops ?_
    refine wo_step (v := (.i .i64 x17)) (s_pure (p_mv rfl)) ?_
    refine wo_step (v := AVal.nsl) (s_pure (p_mv rfl)) ?_
    refine wo_step (v := (.i .i64 0)) (s_pure (p_mv rfl)) ?_
    refine wo_step (v := (.i .i64 x17)) (s_pure (p_mv rfl)) ?_
    refine wo_nil ?_
    refine nx_norm ?_
    refine w_ret ?_
    refine nx_ret ?_
    exact qf ret_ok (rt rfl (rt rfl (rt rfl rn))) hr
  · refine w_condF rfl ?_
    refine w_skip ?_
    refine nx_norm ?_
    refine w_seq ?_
    refine w_seq ?_
    refine w_ops ?_
    refine wo_step (v := (.i .i64 x0)) (s_pure (p_mv g0)) ?_
    have hq := bindO_inv hr
    clear hr
    obtain ⟨v22, e22, hr⟩ := hq
    refine wo_step (v := v22) (s_ld rfl e22) ?_
    have hq := bindP_inv hr
    clear hr
    obtain ⟨v23, m_3, e23, hr⟩ := hq
    have hq := asB_inv hr
    clear hr
    obtain ⟨c23, rfl, hr⟩ := hq
    refine wo_step (v := (.b c23)) (s_call (mc rfl (mc rfl mn)) (callM_le hM.call e23)) ?_
    have hq := forceB_inv hr
    clear hr
    obtain ⟨c24, e24, hr⟩ := hq
    refine wo_step (v := (.b c24)) (s_pure ((p_not rfl).trans (cb e24))) ?_
    refine wo_nil ?_
    refine nx_norm ?_
    have hq := cond_inv hr
    clear hr
    rcases hq with ⟨rfl, hr⟩ | ⟨rfl, hr⟩
    · refine w_condT rfl ?_
      refine w_seq ?_
      refine w_ops ?_
      refine wo_step (v := AVal.nsl) (s_pure (p_mv rfl)) ?_
      refine wo_step (v := (.i .i64 0)) (s_pure (p_mv rfl)) ?_
      refine wo_step (v := (.i .i64 2)) (s_pure (p_mv rfl)) ?_
      refine wo_nil ?_
      refine nx_norm ?_
      refine w_ret ?_
      refine nx_ret ?_
      exact qf ret_ok (rt rfl (rt rfl (rt rfl rn))) hr
    · refine w_condF rfl ?_
      refine w_skip ?_
      refine nx_norm ?_
      refine w_seq ?_
      refine w_ops ?_
      refine wo_step (v := (.i .i64 x0)) (s_pure (p_mv g0)) ?_
      have hq := bindP_inv hr
      clear hr
      obtain ⟨v26, m_4, e26, hr⟩ := hq
      refine wo_step (v := v26) (s_call (mc rfl mn) (callM_le hM.call e26)) ?_
      refine wo_step (v := v26) (s_pure (p_mv rfl)) ?_
      refine wo_nil ?_
      refine nx_norm ?_
      refine w_seq ?_
      refine w_ops ?_
      refine wo_step (v := v26) (s_pure (p_mv rfl)) ?_
      have hq := bindO_inv hr
      clear hr
      obtain ⟨v28, e28, hr⟩ := hq
      refine wo_step (v := v28) (s_pure ((o_mkfn mn (mc rfl mn)).trans e28)) ?_
      have hq := bindP_inv hr
      clear hr
      obtain ⟨v29, m_5, e29, hr⟩ := hq
      refine wo_step (v := v29) (s_call (mc rfl (mc rfl mn)) (callM_le hM.call e29)) ?_
      refine wo_nil ?_
      refine nx_norm ?_
      refine w_seq ?_
      refine w_ops ?_
      refine wo_step (v := v1) (s_pure (p_mv g1)) ?_
      refine wo_step (v := v26) (s_pure (p_mv rfl)) ?_
      have hq := bindP_inv hr
      clear hr
      obtain ⟨v32, m_6, e32, hr⟩ := hq
      refine wo_step (v := v32) (s_call (mc rfl (mc rfl mn)) (callM_le hM.call e32)) ?_
      refine wo_step (v := v32) (s_pure (p_mv rfl)) ?_
      refine wo_nil ?_
      refine nx_norm ?_
      refine w_seq ?_
      refine w_ops ?_
      refine wo_step (v := (.i .i64 0)) (s_pure (p_mv rfl)) ?_
      refine wo_nil ?_
      refine nx_norm ?_
      refine w_seq ?_
      refine w_seq ?_
      refine w_ops ?_
      refine wo_step (v := v32) (s_pure (p_mv rfl)) ?_
      have hq := bindO_inv hr
      clear hr
      obtain ⟨v34, e34, hr⟩ := hq
      have hq := asI_inv hr
      clear hr
      obtain ⟨x34, rfl, hr⟩ := hq
      refine wo_step (v := (.i .i64 x34)) (s_pure (o_len rfl e34)) ?_
      refine wo_step (v := (.i .i64 0)) (s_pure (p_mv rfl)) ?_
      refine wo_nil ?_
      refine nx_norm ?_
      refine w_block ?_
      have hq := bindO_inv hr
      clear hr
      obtain ⟨o, hl, hr⟩ := hq
      obtain ⟨n, hl⟩ := hM.loop _ _ _ hl
      refine jp_mono (w_loop _ (g35_I0 v5 v32 x34 m_6) (g35_J0 v5 v32 x34 m_6) ?_ n _ _ _ _ hl ⟨rfl, gl rfl, gl rfl, gl rfl, gl rfl, gl rfl, gl rfl⟩) ?_
      · clear hr hl
        intro s mm_1 t_1 o hi hr
        obtain ⟨x12, x35⟩ := s
        obtain ⟨rfl, g12, g35, g5, g11, g33, g34⟩ := hi
        unfold g35_b0 at hr
        refine w_seq ?_
        refine w_ops ?_
        have hq := forceB_inv hr
        clear hr
        obtain ⟨c36, e36, hr⟩ := hq
        refine wo_step (v := (.b c36)) (s_pure (p_bin g35 g34 (b_lss.trans (cb e36)))) ?_
        refine wo_nil ?_
        refine nx_norm ?_
        refine w_seq ?_
        have hq := cond_inv hr
        clear hr
        rcases hq with ⟨rfl, hr⟩ | ⟨rfl, hr⟩
        · refine w_condT rfl ?_
          refine w_skip ?_
          refine nx_norm ?_
          refine w_seq ?_
          refine w_block ?_
          refine w_seq ?_
          refine w_ops ?_
          refine wo_step (v := (.i .i64 x35)) (s_pure (p_mv g35)) ?_
          have hq := bindO_inv hr
          clear hr
          obtain ⟨v38, e38, hr⟩ := hq
          refine wo_step (v := v38) (s_pure (o_ixS g33 g35 e38)) ?_
          have hq := bindO_inv hr
          clear hr
          obtain ⟨v39, e39, hr⟩ := hq
          have hq := asI_inv hr
          clear hr
          obtain ⟨x39, rfl, hr⟩ := hq
          refine wo_step (v := (.i .i64 x39)) (s_ld rfl e39) ?_
          refine wo_step (v := (.i .i64 x35)) (s_pure (p_mv rfl)) ?_
          refine wo_step (v := (.i .i64 x39)) (s_pure (p_mv rfl)) ?_
          refine wo_nil ?_
          refine nx_norm ?_
          refine w_ops ?_
          refine wo_step (v := (.i .i64 x12)) (s_pure (p_mv g12)) ?_
          have hq := bindO_inv hr
          clear hr
          obtain ⟨v41, e41, hr⟩ := hq
          refine wo_step (v := v41) (s_ld g5 e41) ?_
          refine wo_step (v := (.i .i64 x35)) (s_pure (p_mv rfl)) ?_
          have hq := bindO_inv hr
          clear hr
          obtain ⟨v43, e43, hr⟩ := hq
          refine wo_step (v := v43) (s_pure (o_ixS rfl rfl e43)) ?_
          have hq := bindO_inv hr
          clear hr
          obtain ⟨v44, e44, hr⟩ := hq
          have hq := asI_inv hr
          clear hr
          obtain ⟨x44, rfl, hr⟩ := hq
          refine wo_step (v := (.i .i64 x44)) (s_ld rfl e44) ?_
          refine wo_step (v := (.i .i64 x39)) (s_pure (p_mv rfl)) ?_
          have hq := forceI_inv hr
          clear hr
          obtain ⟨x46, e46, hr⟩ := hq
          refine wo_step (v := (.i .i64 x46)) (s_pure (p_bin rfl rfl (b_mul.trans (ci e46)))) ?_
          have hq := forceI_inv hr
          clear hr
          obtain ⟨x47, e47, hr⟩ := hq
          refine wo_step (v := (.i .i64 x47)) (s_pure (p_bin rfl rfl (b_add.trans (ci e47)))) ?_
          refine wo_step (v := (.i .i64 x47)) (s_pure (p_mv rfl)) ?_
          refine wo_nil ?_
          refine bk_norm ?_
          refine nx_norm ?_
          refine w_ops ?_
          have hq := forceI_inv hr
          clear hr
          obtain ⟨x48, e48, hr⟩ := hq
          refine wo_step (v := (.i .i64 x48)) (s_pure (p_bin g35 rfl (b_add.trans (ci e48)))) ?_
          refine wo_step (v := (.i .i64 x48)) (s_pure (p_mv rfl)) ?_
          refine wo_nil ?_
          cases hr
          exact ⟨_, _, rfl, rfl, rfl, gl rfl, gl rfl, gl g5, gl g11, gl g33, gl g34⟩
        · refine w_condF rfl ?_
          refine w_exit ?_
          refine nx_exit ?_
          cases hr
          exact ⟨_, _, rfl, ne_norm_exit, rfl, rfl, gl g12, gl g11⟩
      · obtain ⟨x12_1, ho⟩ : ∃ z, z = o := ⟨_, rfl⟩
        subst ho
        rintro _ mm t_2 ⟨rfl, rfl, g12, g11⟩
        refine bk_hit ?_
        refine nx_norm ?_
        refine w_seq ?_
        refine w_ops ?_
        refine wo_step (v := v32) (s_pure (p_mv g11)) ?_
        refine wo_step (v := (.i .i64 x12_1)) (s_pure (p_mv g12)) ?_
        refine wo_step (v := v32) (s_pure (p_mv rfl)) ?_
        refine wo_step (v := (.i .i64 x12_1)) (s_pure (p_mv rfl)) ?_
        refine wo_step (v := (.i .i64 0)) (s_pure (p_mv rfl)) ?_
        refine wo_nil ?_
        refine nx_norm ?_
        refine w_ret ?_
        exact qf ret_ok (rt rfl (rt rfl (rt rfl rn))) hr

/- dibber/dibberlaw08.submodular -/

def g39 (M : Means) (ro : List ABlk) (x0 : Int) (v1 : AVal) (m0 : Mm) : Option (AVal × Heap × Nat × Nat) :=
  bindP (callM M.call m0 17 [(.i .i64 x0), v1]) fun v11 m_1 =>
  bindO (evP .e (.ext 0 (.c v11))) fun v12 =>
  asI .i64 v12 fun x12 =>
  bindO (evP .e (.ext 1 (.c v11))) fun v13 =>
  asI .i64 v13 fun x13 =>
  bindO (evP .e (.ext 2 (.c v11))) fun v14 =>
  asI .i64 v14 fun x14 =>
  forceB (eqI x14 10) fun c16 =>
  finM m0.h.length (tupA [(.b c16)]) m_1

theorem g39_ok {ro : List ABlk} {O : Caller} {M : Means} (hM : M.Ok ⟨F, O⟩ ro) {x0 v1 h r} (ho : O 39 [(.i .i64 x0), v1] h = none) (hr : g39 M ro x0 v1 ⟨h, h.length, h.length⟩ = some r) : callX ⟨F, O⟩ ro 39 [(.i .i64 x0), v1] h = some r := by
  refine callX_of (F := ⟨F, O⟩) (fn := fn39) (g := g39 M ro x0 v1) ho rfl rfl hr ?_
  clear ho
  clear hr
  intro m0 t0 ht hr
  have g0 : t0.get 0 = (.i .i64 x0) := ht 0
  have g1 : t0.get 1 = v1 := ht 1
  clear ht
  unfold g39 at hr
  refine w_seq ?_
  refine w_ops ?_
  refine wo_step (v := (.b false)) (s_pure (p_mv rfl)) ?_
  refine wo_nil ?_
  refine nx_norm ?_
  refine w_seq ?_
  refine w_ops ?_
  refine wo_step (v := (.i .i64 x0)) (s_pure (p_mv g0)) ?_
  refine wo_step (v := v1) (s_pure (p_mv g1)) ?_
  have hq := bindP_inv hr
  clear hr
  obtain ⟨v11, m_1, e11, hr⟩ := hq
  refine wo_step (v := v11) (s_call (mc rfl (mc rfl mn)) (callM_le hM.call e11)) ?_
  refine wo_step (v := v11) (s_pure (p_mv rfl)) ?_
  have hq := bindO_inv hr
  clear hr
  obtain ⟨v12, e12, hr⟩ := hq
  have hq := asI_inv hr
  clear hr
  obtain ⟨x12, rfl, hr⟩ := hq
  refine wo_step (v := (.i .i64 x12)) (s_pure (o_ext rfl e12)) ?_
  have hq := bindO_inv hr
  clear hr
  obtain ⟨v13, e13, hr⟩ := hq
  have hq := asI_inv hr
  clear hr
  obtain ⟨x13, rfl, hr⟩ := hq
  refine wo_step (v := (.i .i64 x13)) (s_pure (o_ext rfl e13)) ?_
  have hq := bindO_inv hr
  clear hr
  obtain ⟨v14, e14, hr⟩ := hq
  have hq := asI_inv hr
  clear hr
  obtain ⟨x14, rfl, hr⟩ := hq
  refine wo_step (v := (.i .i64 x14)) (s_pure (o_ext rfl e14)) ?_
  refine wo_step (v := (.i .i64 x12)) (s_pure (p_mv rfl)) ?_
  refine wo_step (v := (.i .i64 x13)) (s_pure (p_mv rfl)) ?_
  refine wo_step (v := (.i .i64 x14)) (s_pure (p_mv rfl)) ?_
  refine wo_nil ?_
  refine nx_norm ?_
  refine w_seq ?_
  refine w_ops ?_
  refine wo_step (v := (.i .i64 x14)) (s_pure (p_mv rfl)) ?_
  have hq := forceB_inv hr
  clear hr
  obtain ⟨c16, e16, hr⟩ := hq
  refine wo_step (v := (.b c16)) (s_pure (p_bin rfl rfl (b_eql.trans (cb e16)))) ?_
  refine wo_step (v := (.b c16)) (s_pure (p_mv rfl)) ?_
  refine wo_nil ?_
  refine nx_norm ?_
  refine w_ret ?_
  exact qf ret_ok (rt rfl rn) hr

/- dibber/dibberlaw08.before -/
abbrev g42_I0 (v0 : AVal) (v1 : AVal) (m0 : Mm) (s : Int) (m1 : Mm) (t1 : Tr) : Prop :=
  match s with
  | x5 => m0 = m1 ∧ t1.get 5 = (.i .i64 x5) ∧ t1.get 0 = v0 ∧ t1.get 1 = v1
abbrev g42_J0 (v0 : AVal) (v1 : AVal) (m0 : Mm) (o : (Unit ⊕ Bool)) (e : AExit) (m1 : Mm) (t1 : Tr) : Prop :=
  match o with
  | (.inl _) => e = (.exit 0) ∧ m0 = m1
  | (.inr y4) => e = .ret ∧ m0 = m1 ∧ t1.get 4 = (.b y4)
abbrev g42_J1 (v0 : AVal) (v1 : AVal) (x5 : Int) (m0 : Mm) (o : Bool) (m1 : Mm) (t1 : Tr) : Prop :=
  match o with
  | c15 => m0 = m1 ∧ t1.get 15 = (.b c15) ∧ t1.get 0 = v0 ∧ t1.get 1 = v1 ∧ t1.get 5 = (.i .i64 x5)
def g42_b0 (M : Means) (ro : List ABlk) (v0 : AVal) (v1 : AVal) (m0 : Mm) (x5 : Int) : Option ((Int) ⊕ ((Unit ⊕ Bool))) :=
  bindO (evP .e (.len false (.c v0))) fun v8 =>
  asI .i64 v8 fun x8 =>
  forceB (ltI x5 x8) fun c9 =>
  bindO (cond c9 (
    bindO (evP .e (.len false (.c v1))) fun v13 =>
    asI .i64 v13 fun x13 =>
    forceB (ltI x5 x13) fun c14 =>
    some c14) (
    some false)) fun c15 =>
  cond c15 (
    bindO (evP .e (.ixS 1 (.c v0) (.c (.i .i64 x5)))) fun v20 =>
    bindO (ldA ro m0.h true 1 v20) fun v21 =>
    asI .i64 v21 fun x21 =>
    bindO (evP .e (.ixS 1 (.c v1) (.c (.i .i64 x5)))) fun v24 =>
    bindO (ldA ro m0.h true 1 v24) fun v25 =>
    asI .i64 v25 fun x25 =>
    forceB (!eqI x21 x25) fun c26 =>
    cond c26 (
      bindO (evP .e (.ixS 1 (.c v0) (.c (.i .i64 x5)))) fun v29 =>
      bindO (ldA ro m0.h true 1 v29) fun v30 =>
      asI .i64 v30 fun x30 =>
      bindO (evP .e (.ixS 1 (.c v1) (.c (.i .i64 x5)))) fun v33 =>
      bindO (ldA ro m0.h true 1 v33) fun v34 =>
      asI .i64 v34 fun x34 =>
      forceB (ltI x30 x34) fun c35 =>
      some (.inr (.inr c35))) (
      forceI (wr .i64 (x5 + 1)) fun x17 =>
      some (.inl x17))) (
    some (.inr (.inl ())))
def g42 (M : Means) (ro : List ABlk) (v0 : AVal) (v1 : AVal) (m0 : Mm) : Option (AVal × Heap × Nat × Nat) :=
  bindO (M.loop (S := Int) (R := (Unit ⊕ Bool)) (fun s => g42_b0 M ro v0 v1 m0 s) 0) fun o_1 => match o_1 with
  | (.inl _) =>
    finM m0.h.length (tupA [(.b false)]) m0
  | (.inr c4) =>
    finM m0.h.length (tupA [(.b c4)]) m0

theorem g42_ok {ro : List ABlk} {O : Caller} {M : Means} (hM : M.Ok ⟨F, O⟩ ro) {v0 v1 h r} (ho : O 42 [v0, v1] h = none) (hr : g42 M ro v0 v1 ⟨h, h.length, h.length⟩ = some r) : callX ⟨F, O⟩ ro 42 [v0, v1] h = some r := by
  refine callX_of (F := ⟨F, O⟩) (fn := fn42) (g := g42 M ro v0 v1) ho rfl rfl hr ?_
  clear ho
  clear hr
  intro m0 t0 ht hr
  have g0 : t0.get 0 = v0 := ht 0
  have g1 : t0.get 1 = v1 := ht 1
  clear ht
  unfold g42 at hr
  refine w_seq ?_
  refine w_ops ?_
  refine wo_step (v := (.b false)) (s_pure (p_mv rfl)) ?_
  refine wo_nil ?_
  refine nx_norm ?_
  refine w_seq ?_
  refine w_seq ?_
  refine w_ops ?_
  refine wo_step (v := (.i .i64 0)) (s_pure (p_mv rfl)) ?_
  refine wo_nil ?_
  refine nx_norm ?_
  refine w_block ?_
  have hq := bindO_inv hr
  clear hr
  obtain ⟨o_1, hl, hr⟩ := hq
  obtain ⟨n, hl⟩ := hM.loop _ _ _ hl
  refine jp_mono (w_loop _ (g42_I0 v0 v1 m0) (g42_J0 v0 v1 m0) ?_ n _ _ _ _ hl ⟨rfl, gl rfl, gl g0, gl g1⟩) ?_
  · clear hr hl
    intro s mm_3 t_1 o hi hr
    obtain ⟨x5, hs⟩ : ∃ z, z = s := ⟨_, rfl⟩
    subst hs
    obtain ⟨rfl, g5, g0, g1⟩ := hi
    unfold g42_b0 at hr
    refine w_seq ?_
    refine w_seq ?_
    refine w_ops ?_
    refine wo_step (v := (.i .i64 x5)) (s_pure (p_mv g5)) ?_
    refine wo_step (v := v0) (s_pure (p_mv g0)) ?_
    have hq := bindO_inv hr
    clear hr
    obtain ⟨v8, e8, hr⟩ := hq
    have hq := asI_inv hr
    clear hr
    obtain ⟨x8, rfl, hr⟩ := hq
    refine wo_step (v := (.i .i64 x8)) (s_pure (o_len rfl e8)) ?_
    have hq := forceB_inv hr
    clear hr
    obtain ⟨c9, e9, hr⟩ := hq
    refine wo_step (v := (.b c9)) (s_pure (p_bin rfl rfl (b_lss.trans (cb e9)))) ?_
    refine wo_step (v := (.b c9)) (s_pure (p_mv rfl)) ?_
    have hq := bindO_inv hr
    clear hr
    obtain ⟨o, hr, hk⟩ := hq
    refine wo_join 5 (g42_J1 v0 v1 x5 m0 o) ?_ ?_
    · clear hk
      have hq := cond_inv hr
      clear hr
      rcases hq with ⟨rfl, hr⟩ | ⟨rfl, hr⟩
      · refine wo_take (v := (.i .i64 x5)) rfl (s_pure (p_mv g5)) ?_
        refine wo_take (v := v1) rfl (s_pure (p_mv g1)) ?_
        have hq := bindO_inv hr
        clear hr
        obtain ⟨v13, e13, hr⟩ := hq
        have hq := asI_inv hr
        clear hr
        obtain ⟨x13, rfl, hr⟩ := hq
        refine wo_take (v := (.i .i64 x13)) rfl (s_pure (o_len rfl e13)) ?_
        have hq := forceB_inv hr
        clear hr
        obtain ⟨c14, e14, hr⟩ := hq
        refine wo_take (v := (.b c14)) rfl (s_pure (p_bin rfl rfl (b_lss.trans (cb e14)))) ?_
        refine wo_step (v := (.b c14)) (s_pure (p_pickT rfl rfl)) ?_
        refine wo_nil ?_
        cases hr
        exact ⟨_, _, rfl, rfl, gl rfl, gl g0, gl g1, gl g5⟩
      · refine wo_skip (v := (.b false)) rfl rfl ?_
        refine wo_skip (v := (.b false)) rfl rfl ?_
        refine wo_skip (v := (.b false)) rfl rfl ?_
        refine wo_skip (v := (.b false)) rfl rfl ?_
        refine wo_step (v := (.b false)) (s_pure (p_pickF rfl rfl)) ?_
        refine wo_nil ?_
        cases hr
        exact ⟨_, _, rfl, rfl, gl rfl, gl g0, gl g1, gl g5⟩
    · clear hr
      have hr := hk
      clear hk
      obtain ⟨c15, ho⟩ : ∃ z, z = o := ⟨_, rfl⟩
      subst ho
      rintro mm t_2 ⟨rfl, g15, g0, g1, g5⟩
      refine wo_nil ?_
      refine nx_norm ?_
      have hq := cond_inv hr
      clear hr
      rcases hq with ⟨rfl, hr⟩ | ⟨rfl, hr⟩
      · refine w_condT g15 ?_
        refine w_skip ?_
        refine nx_norm ?_
        refine w_seq ?_
        refine w_block ?_
        refine w_seq ?_
        refine w_any ?_
        refine wa_step (v := v0) (a_pure (p_mv g0)) ?_
        refine wa_step (v := (.i .i64 x5)) (a_pure (p_mv g5)) ?_
        have hq := bindO_inv hr
        clear hr
        obtain ⟨v20, e20, hr⟩ := hq
        refine wa_step (v := v20) (a_pure (o_ixS rfl rfl e20)) ?_
        have hq := bindO_inv hr
        clear hr
        obtain ⟨v21, e21, hr⟩ := hq
        have hq := asI_inv hr
        clear hr
        obtain ⟨x21, rfl, hr⟩ := hq
        refine wa_step (v := (.i .i64 x21)) (a_ld rfl e21) ?_
        refine wa_step (v := v1) (a_pure (p_mv g1)) ?_
        refine wa_step (v := (.i .i64 x5)) (a_pure (p_mv g5)) ?_
        have hq := bindO_inv hr
        clear hr
        obtain ⟨v24, e24, hr⟩ := hq
        refine wa_step (v := v24) (a_pure (o_ixS rfl rfl e24)) ?_
        have hq := bindO_inv hr
        clear hr
        obtain ⟨v25, e25, hr⟩ := hq
        have hq := asI_inv hr
        clear hr
        obtain ⟨x25, rfl, hr⟩ := hq
        refine wa_step (v := (.i .i64 x25)) (a_ld rfl e25) ?_
        have hq := forceB_inv hr
        clear hr
        obtain ⟨c26, e26, hr⟩ := hq
        refine wa_step (v := (.b c26)) (a_pure (p_bin rfl rfl (b_neq.trans (cb e26)))) ?_
        refine wa_nil ?_
        refine ⟨m0, rfl, ?_⟩
        refine nx_norm ?_
        have hq := cond_inv hr
        clear hr
        rcases hq with ⟨rfl, hr⟩ | ⟨rfl, hr⟩
        · refine w_condT rfl ?_
          refine w_seq ?_
          refine w_any ?_
          refine wa_step (v := v0) (a_pure (p_mv g0)) ?_
          refine wa_step (v := (.i .i64 x5)) (a_pure (p_mv g5)) ?_
          have hq := bindO_inv hr
          clear hr
          obtain ⟨v29, e29, hr⟩ := hq
          refine wa_step (v := v29) (a_pure (o_ixS rfl rfl e29)) ?_
          have hq := bindO_inv hr
          clear hr
          obtain ⟨v30, e30, hr⟩ := hq
          have hq := asI_inv hr
          clear hr
          obtain ⟨x30, rfl, hr⟩ := hq
          refine wa_step (v := (.i .i64 x30)) (a_ld rfl e30) ?_
          refine wa_step (v := v1) (a_pure (p_mv g1)) ?_
          refine wa_step (v := (.i .i64 x5)) (a_pure (p_mv g5)) ?_
          have hq := bindO_inv hr
          clear hr
          obtain ⟨v33, e33, hr⟩ := hq
          refine wa_step (v := v33) (a_pure (o_ixS rfl rfl e33)) ?_
          have hq := bindO_inv hr
          clear hr
          obtain ⟨v34, e34, hr⟩ := hq
          have hq := asI_inv hr
          clear hr
          obtain ⟨x34, rfl, hr⟩ := hq
          refine wa_step (v := (.i .i64 x34)) (a_ld rfl e34) ?_
          have hq := forceB_inv hr
          clear hr
          obtain ⟨c35, e35, hr⟩ := hq
          refine wa_step (v := (.b c35)) (a_pure (p_bin rfl rfl (b_lss.trans (cb e35)))) ?_
          refine wa_step (v := (.b c35)) (a_pure (p_mv rfl)) ?_
          refine wa_nil ?_
          refine ⟨m0, rfl, ?_⟩
          refine nx_norm ?_
          refine w_ret ?_
          refine bk_ret ?_
          refine nx_ret ?_
          cases hr
          exact ⟨_, _, rfl, ne_norm_ret, rfl, rfl, gl rfl⟩
        · refine w_condF rfl ?_
          refine w_skip ?_
          refine bk_norm ?_
          refine nx_norm ?_
          refine w_ops ?_
          refine wo_step (v := (.i .i64 x5)) (s_pure (p_mv g5)) ?_
          have hq := forceI_inv hr
          clear hr
          obtain ⟨x17, e17, hr⟩ := hq
          refine wo_step (v := (.i .i64 x17)) (s_pure (p_bin rfl rfl (b_add.trans (ci e17)))) ?_
          refine wo_step (v := (.i .i64 x17)) (s_pure (p_mv rfl)) ?_
          refine wo_nil ?_
          cases hr
          exact ⟨_, _, rfl, rfl, rfl, gl rfl, gl g0, gl g1⟩
      · refine w_condF g15 ?_
        refine w_exit ?_
        refine nx_exit ?_
        cases hr
        exact ⟨_, _, rfl, ne_norm_exit, rfl, rfl⟩
  · rcases o_1 with o_1 | o_1
    · rintro _ mm_1 t_3 ⟨rfl, rfl⟩
      refine bk_hit ?_
      refine nx_norm ?_
      refine w_seq ?_
      refine w_ops ?_
      refine wo_step (v := (.b false)) (s_pure (p_mv rfl)) ?_
      refine wo_nil ?_
      refine nx_norm ?_
      refine w_ret ?_
      exact qf ret_ok (rt rfl rn) hr
    · obtain ⟨c4, ho⟩ : ∃ z, z = o_1 := ⟨_, rfl⟩
      subst ho
      rintro _ mm_2 t_4 ⟨rfl, rfl, g4⟩
      refine bk_ret ?_
      refine nx_ret ?_
      exact qf ret_ok (rt g4 rn) hr

/- dibber/dibberref08.Weights -/
abbrev g43_I0 (x0 : Int) (v1 : AVal) (m0 : Mm) (s : Int) (m1 : Mm) (t1 : Tr) : Prop :=
  match s with
  | x5 => m0 = m1 ∧ t1.get 5 = (.i .i64 x5) ∧ t1.get 0 = (.i .i64 x0) ∧ t1.get 1 = v1
abbrev g43_J0 (x0 : Int) (v1 : AVal) (m0 : Mm) (o : (Unit ⊕ Bool)) (e : AExit) (m1 : Mm) (t1 : Tr) : Prop :=
  match o with
  | (.inl _) => e = (.exit 0) ∧ m0 = m1
  | (.inr y4) => e = .ret ∧ m0 = m1 ∧ t1.get 4 = (.b y4)
abbrev g43_J1 (x0 : Int) (v1 : AVal) (x5 : Int) (m0 : Mm) (o : Bool) (m1 : Mm) (t1 : Tr) : Prop :=
  match o with
  | c26 => m0 = m1 ∧ t1.get 26 = (.b c26) ∧ t1.get 0 = (.i .i64 x0) ∧ t1.get 1 = v1 ∧ t1.get 5 = (.i .i64 x5)
def g43_b0 (M : Means) (ro : List ABlk) (x0 : Int) (v1 : AVal) (m0 : Mm) (x5 : Int) : Option ((Int) ⊕ ((Unit ⊕ Bool))) :=
  forceB (ltI x5 x0) fun c12 =>
  cond c12 (
    bindO (evP .e (.ixS 1 (.c v1) (.c (.i .i64 x5)))) fun v17 =>
    bindO (ldM ro m0 true 1 v17) fun v18 =>
    asI .i64 v18 fun x18 =>
    forceB (ltI x18 0) fun c19 =>
    bindO (cond c19 (
      some true) (
      bindO (evP .e (.ixS 1 (.c v1) (.c (.i .i64 x5)))) fun v23 =>
      bindO (ldM ro m0 true 1 v23) fun v24 =>
      asI .i64 v24 fun x24 =>
      forceB (ltI 1000 x24) fun c25 =>
      some c25)) fun c26 =>
    cond c26 (
      some (.inr (.inr false))) (
      forceI (wr .i64 (x5 + 1)) fun x14 =>
      some (.inl x14))) (
    some (.inr (.inl ())))
def g43 (M : Means) (ro : List ABlk) (x0 : Int) (v1 : AVal) (m0 : Mm) : Option (AVal × Heap × Nat × Nat) :=
  bindO (evP .e (.len false (.c v1))) fun v7 =>
  asI .i64 v7 fun x7 =>
  forceB (!eqI x7 x0) fun c9 =>
  cond c9 (
    finM m0.h.length (tupA [(.b false)]) m0) (
    bindO (M.loop (S := Int) (R := (Unit ⊕ Bool)) (fun s => g43_b0 M ro x0 v1 m0 s) 0) fun o_1 => match o_1 with
    | (.inl _) =>
      finM m0.h.length (tupA [(.b true)]) m0
    | (.inr c4) =>
      finM m0.h.length (tupA [(.b c4)]) m0)

theorem g43_ok {ro : List ABlk} {O : Caller} {M : Means} (hM : M.Ok ⟨F, O⟩ ro) {x0 v1 h r} (ho : O 43 [(.i .i64 x0), v1] h = none) (hr : g43 M ro x0 v1 ⟨h, h.length, h.length⟩ = some r) : callX ⟨F, O⟩ ro 43 [(.i .i64 x0), v1] h = some r := by
  refine callX_of (F := ⟨F, O⟩) (fn := fn43) (g := g43 M ro x0 v1) ho rfl rfl hr ?_
  clear ho
  clear hr
  intro m0 t0 ht hr
  have g0 : t0.get 0 = (.i .i64 x0) := ht 0
  have g1 : t0.get 1 = v1 := ht 1
  clear ht
  unfold g43 at hr
  refine w_seq ?_
  refine w_ops ?_
  refine wo_step (v := (.b false)) (s_pure (p_mv rfl)) ?_
  refine wo_nil ?_
  refine nx_norm ?_
  refine w_seq ?_
  refine w_seq ?_
  refine w_ops ?_
  refine wo_step (v := v1) (s_pure (p_mv g1)) ?_
  have hq := bindO_inv hr
  clear hr
  obtain ⟨v7, e7, hr⟩ := hq
  have hq := asI_inv hr
  clear hr
  obtain ⟨x7, rfl, hr⟩ := hq
  refine wo_step (v := (.i .i64 x7)) (s_pure (o_len rfl e7)) ?_
  refine wo_step (v := (.i .i64 x0)) (s_pure (p_mv g0)) ?_
  have hq := forceB_inv hr
  clear hr
  obtain ⟨c9, e9, hr⟩ := hq
  refine wo_step (v := (.b c9)) (s_pure (p_bin rfl rfl (b_neq.trans (cb e9)))) ?_
  refine wo_nil ?_
  refine nx_norm ?_
  have hq := cond_inv hr
  clear hr
  rcases hq with ⟨rfl, hr⟩ | ⟨rfl, hr⟩
  · refine w_condT rfl ?_
    refine w_seq ?_
    refine w_ops ?_
    refine wo_step (v := (.b false)) (s_pure (p_mv rfl)) ?_
    refine wo_nil ?_
    refine nx_norm ?_
    refine w_ret ?_
    refine nx_ret ?_
    exact qf ret_ok (rt rfl rn) hr
  · refine w_condF rfl ?_
    refine w_skip ?_
    refine nx_norm ?_
    refine w_seq ?_
    refine w_seq ?_
    refine w_ops ?_
    refine wo_step (v := (.i .i64 0)) (s_pure (p_mv rfl)) ?_
    refine wo_nil ?_
    refine nx_norm ?_
    refine w_block ?_
    have hq := bindO_inv hr
    clear hr
    obtain ⟨o_1, hl, hr⟩ := hq
    obtain ⟨n, hl⟩ := hM.loop _ _ _ hl
    refine jp_mono (w_loop _ (g43_I0 x0 v1 m0) (g43_J0 x0 v1 m0) ?_ n _ _ _ _ hl ⟨rfl, gl rfl, gl g0, gl g1⟩) ?_
    · clear hr hl
      intro s mm_3 t_1 o hi hr
      obtain ⟨x5, hs⟩ : ∃ z, z = s := ⟨_, rfl⟩
      subst hs
      obtain ⟨rfl, g5, g0, g1⟩ := hi
      unfold g43_b0 at hr
      refine w_seq ?_
      refine w_seq ?_
      refine w_ops ?_
      refine wo_step (v := (.i .i64 x5)) (s_pure (p_mv g5)) ?_
      refine wo_step (v := (.i .i64 x0)) (s_pure (p_mv g0)) ?_
      have hq := forceB_inv hr
      clear hr
      obtain ⟨c12, e12, hr⟩ := hq
      refine wo_step (v := (.b c12)) (s_pure (p_bin rfl rfl (b_lss.trans (cb e12)))) ?_
      refine wo_nil ?_
      refine nx_norm ?_
      have hq := cond_inv hr
      clear hr
      rcases hq with ⟨rfl, hr⟩ | ⟨rfl, hr⟩
      · refine w_condT rfl ?_
        refine w_skip ?_
        refine nx_norm ?_
        refine w_seq ?_
        refine w_block ?_
        refine w_seq ?_
        refine w_ops ?_
        refine wo_step (v := v1) (s_pure (p_mv g1)) ?_
        refine wo_step (v := (.i .i64 x5)) (s_pure (p_mv g5)) ?_
        have hq := bindO_inv hr
        clear hr
        obtain ⟨v17, e17, hr⟩ := hq
        refine wo_step (v := v17) (s_pure (o_ixS rfl rfl e17)) ?_
        have hq := bindO_inv hr
        clear hr
        obtain ⟨v18, e18, hr⟩ := hq
        have hq := asI_inv hr
        clear hr
        obtain ⟨x18, rfl, hr⟩ := hq
        refine wo_step (v := (.i .i64 x18)) (s_ld rfl e18) ?_
        have hq := forceB_inv hr
        clear hr
        obtain ⟨c19, e19, hr⟩ := hq
        refine wo_step (v := (.b c19)) (s_pure (p_bin rfl rfl (b_lss.trans (cb e19)))) ?_
        refine wo_step (v := (.b c19)) (s_pure (p_mv rfl)) ?_
        have hq := bindO_inv hr
        clear hr
        obtain ⟨o, hr, hk⟩ := hq
        refine wo_join 6 (g43_J1 x0 v1 x5 m0 o) ?_ ?_
        · clear hk
          have hq := cond_inv hr
          clear hr
          rcases hq with ⟨rfl, hr⟩ | ⟨rfl, hr⟩
          · refine wo_skip (v := (.b true)) rfl rfl ?_
            refine wo_skip (v := (.b true)) rfl rfl ?_
            refine wo_skip (v := (.b true)) rfl rfl ?_
            refine wo_skip (v := (.b true)) rfl rfl ?_
            refine wo_skip (v := (.b true)) rfl rfl ?_
            refine wo_step (v := (.b true)) (s_pure (p_pickT rfl rfl)) ?_
            refine wo_nil ?_
            cases hr
            exact ⟨_, _, rfl, rfl, gl rfl, gl g0, gl g1, gl g5⟩
          · refine wo_take (v := v1) rfl (s_pure (p_mv g1)) ?_
            refine wo_take (v := (.i .i64 x5)) rfl (s_pure (p_mv g5)) ?_
            have hq := bindO_inv hr
            clear hr
            obtain ⟨v23, e23, hr⟩ := hq
            refine wo_take (v := v23) rfl (s_pure (o_ixS rfl rfl e23)) ?_
            have hq := bindO_inv hr
            clear hr
            obtain ⟨v24, e24, hr⟩ := hq
            have hq := asI_inv hr
            clear hr
            obtain ⟨x24, rfl, hr⟩ := hq
            refine wo_take (v := (.i .i64 x24)) rfl (s_ld rfl e24) ?_
            have hq := forceB_inv hr
            clear hr
            obtain ⟨c25, e25, hr⟩ := hq
            refine wo_take (v := (.b c25)) rfl (s_pure (p_bin rfl rfl (b_gtr.trans (cb e25)))) ?_
            refine wo_step (v := (.b c25)) (s_pure (p_pickF rfl rfl)) ?_
            refine wo_nil ?_
            cases hr
            exact ⟨_, _, rfl, rfl, gl rfl, gl g0, gl g1, gl g5⟩
        · clear hr
          have hr := hk
          clear hk
          obtain ⟨c26, ho⟩ : ∃ z, z = o := ⟨_, rfl⟩
          subst ho
          rintro mm t_2 ⟨rfl, g26, g0, g1, g5⟩
          refine wo_nil ?_
          refine nx_norm ?_
          have hq := cond_inv hr
          clear hr
          rcases hq with ⟨rfl, hr⟩ | ⟨rfl, hr⟩
          · refine w_condT g26 ?_
            refine w_seq ?_
            refine w_ops ?_
            refine wo_step (v := (.b false)) (s_pure (p_mv rfl)) ?_
            refine wo_nil ?_
            refine nx_norm ?_
            refine w_ret ?_
            refine bk_ret ?_
            refine nx_ret ?_
            cases hr
            exact ⟨_, _, rfl, ne_norm_ret, rfl, rfl, gl rfl⟩
          · refine w_condF g26 ?_
            refine w_skip ?_
            refine bk_norm ?_
            refine nx_norm ?_
            refine w_ops ?_
            refine wo_step (v := (.i .i64 x5)) (s_pure (p_mv g5)) ?_
            have hq := forceI_inv hr
            clear hr
            obtain ⟨x14, e14, hr⟩ := hq
            refine wo_step (v := (.i .i64 x14)) (s_pure (p_bin rfl rfl (b_add.trans (ci e14)))) ?_
            refine wo_step (v := (.i .i64 x14)) (s_pure (p_mv rfl)) ?_
            refine wo_nil ?_
            cases hr
            exact ⟨_, _, rfl, rfl, rfl, gl rfl, gl g0, gl g1⟩
      · refine w_condF rfl ?_
        refine w_exit ?_
        refine nx_exit ?_
        cases hr
        exact ⟨_, _, rfl, ne_norm_exit, rfl, rfl⟩
    · rcases o_1 with o_1 | o_1
      · rintro _ mm_1 t_3 ⟨rfl, rfl⟩
        refine bk_hit ?_
        refine nx_norm ?_
        refine w_seq ?_
        refine w_ops ?_
        refine wo_step (v := (.b true)) (s_pure (p_mv rfl)) ?_
        refine wo_nil ?_
        refine nx_norm ?_
        refine w_ret ?_
        exact qf ret_ok (rt rfl rn) hr
      · obtain ⟨c4, ho⟩ : ∃ z, z = o_1 := ⟨_, rfl⟩
        subst ho
        rintro _ mm_2 t_4 ⟨rfl, rfl, g4⟩
        refine bk_ret ?_
        refine nx_ret ?_
        exact qf ret_ok (rt g4 rn) hr

/- dibber/share.isCost -/
abbrev g44_J0 (v1 : AVal) (m_1 : Mm) (o : Bool) (m1 : Mm) (t1 : Tr) : Prop :=
  match o with
  | c13 => m_1 = m1 ∧ t1.get 13 = (.b c13) ∧ t1.get 1 = v1
abbrev g44_J1 (v1 : AVal) (m_1 : Mm) (o : Bool) (m1 : Mm) (t1 : Tr) : Prop :=
  match o with
  | c19 => m_1 = m1 ∧ t1.get 19 = (.b c19) ∧ t1.get 1 = v1
abbrev g44_J2  (o : Bool × Mm) (m1 : Mm) (t1 : Tr) : Prop :=
  match o with
  | (c23, m_2) => m_2 = m1 ∧ t1.get 23 = (.b c23)
def g44 (M : Means) (ro : List ABlk) (x0 : Int) (v1 : AVal) (m0 : Mm) : Option (AVal × Heap × Nat × Nat) :=
  bindP (callM M.call m0 84 [(.i .i64 x0)]) fun v6 m_1 =>
  asB v6 fun c6 =>
  bindO (cond c6 (
    bindO (evP .e (.len false (.c v1))) fun v9 =>
    asI .i64 v9 fun x9 =>
    chk (!ltI x0 (.ofNat 0)) <|
    forceI (shlV .i64 1 x0) fun x11 =>
    forceB (eqI x9 x11) fun c12 =>
    some c12) (
    some false)) fun c13 =>
  bindO (cond c13 (
    bindO (evP .e (.ixS 1 (.c v1) (.c (.i .i64 0)))) fun v16 =>
    bindO (ldM ro m_1 true 1 v16) fun v17 =>
    asI .i64 v17 fun x17 =>
    forceB (eqI x17 0) fun c18 =>
    some c18) (
    some false)) fun c19 =>
  bindO (cond c19 (
    bindP (callM M.call m_1 87 [v1, (.i .i64 1000000)]) fun v22 m_3 =>
    asB v22 fun c22 =>
    some (c22, m_3)) (
    some (false, m_1))) fun ⟨c23, m_2⟩ =>
  finM m0.h.length (tupA [(.b c23)]) m_2

theorem g44_ok {ro : List ABlk} {O : Caller} {M : Means} (hM : M.Ok ⟨F, O⟩ ro) {x0 v1 h r} (ho : O 44 [(.i .i64 x0), v1] h = none) (hr : g44 M ro x0 v1 ⟨h, h.length, h.length⟩ = some r) : callX ⟨F, O⟩ ro 44 [(.i .i64 x0), v1] h = some r := by
  refine callX_of (F := ⟨F, O⟩) (fn := fn44) (g := g44 M ro x0 v1) ho rfl rfl hr ?_
  clear ho
  clear hr
  intro m0 t0 ht hr
  have g0 : t0.get 0 = (.i .i64 x0) := ht 0
  have g1 : t0.get 1 = v1 := ht 1
  clear ht
  unfold g44 at hr
  refine w_seq ?_
  refine w_ops ?_
  refine wo_step (v := (.b false)) (s_pure (p_mv rfl)) ?_
  refine wo_nil ?_
  refine nx_norm ?_
  refine w_seq ?_
  refine w_ops ?_
  refine wo_step (v := (.i .i64 x0)) (s_pure (p_mv g0)) ?_
  have hq := bindP_inv hr
  clear hr
  obtain ⟨v6, m_1, e6, hr⟩ := hq
  have hq := asB_inv hr
  clear hr
  obtain ⟨c6, rfl, hr⟩ := hq
  refine wo_step (v := (.b c6)) (s_call (mc rfl mn) (callM_le hM.call e6)) ?_
  refine wo_step (v := (.b c6)) (s_pure (p_mv rfl)) ?_
  have hq := bindO_inv hr
  clear hr
  obtain ⟨o, hr, hk⟩ := hq
  refine wo_join 6 (g44_J0 v1 m_1 o) ?_ ?_
  · clear hk
    have hq := cond_inv hr
    clear hr
    rcases hq with ⟨rfl, hr⟩ | ⟨rfl, hr⟩
    · refine wo_take (v := v1) rfl (s_pure (p_mv g1)) ?_
      have hq := bindO_inv hr
      clear hr
      obtain ⟨v9, e9, hr⟩ := hq
      have hq := asI_inv hr
      clear hr
      obtain ⟨x9, rfl, hr⟩ := hq
      refine wo_take (v := (.i .i64 x9)) rfl (s_pure (o_len rfl e9)) ?_
      refine wo_take (v := (.i .i64 x0)) rfl (s_pure (p_mv g0)) ?_
      have hq := chk_inv hr
      clear hr
      obtain ⟨hc11, hr⟩ := hq
      have hq := forceI_inv hr
      clear hr
      obtain ⟨x11, e11, hr⟩ := hq
      refine wo_take (v := (.i .i64 x11)) rfl (s_pure (p_bin rfl rfl ((b_shl hc11).trans (ci e11)))) ?_
      have hq := forceB_inv hr
      clear hr
      obtain ⟨c12, e12, hr⟩ := hq
      refine wo_take (v := (.b c12)) rfl (s_pure (p_bin rfl rfl (b_eql.trans (cb e12)))) ?_
      refine wo_step (v := (.b c12)) (s_pure (p_pickT rfl rfl)) ?_
      refine wo_nil ?_
      cases hr
      exact ⟨_, _, rfl, rfl, gl rfl, gl g1⟩
    · refine wo_skip (v := (.b false)) rfl rfl ?_
      refine wo_skip (v := (.b false)) rfl rfl ?_
      refine wo_skip (v := (.b false)) rfl rfl ?_
      refine wo_skip (v := (.b false)) rfl rfl ?_
      refine wo_skip (v := (.b false)) rfl rfl ?_
      refine wo_step (v := (.b false)) (s_pure (p_pickF rfl rfl)) ?_
      refine wo_nil ?_
      cases hr
      exact ⟨_, _, rfl, rfl, gl rfl, gl g1⟩
  · clear hr
    have hr := hk
    clear hk
    obtain ⟨c13, ho⟩ : ∃ z, z = o := ⟨_, rfl⟩
    subst ho
    rintro mm t_1 ⟨rfl, g13, g1⟩
    refine wo_step (v := (.b c13)) (s_pure (p_mv g13)) ?_
    have hq := bindO_inv hr
    clear hr
    obtain ⟨o_1, hr, hk⟩ := hq
    refine wo_join 5 (g44_J1 v1 m_1 o_1) ?_ ?_
    · clear hk
      have hq := cond_inv hr
      clear hr
      rcases hq with ⟨rfl, hr⟩ | ⟨rfl, hr⟩
      · refine wo_take (v := v1) rfl (s_pure (p_mv g1)) ?_
        have hq := bindO_inv hr
        clear hr
        obtain ⟨v16, e16, hr⟩ := hq
        refine wo_take (v := v16) rfl (s_pure (o_ixS rfl rfl e16)) ?_
        have hq := bindO_inv hr
        clear hr
        obtain ⟨v17, e17, hr⟩ := hq
        have hq := asI_inv hr
        clear hr
        obtain ⟨x17, rfl, hr⟩ := hq
        refine wo_take (v := (.i .i64 x17)) rfl (s_ld rfl e17) ?_
        have hq := forceB_inv hr
        clear hr
        obtain ⟨c18, e18, hr⟩ := hq
        refine wo_take (v := (.b c18)) rfl (s_pure (p_bin rfl rfl (b_eql.trans (cb e18)))) ?_
        refine wo_step (v := (.b c18)) (s_pure (p_pickT rfl rfl)) ?_
        refine wo_nil ?_
        cases hr
        exact ⟨_, _, rfl, rfl, gl rfl, gl g1⟩
      · refine wo_skip (v := (.b false)) rfl rfl ?_
        refine wo_skip (v := (.b false)) rfl rfl ?_
        refine wo_skip (v := (.b false)) rfl rfl ?_
        refine wo_skip (v := (.b false)) rfl rfl ?_
        refine wo_step (v := (.b false)) (s_pure (p_pickF rfl rfl)) ?_
        refine wo_nil ?_
        cases hr
        exact ⟨_, _, rfl, rfl, gl rfl, gl g1⟩
    · clear hr
      have hr := hk
      clear hk
      obtain ⟨c19, ho⟩ : ∃ z, z = o_1 := ⟨_, rfl⟩
      subst ho
      rintro mm_1 t_2 ⟨rfl, g19, g1⟩
      refine wo_step (v := (.b c19)) (s_pure (p_mv g19)) ?_
      have hq := bindO_inv hr
      clear hr
      obtain ⟨o_2, hr, hk⟩ := hq
      refine wo_join 3 (g44_J2  o_2) ?_ ?_
      · clear hk
        have hq := cond_inv hr
        clear hr
        rcases hq with ⟨rfl, hr⟩ | ⟨rfl, hr⟩
        · refine wo_take (v := v1) rfl (s_pure (p_mv g1)) ?_
          have hq := bindP_inv hr
          clear hr
          obtain ⟨v22, m_3, e22, hr⟩ := hq
          have hq := asB_inv hr
          clear hr
          obtain ⟨c22, rfl, hr⟩ := hq
          refine wo_take (v := (.b c22)) rfl (s_call (mc rfl (mc rfl mn)) (callM_le hM.call e22)) ?_
          refine wo_step (v := (.b c22)) (s_pure (p_pickT rfl rfl)) ?_
          refine wo_nil ?_
          cases hr
          exact ⟨_, _, rfl, rfl, gl rfl⟩
        · refine wo_skip (v := (.b false)) rfl rfl ?_
          refine wo_skip (v := (.b false)) rfl rfl ?_
          refine wo_step (v := (.b false)) (s_pure (p_pickF rfl rfl)) ?_
          refine wo_nil ?_
          cases hr
          exact ⟨_, _, rfl, rfl, gl rfl⟩
      · clear hr
        have hr := hk
        clear hk
        obtain ⟨c23, m_2⟩ := o_2
        rintro mm_2 t_3 ⟨rfl, g23⟩
        refine wo_step (v := (.b c23)) (s_pure (p_mv g23)) ?_
        refine wo_nil ?_
        refine nx_norm ?_
        refine w_ret ?_
        exact qf ret_ok (rt rfl rn) hr

/- dibber/share.groups -/
abbrev g45_I0 (v1 : AVal) (x8 : Int) (s : AVal × Int × Mm) (m1 : Mm) (t1 : Tr) : Prop :=
  match s with
  | (v5, x9, m_1) => m_1 = m1 ∧ t1.get 5 = v5 ∧ t1.get 9 = (.i .i64 x9) ∧ t1.get 1 = v1 ∧ t1.get 8 = (.i .i64 x8)
abbrev g45_J0 (v1 : AVal) (x8 : Int) (o : (AVal × Mm)) (e : AExit) (m1 : Mm) (t1 : Tr) : Prop :=
  match o with
  | (y5, mo) => e = (.exit 0) ∧ mo = m1 ∧ t1.get 5 = y5
abbrev g45_J1 (v1 : AVal) (x8 : Int) (x9 : Int) (o : (AVal × Mm)) (e : AExit) (m1 : Mm) (t1 : Tr) : Prop :=
  match o with
  | (y5, mo) => e = .norm ∧ mo = m1 ∧ t1.get 5 = y5 ∧ t1.get 1 = v1 ∧ t1.get 8 = (.i .i64 x8) ∧ t1.get 9 = (.i .i64 x9)
def g45_b0 (M : Means) (ro : List ABlk) (v1 : AVal) (x8 : Int) (v5 : AVal) (x9 : Int) (m_1 : Mm) : Option ((AVal × Int × Mm) ⊕ ((AVal × Mm))) :=
  forceB (ltI x9 x8) fun c10 =>
  cond c10 (
    bindP (callM M.call m_1 88 [(.i .i64 x9), v1]) fun v14 m_2 =>
    asB v14 fun c14 =>
    bindO (α := (AVal × Mm)) (
      cond c14 (
        bindP (stepM ro m_2 (.bsl 3 1 [(AVal.i IntKind.i64 0)] 1 [((0, 1), .c (.i .i64 x9))])) fun v17 m_3 =>
        bindP (stepM ro m_3 (.app 3 1 8 [(AVal.i IntKind.i64 0)] (.c v5) (.c v17))) fun v18 m_4 =>
        some (v18, m_4)) (
        some (v5, m_2))) fun ⟨v5_1, m_5⟩ =>
    forceI (wr .i64 (x9 + 1)) fun x19 =>
    some (.inl (v5_1, x19, m_5))) (
    some (.inr (v5, m_1)))
def g45 (M : Means) (ro : List ABlk) (x0 : Int) (v1 : AVal) (m0 : Mm) : Option (AVal × Heap × Nat × Nat) :=
  chk (!ltI x0 (.ofNat 0)) <|
  forceI (shlV .i64 1 x0) fun x8 =>
  bindO (M.loop (S := AVal × Int × Mm) (R := (AVal × Mm)) (fun s => g45_b0 M ro v1 x8 s.1 s.2.1 s.2.2) (AVal.nsl, 0, m0)) fun ⟨v5_2, m_6⟩ =>
  finM m0.h.length (tupA [v5_2]) m_6

theorem g45_ok {ro : List ABlk} {O : Caller} {M : Means} (hM : M.Ok ⟨F, O⟩ ro) {x0 v1 h r} (ho : O 45 [(.i .i64 x0), v1] h = none) (hr : g45 M ro x0 v1 ⟨h, h.length, h.length⟩ = some r) : callX ⟨F, O⟩ ro 45 [(.i .i64 x0), v1] h = some r := by
  refine callX_of (F := ⟨F, O⟩) (fn := fn45) (g := g45 M ro x0 v1) ho rfl rfl hr ?_
  clear ho
  clear hr
  intro m0 t0 ht hr
  have g0 : t0.get 0 = (.i .i64 x0) := ht 0
  have g1 : t0.get 1 = v1 := ht 1
  clear ht
  unfold g45 at hr
  refine w_seq ?_
  refine w_ops ?_
  refine wo_step (v := AVal.nsl) (s_pure (p_mv rfl)) ?_
  refine wo_nil ?_
  refine nx_norm ?_
  refine w_seq ?_
  refine w_ops ?_
  refine wo_step (v := AVal.nsl) (s_pure (p_mv rfl)) ?_
  refine wo_nil ?_
  refine nx_norm ?_
  refine w_seq ?_
  refine w_seq ?_
  refine w_ops ?_
  refine wo_step (v := (.i .i64 x0)) (s_pure (p_mv g0)) ?_
  have hq := chk_inv hr
  clear hr
  obtain ⟨hc8, hr⟩ := hq
  have hq := forceI_inv hr
  clear hr
  obtain ⟨x8, e8, hr⟩ := hq
  refine wo_step (v := (.i .i64 x8)) (s_pure (p_bin rfl rfl ((b_shl hc8).trans (ci e8)))) ?_
  refine wo_step (v := (.i .i64 0)) (s_pure (p_mv rfl)) ?_
  refine wo_nil ?_
  refine nx_norm ?_
  refine w_block ?_
  have hq := bindO_inv hr
  clear hr
  obtain ⟨o_1, hl, hr⟩ := hq
  obtain ⟨n, hl⟩ := hM.loop _ _ _ hl
  refine jp_mono (w_loop _ (g45_I0 v1 x8) (g45_J0 v1 x8) ?_ n _ _ _ _ hl ⟨rfl, gl rfl, gl rfl, gl g1, gl rfl⟩) ?_
  · clear hr hl
    intro s mm_2 t_1 o hi hr
    obtain ⟨v5, x9, m_1⟩ := s
    obtain ⟨rfl, g5, g9, g1, g8⟩ := hi
    unfold g45_b0 at hr
    refine w_seq ?_
    refine w_ops ?_
    have hq := forceB_inv hr
    clear hr
    obtain ⟨c10, e10, hr⟩ := hq
    refine wo_step (v := (.b c10)) (s_pure (p_bin g9 g8 (b_lss.trans (cb e10)))) ?_
    refine wo_nil ?_
    refine nx_norm ?_
    refine w_seq ?_
    have hq := cond_inv hr
    clear hr
    rcases hq with ⟨rfl, hr⟩ | ⟨rfl, hr⟩
    · refine w_condT rfl ?_
      refine w_skip ?_
      refine nx_norm ?_
      refine w_seq ?_
      refine w_block ?_
      refine w_seq ?_
      refine w_ops ?_
      refine wo_step (v := (.i .i64 x9)) (s_pure (p_mv g9)) ?_
      refine wo_step (v := (.i .i64 x9)) (s_pure (p_mv rfl)) ?_
      refine wo_nil ?_
      refine nx_norm ?_
      refine w_seq ?_
      refine w_ops ?_
      refine wo_step (v := (.i .i64 x9)) (s_pure (p_mv rfl)) ?_
      refine wo_step (v := v1) (s_pure (p_mv g1)) ?_
      have hq := bindP_inv hr
      clear hr
      obtain ⟨v14, m_2, e14, hr⟩ := hq
      have hq := asB_inv hr
      clear hr
      obtain ⟨c14, rfl, hr⟩ := hq
      refine wo_step (v := (.b c14)) (s_call (mc rfl (mc rfl mn)) (callM_le hM.call e14)) ?_
      refine wo_nil ?_
      refine nx_norm ?_
      have hq := bindO_inv hr
      clear hr
      obtain ⟨o, hr, hk⟩ := hq
      refine jp_mono (J := g45_J1 v1 x8 x9 o) ?_ ?_
      · clear hk
        have hq := cond_inv hr
        clear hr
        rcases hq with ⟨rfl, hr⟩ | ⟨rfl, hr⟩
        · refine w_condT rfl ?_
          refine w_ops ?_
          refine wo_step (v := v5) (s_pure (p_mv g5)) ?_
          refine wo_step (v := (.i .i64 x9)) (s_pure (p_mv rfl)) ?_
          have hq := bindP_inv hr
          clear hr
          obtain ⟨v17, m_3, e17, hr⟩ := hq
          refine wo_step (v := v17) (s_bsl (qc rfl qn) e17) ?_
          have hq := bindP_inv hr
          clear hr
          obtain ⟨v18, m_4, e18, hr⟩ := hq
          refine wo_step (v := v18) (s_app rfl rfl e18) ?_
          refine wo_step (v := v18) (s_pure (p_mv rfl)) ?_
          refine wo_nil ?_
          cases hr
          exact ⟨_, _, rfl, rfl, rfl, gl rfl, gl g1, gl g8, gl g9⟩
        · refine w_condF rfl ?_
          refine w_skip ?_
          cases hr
          exact ⟨_, _, rfl, rfl, rfl, gl g5, gl g1, gl g8, gl g9⟩
      · clear hr
        have hr := hk
        clear hk
        obtain ⟨v5_1, m_5⟩ := o
        rintro _ mm t_2 ⟨rfl, rfl, g5, g1, g8, g9⟩
        refine bk_norm ?_
        refine nx_norm ?_
        refine w_ops ?_
        have hq := forceI_inv hr
        clear hr
        obtain ⟨x19, e19, hr⟩ := hq
        refine wo_step (v := (.i .i64 x19)) (s_pure (p_bin g9 rfl (b_add.trans (ci e19)))) ?_
        refine wo_step (v := (.i .i64 x19)) (s_pure (p_mv rfl)) ?_
        refine wo_nil ?_
        cases hr
        exact ⟨_, _, rfl, rfl, rfl, gl g5, gl rfl, gl g1, gl g8⟩
    · refine w_condF rfl ?_
      refine w_exit ?_
      refine nx_exit ?_
      cases hr
      exact ⟨_, _, rfl, ne_norm_exit, rfl, rfl, gl g5⟩
  · obtain ⟨v5_2, m_6⟩ := o_1
    rintro _ mm_1 t_3 ⟨rfl, rfl, g5⟩
    refine bk_hit ?_
    refine nx_norm ?_
    refine w_seq ?_
    refine w_ops ?_
    refine wo_step (v := v5_2) (s_pure (p_mv g5)) ?_
    refine wo_step (v := v5_2) (s_pure (p_mv rfl)) ?_
    refine wo_nil ?_
    refine nx_norm ?_
    refine w_ret ?_
    exact qf ret_ok (rt rfl rn) hr

/- dibber/share.above -/

def g46 (M : Means) (ro : List ABlk) (x0 : Int) (m0 : Mm) : Option (AVal × Heap × Nat × Nat) :=
  bindP (stepM ro m0 (.bx 3 1 (.c (.i .i64 x0)))) fun v1 m_1 =>
  bindO (some (AVal.fn 89 [] [v1])) fun v3 =>
  finM m0.h.length (tupA [v3]) m_1

theorem g46_ok {ro : List ABlk} {O : Caller} {M : Means} (hM : M.Ok ⟨F, O⟩ ro) {x0 h r} (ho : O 46 [(.i .i64 x0)] h = none) (hr : g46 M ro x0 ⟨h, h.length, h.length⟩ = some r) : callX ⟨F, O⟩ ro 46 [(.i .i64 x0)] h = some r := by
  refine callX_of (F := ⟨F, O⟩) (fn := fn46) (g := g46 M ro x0) ho rfl rfl hr ?_
  clear ho
  clear hr
  intro m0 t0 ht hr
  have g0 : t0.get 0 = (.i .i64 x0) := ht 0
  clear ht
  unfold g46 at hr
  refine w_seq ?_
  refine w_ops ?_
  have hq := bindP_inv hr
  clear hr
  obtain ⟨v1, m_1, e1, hr⟩ := hq
  refine wo_step (v := v1) (s_bx g0 e1) ?_
  refine wo_step (v := AVal.nfn) (s_pure (p_mv rfl)) ?_
  refine wo_nil ?_
  refine nx_norm ?_
  refine w_seq ?_
  refine w_ops ?_
  have hq := bindO_inv hr
  clear hr
  obtain ⟨v3, e3, hr⟩ := hq
  refine wo_step (v := v3) (s_pure ((o_mkfn mn (mc rfl mn)).trans e3)) ?_
  refine wo_step (v := v3) (s_pure (p_mv rfl)) ?_
  refine wo_nil ?_
  refine nx_norm ?_
  refine w_ret ?_
  exact qf ret_ok (rt rfl rn) hr

/- dibber/share.breaks -/

def g47 (M : Means) (ro : List ABlk) (v0 : AVal) (x1 : Int) (m0 : Mm) : Option (AVal × Heap × Nat × Nat) :=
  bindP (stepM ro m0 (.bx 22 1 (.c v0))) fun v2 m_1 =>
  bindP (stepM ro m_1 (.bx 3 1 (.c (.i .i64 x1)))) fun v3 m_2 =>
  bindO (some (AVal.fn 90 [] [v2, v3])) fun v5 =>
  finM m0.h.length (tupA [v5]) m_2

theorem g47_ok {ro : List ABlk} {O : Caller} {M : Means} (hM : M.Ok ⟨F, O⟩ ro) {v0 x1 h r} (ho : O 47 [v0, (.i .i64 x1)] h = none) (hr : g47 M ro v0 x1 ⟨h, h.length, h.length⟩ = some r) : callX ⟨F, O⟩ ro 47 [v0, (.i .i64 x1)] h = some r := by
  refine callX_of (F := ⟨F, O⟩) (fn := fn47) (g := g47 M ro v0 x1) ho rfl rfl hr ?_
  clear ho
  clear hr
  intro m0 t0 ht hr
  have g0 : t0.get 0 = v0 := ht 0
  have g1 : t0.get 1 = (.i .i64 x1) := ht 1
  clear ht
  unfold g47 at hr
  refine w_seq ?_
  refine w_ops ?_
  have hq := bindP_inv hr
  clear hr
  obtain ⟨v2, m_1, e2, hr⟩ := hq
  refine wo_step (v := v2) (s_bx g0 e2) ?_
  have hq := bindP_inv hr
  clear hr
  obtain ⟨v3, m_2, e3, hr⟩ := hq
  refine wo_step (v := v3) (s_bx g1 e3) ?_
  refine wo_step (v := AVal.nfn) (s_pure (p_mv rfl)) ?_
  refine wo_nil ?_
  refine nx_norm ?_
  refine w_seq ?_
  refine w_ops ?_
  have hq := bindO_inv hr
  clear hr
  obtain ⟨v5, e5, hr⟩ := hq
  refine wo_step (v := v5) (s_pure ((o_mkfn mn (mc rfl (mc rfl mn))).trans e5)) ?_
  refine wo_step (v := v5) (s_pure (p_mv rfl)) ?_
  refine wo_nil ?_
  refine nx_norm ?_
  refine w_ret ?_
  exact qf ret_ok (rt rfl rn) hr

/- dibber/dibberref08.Cost -/
abbrev g48_J0 (x0 : Int) (v1 : AVal) (m0 : Mm) (o : Bool) (m1 : Mm) (t1 : Tr) : Prop :=
  match o with
  | c11 => m0 = m1 ∧ t1.get 11 = (.b c11) ∧ t1.get 0 = (.i .i64 x0) ∧ t1.get 1 = v1
abbrev g48_J1 (v1 : AVal) (m0 : Mm) (o : Bool) (m1 : Mm) (t1 : Tr) : Prop :=
  match o with
  | c18 => m0 = m1 ∧ t1.get 18 = (.b c18) ∧ t1.get 1 = v1
abbrev g48_J2 (v1 : AVal) (m0 : Mm) (o : Bool) (m1 : Mm) (t1 : Tr) : Prop :=
  match o with
  | c24 => m0 = m1 ∧ t1.get 24 = (.b c24) ∧ t1.get 1 = v1
abbrev g48_I3 (v1 : AVal) (m0 : Mm) (s : Int) (m1 : Mm) (t1 : Tr) : Prop :=
  match s with
  | x5 => m0 = m1 ∧ t1.get 5 = (.i .i64 x5) ∧ t1.get 1 = v1
abbrev g48_J3 (v1 : AVal) (m0 : Mm) (o : (Unit ⊕ Bool)) (e : AExit) (m1 : Mm) (t1 : Tr) : Prop :=
  match o with
  | (.inl _) => e = (.exit 0) ∧ m0 = m1
  | (.inr y4) => e = .ret ∧ m0 = m1 ∧ t1.get 4 = (.b y4)
abbrev g48_J4 (v1 : AVal) (x5 : Int) (m0 : Mm) (o : Bool) (m1 : Mm) (t1 : Tr) : Prop :=
  match o with
  | c42 => m0 = m1 ∧ t1.get 42 = (.b c42) ∧ t1.get 1 = v1 ∧ t1.get 5 = (.i .i64 x5)
def g48_b3 (M : Means) (ro : List ABlk) (v1 : AVal) (m0 : Mm) (x5 : Int) : Option ((Int) ⊕ ((Unit ⊕ Bool))) :=
  bindO (evP .e (.len false (.c v1))) fun v27 =>
  asI .i64 v27 fun x27 =>
  forceB (ltI x5 x27) fun c28 =>
  cond c28 (
    bindO (evP .e (.ixS 1 (.c v1) (.c (.i .i64 x5)))) fun v33 =>
    bindO (ldM ro m0 true 1 v33) fun v34 =>
    asI .i64 v34 fun x34 =>
    forceB (ltI x34 (-1000000)) fun c35 =>
    bindO (cond c35 (
      some true) (
      bindO (evP .e (.ixS 1 (.c v1) (.c (.i .i64 x5)))) fun v39 =>
      bindO (ldM ro m0 true 1 v39) fun v40 =>
      asI .i64 v40 fun x40 =>
      forceB (ltI 1000000 x40) fun c41 =>
      some c41)) fun c42 =>
    cond c42 (
      some (.inr (.inr false))) (
      forceI (wr .i64 (x5 + 1)) fun x30 =>
      some (.inl x30))) (
    some (.inr (.inl ())))
def g48 (M : Means) (ro : List ABlk) (x0 : Int) (v1 : AVal) (m0 : Mm) : Option (AVal × Heap × Nat × Nat) :=
  forceB (ltI x0 1) fun c7 =>
  bindO (cond c7 (
    some true) (
    forceB (ltI 6 x0) fun c10 =>
    some c10)) fun c11 =>
  bindO (cond c11 (
    some true) (
    bindO (evP .e (.len false (.c v1))) fun v14 =>
    asI .i64 v14 fun x14 =>
    chk (!ltI x0 (.ofNat 0)) <|
    forceI (shlV .i64 1 x0) fun x16 =>
    forceB (!eqI x14 x16) fun c17 =>
    some c17)) fun c18 =>
  bindO (cond c18 (
    some true) (
    bindO (evP .e (.ixS 1 (.c v1) (.c (.i .i64 0)))) fun v21 =>
    bindO (ldM ro m0 true 1 v21) fun v22 =>
    asI .i64 v22 fun x22 =>
    forceB (!eqI x22 0) fun c23 =>
    some c23)) fun c24 =>
  cond c24 (
    finM m0.h.length (tupA [(.b false)]) m0) (
    bindO (M.loop (S := Int) (R := (Unit ⊕ Bool)) (fun s => g48_b3 M ro v1 m0 s) 0) fun o_4 => match o_4 with
    | (.inl _) =>
      finM m0.h.length (tupA [(.b true)]) m0
    | (.inr c4) =>
      finM m0.h.length (tupA [(.b c4)]) m0)

theorem g48_ok {ro : List ABlk} {O : Caller} {M : Means} (hM : M.Ok ⟨F, O⟩ ro) {x0 v1 h r} (ho : O 48 [(.i .i64 x0), v1] h = none) (hr : g48 M ro x0 v1 ⟨h, h.length, h.length⟩ = some r) : callX ⟨F, O⟩ ro 48 [(.i .i64 x0), v1] h = some r := by
  refine callX_of (F := ⟨F, O⟩) (fn := fn48) (g := g48 M ro x0 v1) ho rfl rfl hr ?_
  clear ho
  clear hr
  intro m0 t0 ht hr
  have g0 : t0.get 0 = (.i .i64 x0) := ht 0
  have g1 : t0.get 1 = v1 := ht 1
  clear ht
  unfold g48 at hr
  refine w_seq ?_
  refine w_ops ?_
  refine wo_step (v := (.b false)) (s_pure (p_mv rfl)) ?_
  refine wo_nil ?_
  refine nx_norm ?_
  refine w_seq ?_
  refine w_seq ?_
  refine w_ops ?_
  refine wo_step (v := (.i .i64 x0)) (s_pure (p_mv g0)) ?_
  have hq := forceB_inv hr
  clear hr
  obtain ⟨c7, e7, hr⟩ := hq
  refine wo_step (v := (.b c7)) (s_pure (p_bin rfl rfl (b_lss.trans (cb e7)))) ?_
  refine wo_step (v := (.b c7)) (s_pure (p_mv rfl)) ?_
  have hq := bindO_inv hr
  clear hr
  obtain ⟨o, hr, hk⟩ := hq
  refine wo_join 3 (g48_J0 x0 v1 m0 o) ?_ ?_
  · clear hk
    have hq := cond_inv hr
    clear hr
    rcases hq with ⟨rfl, hr⟩ | ⟨rfl, hr⟩
    · refine wo_skip (v := (.b true)) rfl rfl ?_
      refine wo_skip (v := (.b true)) rfl rfl ?_
      refine wo_step (v := (.b true)) (s_pure (p_pickT rfl rfl)) ?_
      refine wo_nil ?_
      cases hr
      exact ⟨_, _, rfl, rfl, gl rfl, gl g0, gl g1⟩
    · refine wo_take (v := (.i .i64 x0)) rfl (s_pure (p_mv g0)) ?_
      have hq := forceB_inv hr
      clear hr
      obtain ⟨c10, e10, hr⟩ := hq
      refine wo_take (v := (.b c10)) rfl (s_pure (p_bin rfl rfl (b_gtr.trans (cb e10)))) ?_
      refine wo_step (v := (.b c10)) (s_pure (p_pickF rfl rfl)) ?_
      refine wo_nil ?_
      cases hr
      exact ⟨_, _, rfl, rfl, gl rfl, gl g0, gl g1⟩
  · clear hr
    have hr := hk
    clear hk
    obtain ⟨c11, ho⟩ : ∃ z, z = o := ⟨_, rfl⟩
    subst ho
    rintro mm t_1 ⟨rfl, g11, g0, g1⟩
    refine wo_step (v := (.b c11)) (s_pure (p_mv g11)) ?_
    have hq := bindO_inv hr
    clear hr
    obtain ⟨o_1, hr, hk⟩ := hq
    refine wo_join 6 (g48_J1 v1 m0 o_1) ?_ ?_
    · clear hk
      have hq := cond_inv hr
      clear hr
      rcases hq with ⟨rfl, hr⟩ | ⟨rfl, hr⟩
      · refine wo_skip (v := (.b true)) rfl rfl ?_
        refine wo_skip (v := (.b true)) rfl rfl ?_
        refine wo_skip (v := (.b true)) rfl rfl ?_
        refine wo_skip (v := (.b true)) rfl rfl ?_
        refine wo_skip (v := (.b true)) rfl rfl ?_
        refine wo_step (v := (.b true)) (s_pure (p_pickT rfl rfl)) ?_
        refine wo_nil ?_
        cases hr
        exact ⟨_, _, rfl, rfl, gl rfl, gl g1⟩
      · refine wo_take (v := v1) rfl (s_pure (p_mv g1)) ?_
        have hq := bindO_inv hr
        clear hr
        obtain ⟨v14, e14, hr⟩ := hq
        have hq := asI_inv hr
        clear hr
        obtain ⟨x14, rfl, hr⟩ := hq
        refine wo_take (v := (.i .i64 x14)) rfl (s_pure (o_len rfl e14)) ?_
        refine wo_take (v := (.i .i64 x0)) rfl (s_pure (p_mv g0)) ?_
        have hq := chk_inv hr
        clear hr
        obtain ⟨hc16, hr⟩ := hq
        have hq := forceI_inv hr
        clear hr
        obtain ⟨x16, e16, hr⟩ := hq
        refine wo_take (v := (.i .i64 x16)) rfl (s_pure (p_bin rfl rfl ((b_shl hc16).trans (ci e16)))) ?_
        have hq := forceB_inv hr
        clear hr
        obtain ⟨c17, e17, hr⟩ := hq
        refine wo_take (v := (.b c17)) rfl (s_pure (p_bin rfl rfl (b_neq.trans (cb e17)))) ?_
        refine wo_step (v := (.b c17)) (s_pure (p_pickF rfl rfl)) ?_
        refine wo_nil ?_
        cases hr
        exact ⟨_, _, rfl, rfl, gl rfl, gl g1⟩
    · clear hr
      have hr := hk
      clear hk
      obtain ⟨c18, ho⟩ : ∃ z, z = o_1 := ⟨_, rfl⟩
      subst ho
      rintro mm_1 t_2 ⟨rfl, g18, g1⟩
      refine wo_step (v := (.b c18)) (s_pure (p_mv g18)) ?_
      have hq := bindO_inv hr
      clear hr
      obtain ⟨o_2, hr, hk⟩ := hq
      refine wo_join 5 (g48_J2 v1 m0 o_2) ?_ ?_
      · clear hk
        have hq := cond_inv hr
        clear hr
        rcases hq with ⟨rfl, hr⟩ | ⟨rfl, hr⟩
        · refine wo_skip (v := (.b true)) rfl rfl ?_
          refine wo_skip (v := (.b true)) rfl rfl ?_
          refine wo_skip (v := (.b true)) rfl rfl ?_
          refine wo_skip (v := (.b true)) rfl rfl ?_
          refine wo_step (v := (.b true)) (s_pure (p_pickT rfl rfl)) ?_
          refine wo_nil ?_
          cases hr
          exact ⟨_, _, rfl, rfl, gl rfl, gl g1⟩
        · refine wo_take (v := v1) rfl (s_pure (p_mv g1)) ?_
          have hq := bindO_inv hr
          clear hr
          obtain ⟨v21, e21, hr⟩ := hq
          refine wo_take (v := v21) rfl (s_pure (o_ixS rfl rfl e21)) ?_
          have hq := bindO_inv hr
          clear hr
          obtain ⟨v22, e22, hr⟩ := hq
          have hq := asI_inv hr
          clear hr
          obtain ⟨x22, rfl, hr⟩ := hq
          refine wo_take (v := (.i .i64 x22)) rfl (s_ld rfl e22) ?_
          have hq := forceB_inv hr
          clear hr
          obtain ⟨c23, e23, hr⟩ := hq
          refine wo_take (v := (.b c23)) rfl (s_pure (p_bin rfl rfl (b_neq.trans (cb e23)))) ?_
          refine wo_step (v := (.b c23)) (s_pure (p_pickF rfl rfl)) ?_
          refine wo_nil ?_
          cases hr
          exact ⟨_, _, rfl, rfl, gl rfl, gl g1⟩
      · clear hr
        have hr := hk
        clear hk
        obtain ⟨c24, ho⟩ : ∃ z, z = o_2 := ⟨_, rfl⟩
        subst ho
        rintro mm_2 t_3 ⟨rfl, g24, g1⟩
        refine wo_nil ?_
        refine nx_norm ?_
        have hq := cond_inv hr
        clear hr
        rcases hq with ⟨rfl, hr⟩ | ⟨rfl, hr⟩
        · refine w_condT g24 ?_
          refine w_seq ?_
          refine w_ops ?_
          refine wo_step (v := (.b false)) (s_pure (p_mv rfl)) ?_
          refine wo_nil ?_
          refine nx_norm ?_
          refine w_ret ?_
          refine nx_ret ?_
          exact qf ret_ok (rt rfl rn) hr
        · refine w_condF g24 ?_
          refine w_skip ?_
          refine nx_norm ?_
          refine w_seq ?_
          refine w_seq ?_
          refine w_ops ?_
          refine wo_step (v := (.i .i64 0)) (s_pure (p_mv rfl)) ?_
          refine wo_nil ?_
          refine nx_norm ?_
          refine w_block ?_
          have hq := bindO_inv hr
          clear hr
          obtain ⟨o_4, hl, hr⟩ := hq
          obtain ⟨n, hl⟩ := hM.loop _ _ _ hl
          refine jp_mono (w_loop _ (g48_I3 v1 m0) (g48_J3 v1 m0) ?_ n _ _ _ _ hl ⟨rfl, gl rfl, gl g1⟩) ?_
          · clear hr hl
            intro s mm_6 t_4 o hi hr
            obtain ⟨x5, hs⟩ : ∃ z, z = s := ⟨_, rfl⟩
            subst hs
            obtain ⟨rfl, g5, g1⟩ := hi
            unfold g48_b3 at hr
            refine w_seq ?_
            refine w_seq ?_
            refine w_ops ?_
            refine wo_step (v := (.i .i64 x5)) (s_pure (p_mv g5)) ?_
            refine wo_step (v := v1) (s_pure (p_mv g1)) ?_
            have hq := bindO_inv hr
            clear hr
            obtain ⟨v27, e27, hr⟩ := hq
            have hq := asI_inv hr
            clear hr
            obtain ⟨x27, rfl, hr⟩ := hq
            refine wo_step (v := (.i .i64 x27)) (s_pure (o_len rfl e27)) ?_
            have hq := forceB_inv hr
            clear hr
            obtain ⟨c28, e28, hr⟩ := hq
            refine wo_step (v := (.b c28)) (s_pure (p_bin rfl rfl (b_lss.trans (cb e28)))) ?_
            refine wo_nil ?_
            refine nx_norm ?_
            have hq := cond_inv hr
            clear hr
            rcases hq with ⟨rfl, hr⟩ | ⟨rfl, hr⟩
            · refine w_condT rfl ?_
              refine w_skip ?_
              refine nx_norm ?_
              refine w_seq ?_
              refine w_block ?_
              refine w_seq ?_
              refine w_ops ?_
              refine wo_step (v := v1) (s_pure (p_mv g1)) ?_
              refine wo_step (v := (.i .i64 x5)) (s_pure (p_mv g5)) ?_
              have hq := bindO_inv hr
              clear hr
              obtain ⟨v33, e33, hr⟩ := hq
              refine wo_step (v := v33) (s_pure (o_ixS rfl rfl e33)) ?_
              have hq := bindO_inv hr
              clear hr
              obtain ⟨v34, e34, hr⟩ := hq
              have hq := asI_inv hr
              clear hr
              obtain ⟨x34, rfl, hr⟩ := hq
              refine wo_step (v := (.i .i64 x34)) (s_ld rfl e34) ?_
              have hq := forceB_inv hr
              clear hr
              obtain ⟨c35, e35, hr⟩ := hq
              refine wo_step (v := (.b c35)) (s_pure (p_bin rfl rfl (b_lss.trans (cb e35)))) ?_
              refine wo_step (v := (.b c35)) (s_pure (p_mv rfl)) ?_
              have hq := bindO_inv hr
              clear hr
              obtain ⟨o_3, hr, hk⟩ := hq
              refine wo_join 6 (g48_J4 v1 x5 m0 o_3) ?_ ?_
              · clear hk
                have hq := cond_inv hr
                clear hr
                rcases hq with ⟨rfl, hr⟩ | ⟨rfl, hr⟩
                · refine wo_skip (v := (.b true)) rfl rfl ?_
                  refine wo_skip (v := (.b true)) rfl rfl ?_
                  refine wo_skip (v := (.b true)) rfl rfl ?_
                  refine wo_skip (v := (.b true)) rfl rfl ?_
                  refine wo_skip (v := (.b true)) rfl rfl ?_
                  refine wo_step (v := (.b true)) (s_pure (p_pickT rfl rfl)) ?_
                  refine wo_nil ?_
                  cases hr
                  exact ⟨_, _, rfl, rfl, gl rfl, gl g1, gl g5⟩
                · refine wo_take (v := v1) rfl (s_pure (p_mv g1)) ?_
                  refine wo_take (v := (.i .i64 x5)) rfl (s_pure (p_mv g5)) ?_
                  have hq := bindO_inv hr
                  clear hr
                  obtain ⟨v39, e39, hr⟩ := hq
                  refine wo_take (v := v39) rfl (s_pure (o_ixS rfl rfl e39)) ?_
                  have hq := bindO_inv hr
                  clear hr
                  obtain ⟨v40, e40, hr⟩ := hq
                  have hq := asI_inv hr
                  clear hr
                  obtain ⟨x40, rfl, hr⟩ := hq
                  refine wo_take (v := (.i .i64 x40)) rfl (s_ld rfl e40) ?_
                  have hq := forceB_inv hr
                  clear hr
                  obtain ⟨c41, e41, hr⟩ := hq
                  refine wo_take (v := (.b c41)) rfl (s_pure (p_bin rfl rfl (b_gtr.trans (cb e41)))) ?_
                  refine wo_step (v := (.b c41)) (s_pure (p_pickF rfl rfl)) ?_
                  refine wo_nil ?_
                  cases hr
                  exact ⟨_, _, rfl, rfl, gl rfl, gl g1, gl g5⟩
              · clear hr
                have hr := hk
                clear hk
                obtain ⟨c42, ho⟩ : ∃ z, z = o_3 := ⟨_, rfl⟩
                subst ho
                rintro mm_3 t_5 ⟨rfl, g42, g1, g5⟩
                refine wo_nil ?_
                refine nx_norm ?_
                have hq := cond_inv hr
                clear hr
                rcases hq with ⟨rfl, hr⟩ | ⟨rfl, hr⟩
                · refine w_condT g42 ?_
                  refine w_seq ?_
                  refine w_ops ?_
                  refine wo_step (v := (.b false)) (s_pure (p_mv rfl)) ?_
                  refine wo_nil ?_
                  refine nx_norm ?_
                  refine w_ret ?_
                  refine bk_ret ?_
                  refine nx_ret ?_
                  cases hr
                  exact ⟨_, _, rfl, ne_norm_ret, rfl, rfl, gl rfl⟩
                · refine w_condF g42 ?_
                  refine w_skip ?_
                  refine bk_norm ?_
                  refine nx_norm ?_
                  refine w_ops ?_
                  refine wo_step (v := (.i .i64 x5)) (s_pure (p_mv g5)) ?_
                  have hq := forceI_inv hr
                  clear hr
                  obtain ⟨x30, e30, hr⟩ := hq
                  refine wo_step (v := (.i .i64 x30)) (s_pure (p_bin rfl rfl (b_add.trans (ci e30)))) ?_
                  refine wo_step (v := (.i .i64 x30)) (s_pure (p_mv rfl)) ?_
                  refine wo_nil ?_
                  cases hr
                  exact ⟨_, _, rfl, rfl, rfl, gl rfl, gl g1⟩
            · refine w_condF rfl ?_
              refine w_exit ?_
              refine nx_exit ?_
              cases hr
              exact ⟨_, _, rfl, ne_norm_exit, rfl, rfl⟩
          · rcases o_4 with o_4 | o_4
            · rintro _ mm_4 t_6 ⟨rfl, rfl⟩
              refine bk_hit ?_
              refine nx_norm ?_
              refine w_seq ?_
              refine w_ops ?_
              refine wo_step (v := (.b true)) (s_pure (p_mv rfl)) ?_
              refine wo_nil ?_
              refine nx_norm ?_
              refine w_ret ?_
              exact qf ret_ok (rt rfl rn) hr
            · obtain ⟨c4, ho⟩ : ∃ z, z = o_4 := ⟨_, rfl⟩
              subst ho
              rintro _ mm_5 t_7 ⟨rfl, rfl, g4⟩
              refine bk_ret ?_
              refine nx_ret ?_
              exact qf ret_ok (rt g4 rn) hr

/- dibber/dibberref08.broken -/
abbrev g49_I0 (v0 : AVal) (m0 : Mm) (s : Int) (m1 : Mm) (t1 : Tr) : Prop :=
  match s with
  | x5 => m0 = m1 ∧ t1.get 5 = (.i .i64 x5) ∧ t1.get 0 = v0
abbrev g49_J0 (v0 : AVal) (m0 : Mm) (o : (Unit ⊕ (Int × Int × Bool))) (e : AExit) (m1 : Mm) (t1 : Tr) : Prop :=
  match o with
  | (.inl _) => e = (.exit 0) ∧ m0 = m1
  | (.inr (y2, y3, y4)) => e = .ret ∧ m0 = m1 ∧ t1.get 2 = (.i .i64 y2) ∧ t1.get 3 = (.i .i64 y3) ∧ t1.get 4 = (.b y4)
abbrev g49_I1 (v0 : AVal) (x5 : Int) (m0 : Mm) (s : Int) (m1 : Mm) (t1 : Tr) : Prop :=
  match s with
  | x6 => m0 = m1 ∧ t1.get 6 = (.i .i64 x6) ∧ t1.get 0 = v0 ∧ t1.get 5 = (.i .i64 x5)
abbrev g49_J1 (v0 : AVal) (x5 : Int) (m0 : Mm) (o : (Unit ⊕ (Int × Int × Bool))) (e : AExit) (m1 : Mm) (t1 : Tr) : Prop :=
  match o with
  | (.inl _) => e = (.exit 2) ∧ m0 = m1 ∧ t1.get 0 = v0 ∧ t1.get 5 = (.i .i64 x5)
  | (.inr (y2, y3, y4)) => e = .ret ∧ m0 = m1 ∧ t1.get 2 = (.i .i64 y2) ∧ t1.get 3 = (.i .i64 y3) ∧ t1.get 4 = (.b y4)
def g49_b1 (M : Means) (ro : List ABlk) (v0 : AVal) (x5 : Int) (m0 : Mm) (x6 : Int) : Option ((Int) ⊕ ((Unit ⊕ (Int × Int × Bool)))) :=
  bindO (evP .e (.len false (.c v0))) fun v17 =>
  asI .i64 v17 fun x17 =>
  forceB (ltI x6 x17) fun c18 =>
  cond c18 (
    bindO (evP .e (.ixS 1 (.c v0) (.c (.i .i64 x5)))) fun v23 =>
    bindO (ldA ro m0.h true 1 v23) fun v24 =>
    asI .i64 v24 fun x24 =>
    bindO (evP .e (.ixS 1 (.c v0) (.c (.i .i64 x6)))) fun v27 =>
    bindO (ldA ro m0.h true 1 v27) fun v28 =>
    asI .i64 v28 fun x28 =>
    forceI (wr .i64 (x24 + x28)) fun x29 =>
    forceI (bitV .or .i64 x5 x6) fun x33 =>
    bindO (evP .e (.ixS 1 (.c v0) (.c (.i .i64 x33)))) fun v34 =>
    bindO (ldA ro m0.h true 1 v34) fun v35 =>
    asI .i64 v35 fun x35 =>
    forceI (bitV .and .i64 x5 x6) fun x39 =>
    bindO (evP .e (.ixS 1 (.c v0) (.c (.i .i64 x39)))) fun v40 =>
    bindO (ldA ro m0.h true 1 v40) fun v41 =>
    asI .i64 v41 fun x41 =>
    forceI (wr .i64 (x35 + x41)) fun x42 =>
    forceB (ltI x29 x42) fun c43 =>
    cond c43 (
      some (.inr (.inr (x5, x6, true)))) (
      forceI (wr .i64 (x6 + 1)) fun x20 =>
      some (.inl x20))) (
    some (.inr (.inl ())))
def g49_b0 (M : Means) (ro : List ABlk) (v0 : AVal) (m0 : Mm) (x5 : Int) : Option ((Int) ⊕ ((Unit ⊕ (Int × Int × Bool)))) :=
  bindO (evP .e (.len false (.c v0))) fun v9 =>
  asI .i64 v9 fun x9 =>
  forceB (ltI x5 x9) fun c10 =>
  cond c10 (
    forceI (wr .i64 (x5 + 1)) fun x14 =>
    bindO (M.loop (S := Int) (R := (Unit ⊕ (Int × Int × Bool))) (fun s => g49_b1 M ro v0 x5 m0 s) x14) fun o => match o with
    | (.inl _) =>
      forceI (wr .i64 (x5 + 1)) fun x12 =>
      some (.inl x12)
    | (.inr (x2, x3, c4)) =>
      some (.inr (.inr (x2, x3, c4)))) (
    some (.inr (.inl ())))
def g49 (M : Means) (ro : List ABlk) (v0 : AVal) (m0 : Mm) : Option (AVal × Heap × Nat × Nat) :=
  bindO (M.loop (S := Int) (R := (Unit ⊕ (Int × Int × Bool))) (fun s => g49_b0 M ro v0 m0 s) 0) fun o_1 => match o_1 with
  | (.inl _) =>
    finM m0.h.length (tupA [(.i .i64 0), (.i .i64 0), (.b false)]) m0
  | (.inr (x2_1, x3_1, c4_1)) =>
    finM m0.h.length (tupA [(.i .i64 x2_1), (.i .i64 x3_1), (.b c4_1)]) m0

theorem g49_ok {ro : List ABlk} {O : Caller} {M : Means} (hM : M.Ok ⟨F, O⟩ ro) {v0 h r} (ho : O 49 [v0] h = none) (hr : g49 M ro v0 ⟨h, h.length, h.length⟩ = some r) : callX ⟨F, O⟩ ro 49 [v0] h = some r := by
  refine callX_of (F := ⟨F, O⟩) (fn := fn49) (g := g49 M ro v0) ho rfl rfl hr ?_
  clear ho
  clear hr
  intro m0 t0 ht hr
  have g0 : t0.get 0 = v0 := ht 0
  clear ht
  unfold g49 at hr
  refine w_seq ?_
  refine w_ops ?_
  refine wo_step (v := (.i .i64 0)) (s_pure (p_mv rfl)) ?_
  refine wo_step (v := (.i .i64 0)) (s_pure (p_mv rfl)) ?_
  refine wo_step (v := (.b false)) (s_pure (p_mv rfl)) ?_
  refine wo_nil ?_
  refine nx_norm ?_
  refine w_seq ?_
  refine w_seq ?_
  refine w_ops ?_
  refine wo_step (v := (.i .i64 0)) (s_pure (p_mv rfl)) ?_
  refine wo_nil ?_
  refine nx_norm ?_
  refine w_block ?_
  have hq := bindO_inv hr
  clear hr
  obtain ⟨o_1, hl_1, hr⟩ := hq
  obtain ⟨n_1, hl_1⟩ := hM.loop _ _ _ hl_1
  refine jp_mono (w_loop _ (g49_I0 v0 m0) (g49_J0 v0 m0) ?_ n_1 _ _ _ _ hl_1 ⟨rfl, gl rfl, gl g0⟩) ?_
  · clear hr hl_1
    intro s mm_5 t_1 o hi hr
    obtain ⟨x5, hs⟩ : ∃ z, z = s := ⟨_, rfl⟩
    subst hs
    obtain ⟨rfl, g5, g0⟩ := hi
    unfold g49_b0 at hr
    refine w_seq ?_
    refine w_seq ?_
    refine w_ops ?_
    refine wo_step (v := (.i .i64 x5)) (s_pure (p_mv g5)) ?_
    refine wo_step (v := v0) (s_pure (p_mv g0)) ?_
    have hq := bindO_inv hr
    clear hr
    obtain ⟨v9, e9, hr⟩ := hq
    have hq := asI_inv hr
    clear hr
    obtain ⟨x9, rfl, hr⟩ := hq
    refine wo_step (v := (.i .i64 x9)) (s_pure (o_len rfl e9)) ?_
    have hq := forceB_inv hr
    clear hr
    obtain ⟨c10, e10, hr⟩ := hq
    refine wo_step (v := (.b c10)) (s_pure (p_bin rfl rfl (b_lss.trans (cb e10)))) ?_
    refine wo_nil ?_
    refine nx_norm ?_
    have hq := cond_inv hr
    clear hr
    rcases hq with ⟨rfl, hr⟩ | ⟨rfl, hr⟩
    · refine w_condT rfl ?_
      refine w_skip ?_
      refine nx_norm ?_
      refine w_seq ?_
      refine w_block ?_
      refine w_seq ?_
      refine w_ops ?_
      refine wo_step (v := (.i .i64 x5)) (s_pure (p_mv g5)) ?_
      have hq := forceI_inv hr
      clear hr
      obtain ⟨x14, e14, hr⟩ := hq
      refine wo_step (v := (.i .i64 x14)) (s_pure (p_bin rfl rfl (b_add.trans (ci e14)))) ?_
      refine wo_step (v := (.i .i64 x14)) (s_pure (p_mv rfl)) ?_
      refine wo_nil ?_
      refine nx_norm ?_
      refine w_block ?_
      have hq := bindO_inv hr
      clear hr
      obtain ⟨o, hl, hr⟩ := hq
      obtain ⟨n, hl⟩ := hM.loop _ _ _ hl
      refine jp_mono (w_loop _ (g49_I1 v0 x5 m0) (g49_J1 v0 x5 m0) ?_ n _ _ _ _ hl ⟨rfl, gl rfl, gl g0, gl g5⟩) ?_
      · clear hr hl
        intro s mm_2 t_2 o hi hr
        obtain ⟨x6, hs⟩ : ∃ z, z = s := ⟨_, rfl⟩
        subst hs
        obtain ⟨rfl, g6, g0, g5⟩ := hi
        unfold g49_b1 at hr
        refine w_seq ?_
        refine w_seq ?_
        refine w_ops ?_
        refine wo_step (v := (.i .i64 x6)) (s_pure (p_mv g6)) ?_
        refine wo_step (v := v0) (s_pure (p_mv g0)) ?_
        have hq := bindO_inv hr
        clear hr
        obtain ⟨v17, e17, hr⟩ := hq
        have hq := asI_inv hr
        clear hr
        obtain ⟨x17, rfl, hr⟩ := hq
        refine wo_step (v := (.i .i64 x17)) (s_pure (o_len rfl e17)) ?_
        have hq := forceB_inv hr
        clear hr
        obtain ⟨c18, e18, hr⟩ := hq
        refine wo_step (v := (.b c18)) (s_pure (p_bin rfl rfl (b_lss.trans (cb e18)))) ?_
        refine wo_nil ?_
        refine nx_norm ?_
        have hq := cond_inv hr
        clear hr
        rcases hq with ⟨rfl, hr⟩ | ⟨rfl, hr⟩
        · refine w_condT rfl ?_
          refine w_skip ?_
          refine nx_norm ?_
          refine w_seq ?_
          refine w_block ?_
          refine w_seq ?_
          refine w_any ?_
          refine wa_step (v := v0) (a_pure (p_mv g0)) ?_
          refine wa_step (v := (.i .i64 x5)) (a_pure (p_mv g5)) ?_
          have hq := bindO_inv hr
          clear hr
          obtain ⟨v23, e23, hr⟩ := hq
          refine wa_step (v := v23) (a_pure (o_ixS rfl rfl e23)) ?_
          have hq := bindO_inv hr
          clear hr
          obtain ⟨v24, e24, hr⟩ := hq
          have hq := asI_inv hr
          clear hr
          obtain ⟨x24, rfl, hr⟩ := hq
          refine wa_step (v := (.i .i64 x24)) (a_ld rfl e24) ?_
          refine wa_step (v := v0) (a_pure (p_mv g0)) ?_
          refine wa_step (v := (.i .i64 x6)) (a_pure (p_mv g6)) ?_
          have hq := bindO_inv hr
          clear hr
          obtain ⟨v27, e27, hr⟩ := hq
          refine wa_step (v := v27) (a_pure (o_ixS rfl rfl e27)) ?_
          have hq := bindO_inv hr
          clear hr
          obtain ⟨v28, e28, hr⟩ := hq
          have hq := asI_inv hr
          clear hr
          obtain ⟨x28, rfl, hr⟩ := hq
          refine wa_step (v := (.i .i64 x28)) (a_ld rfl e28) ?_
          have hq := forceI_inv hr
          clear hr
          obtain ⟨x29, e29, hr⟩ := hq
          refine wa_step (v := (.i .i64 x29)) (a_pure (p_bin rfl rfl (b_add.trans (ci e29)))) ?_
          refine wa_step (v := v0) (a_pure (p_mv g0)) ?_
          refine wa_step (v := (.i .i64 x5)) (a_pure (p_mv g5)) ?_
          refine wa_step (v := (.i .i64 x6)) (a_pure (p_mv g6)) ?_
          have hq := forceI_inv hr
          clear hr
          obtain ⟨x33, e33, hr⟩ := hq
          refine wa_step (v := (.i .i64 x33)) (a_pure (p_bin rfl rfl (b_or.trans (ci e33)))) ?_
          have hq := bindO_inv hr
          clear hr
          obtain ⟨v34, e34, hr⟩ := hq
          refine wa_step (v := v34) (a_pure (o_ixS rfl rfl e34)) ?_
          have hq := bindO_inv hr
          clear hr
          obtain ⟨v35, e35, hr⟩ := hq
          have hq := asI_inv hr
          clear hr
          obtain ⟨x35, rfl, hr⟩ := hq
          refine wa_step (v := (.i .i64 x35)) (a_ld rfl e35) ?_
          refine wa_step (v := v0) (a_pure (p_mv g0)) ?_
          refine wa_step (v := (.i .i64 x5)) (a_pure (p_mv g5)) ?_
          refine wa_step (v := (.i .i64 x6)) (a_pure (p_mv g6)) ?_
          have hq := forceI_inv hr
          clear hr
          obtain ⟨x39, e39, hr⟩ := hq
          refine wa_step (v := (.i .i64 x39)) (a_pure (p_bin rfl rfl (b_and.trans (ci e39)))) ?_
          have hq := bindO_inv hr
          clear hr
          obtain ⟨v40, e40, hr⟩ := hq
          refine wa_step (v := v40) (a_pure (o_ixS rfl rfl e40)) ?_
          have hq := bindO_inv hr
          clear hr
          obtain ⟨v41, e41, hr⟩ := hq
          have hq := asI_inv hr
          clear hr
          obtain ⟨x41, rfl, hr⟩ := hq
          refine wa_step (v := (.i .i64 x41)) (a_ld rfl e41) ?_
          have hq := forceI_inv hr
          clear hr
          obtain ⟨x42, e42, hr⟩ := hq
          refine wa_step (v := (.i .i64 x42)) (a_pure (p_bin rfl rfl (b_add.trans (ci e42)))) ?_
          have hq := forceB_inv hr
          clear hr
          obtain ⟨c43, e43, hr⟩ := hq
          refine wa_step (v := (.b c43)) (a_pure (p_bin rfl rfl (b_lss.trans (cb e43)))) ?_
          refine wa_nil ?_
          refine ⟨m0, rfl, ?_⟩
          refine nx_norm ?_
          have hq := cond_inv hr
          clear hr
          rcases hq with ⟨rfl, hr⟩ | ⟨rfl, hr⟩
          · refine w_condT rfl ?_
            refine w_seq ?_
            refine w_ops ?_
            refine wo_step (v := (.i .i64 x5)) (s_pure (p_mv g5)) ?_
            refine wo_step (v := (.i .i64 x6)) (s_pure (p_mv g6)) ?_
            refine wo_step (v := (.i .i64 x5)) (s_pure (p_mv rfl)) ?_
            refine wo_step (v := (.i .i64 x6)) (s_pure (p_mv rfl)) ?_
            refine wo_step (v := (.b true)) (s_pure (p_mv rfl)) ?_
            refine wo_nil ?_
            refine nx_norm ?_
            refine w_ret ?_
            refine bk_ret ?_
            refine nx_ret ?_
            cases hr
            exact ⟨_, _, rfl, ne_norm_ret, rfl, rfl, gl rfl, gl rfl, gl rfl⟩
          · refine w_condF rfl ?_
            refine w_skip ?_
            refine bk_norm ?_
            refine nx_norm ?_
            refine w_ops ?_
            refine wo_step (v := (.i .i64 x6)) (s_pure (p_mv g6)) ?_
            have hq := forceI_inv hr
            clear hr
            obtain ⟨x20, e20, hr⟩ := hq
            refine wo_step (v := (.i .i64 x20)) (s_pure (p_bin rfl rfl (b_add.trans (ci e20)))) ?_
            refine wo_step (v := (.i .i64 x20)) (s_pure (p_mv rfl)) ?_
            refine wo_nil ?_
            cases hr
            exact ⟨_, _, rfl, rfl, rfl, gl rfl, gl g0, gl g5⟩
        · refine w_condF rfl ?_
          refine w_exit ?_
          refine nx_exit ?_
          cases hr
          exact ⟨_, _, rfl, ne_norm_exit, rfl, rfl, gl g0, gl g5⟩
      · rcases o with o | o
        · rintro _ mm t_3 ⟨rfl, rfl, g0, g5⟩
          refine bk_hit ?_
          refine bk_norm ?_
          refine nx_norm ?_
          refine w_ops ?_
          refine wo_step (v := (.i .i64 x5)) (s_pure (p_mv g5)) ?_
          have hq := forceI_inv hr
          clear hr
          obtain ⟨x12, e12, hr⟩ := hq
          refine wo_step (v := (.i .i64 x12)) (s_pure (p_bin rfl rfl (b_add.trans (ci e12)))) ?_
          refine wo_step (v := (.i .i64 x12)) (s_pure (p_mv rfl)) ?_
          refine wo_nil ?_
          cases hr
          exact ⟨_, _, rfl, rfl, rfl, gl rfl, gl g0⟩
        · obtain ⟨x2, x3, c4⟩ := o
          rintro _ mm_1 t_4 ⟨rfl, rfl, g2, g3, g4⟩
          refine bk_ret ?_
          refine bk_ret ?_
          refine nx_ret ?_
          cases hr
          exact ⟨_, _, rfl, ne_norm_ret, rfl, rfl, gl g2, gl g3, gl g4⟩
    · refine w_condF rfl ?_
      refine w_exit ?_
      refine nx_exit ?_
      cases hr
      exact ⟨_, _, rfl, ne_norm_exit, rfl, rfl⟩
  · rcases o_1 with o_1 | o_1
    · rintro _ mm_3 t_5 ⟨rfl, rfl⟩
      refine bk_hit ?_
      refine nx_norm ?_
      refine w_seq ?_
      refine w_ops ?_
      refine wo_step (v := (.i .i64 0)) (s_pure (p_mv rfl)) ?_
      refine wo_step (v := (.i .i64 0)) (s_pure (p_mv rfl)) ?_
      refine wo_step (v := (.b false)) (s_pure (p_mv rfl)) ?_
      refine wo_nil ?_
      refine nx_norm ?_
      refine w_ret ?_
      exact qf ret_ok (rt rfl (rt rfl (rt rfl rn))) hr
    · obtain ⟨x2_1, x3_1, c4_1⟩ := o_1
      rintro _ mm_4 t_6 ⟨rfl, rfl, g2, g3, g4⟩
      refine bk_ret ?_
      refine nx_ret ?_
      exact qf ret_ok (rt g2 (rt g3 (rt g4 rn))) hr

/- dibber/share.within -/
abbrev g50_J0 (m0 : Mm) (o : Bool) (m1 : Mm) (t1 : Tr) : Prop :=
  match o with
  | c13 => m0 = m1 ∧ t1.get 13 = (.b c13)
def g50 (M : Means) (ro : List ABlk) (x0 : Int) (x1 : Int) (m0 : Mm) : Option (AVal × Heap × Nat × Nat) :=
  forceI (wr .i64 (0 - x1)) fun x6 =>
  forceB (!ltI x0 x6) fun c8 =>
  bindO (cond c8 (
    forceB (!ltI x1 x0) fun c12 =>
    some c12) (
    some false)) fun c13 =>
  finM m0.h.length (tupA [(.b c13)]) m0

theorem g50_ok {ro : List ABlk} {O : Caller} {M : Means} (hM : M.Ok ⟨F, O⟩ ro) {x0 x1 h r} (ho : O 50 [(.i .i64 x0), (.i .i64 x1)] h = none) (hr : g50 M ro x0 x1 ⟨h, h.length, h.length⟩ = some r) : callX ⟨F, O⟩ ro 50 [(.i .i64 x0), (.i .i64 x1)] h = some r := by
  refine callX_of (F := ⟨F, O⟩) (fn := fn50) (g := g50 M ro x0 x1) ho rfl rfl hr ?_
  clear ho
  clear hr
  intro m0 t0 ht hr
  have g0 : t0.get 0 = (.i .i64 x0) := ht 0
  have g1 : t0.get 1 = (.i .i64 x1) := ht 1
  clear ht
  unfold g50 at hr
  refine w_seq ?_
  refine w_ops ?_
  refine wo_step (v := (.b false)) (s_pure (p_mv rfl)) ?_
  refine wo_nil ?_
  refine nx_norm ?_
  refine w_seq ?_
  refine w_ops ?_
  refine wo_step (v := (.i .i64 x1)) (s_pure (p_mv g1)) ?_
  have hq := forceI_inv hr
  clear hr
  obtain ⟨x6, e6, hr⟩ := hq
  refine wo_step (v := (.i .i64 x6)) (s_pure ((p_neg rfl).trans (ci e6))) ?_
  refine wo_step (v := (.i .i64 x0)) (s_pure (p_mv g0)) ?_
  have hq := forceB_inv hr
  clear hr
  obtain ⟨c8, e8, hr⟩ := hq
  refine wo_step (v := (.b c8)) (s_pure (p_bin rfl rfl (b_leq.trans (cb e8)))) ?_
  refine wo_step (v := (.b c8)) (s_pure (p_mv rfl)) ?_
  have hq := bindO_inv hr
  clear hr
  obtain ⟨o, hr, hk⟩ := hq
  refine wo_join 4 (g50_J0 m0 o) ?_ ?_
  · clear hk
    have hq := cond_inv hr
    clear hr
    rcases hq with ⟨rfl, hr⟩ | ⟨rfl, hr⟩
    · refine wo_take (v := (.i .i64 x0)) rfl (s_pure (p_mv g0)) ?_
      refine wo_take (v := (.i .i64 x1)) rfl (s_pure (p_mv g1)) ?_
      have hq := forceB_inv hr
      clear hr
      obtain ⟨c12, e12, hr⟩ := hq
      refine wo_take (v := (.b c12)) rfl (s_pure (p_bin rfl rfl (b_leq.trans (cb e12)))) ?_
      refine wo_step (v := (.b c12)) (s_pure (p_pickT rfl rfl)) ?_
      refine wo_nil ?_
      cases hr
      exact ⟨_, _, rfl, rfl, gl rfl⟩
    · refine wo_skip (v := (.b false)) rfl rfl ?_
      refine wo_skip (v := (.b false)) rfl rfl ?_
      refine wo_skip (v := (.b false)) rfl rfl ?_
      refine wo_step (v := (.b false)) (s_pure (p_pickF rfl rfl)) ?_
      refine wo_nil ?_
      cases hr
      exact ⟨_, _, rfl, rfl, gl rfl⟩
  · clear hr
    have hr := hk
    clear hk
    obtain ⟨c13, ho⟩ : ∃ z, z = o := ⟨_, rfl⟩
    subst ho
    rintro mm t_1 ⟨rfl, g13⟩
    refine wo_step (v := (.b c13)) (s_pure (p_mv g13)) ?_
    refine wo_nil ?_
    refine nx_norm ?_
    refine w_ret ?_
    exact qf ret_ok (rt rfl rn) hr

/- dibber/share.fault -/

def g51 (M : Means) (ro : List ABlk) (x0 : Int) (v1 : AVal) (m0 : Mm) : Option (AVal × Heap × Nat × Nat) :=
  bindP (callM M.call m0 16 [(.i .i64 x0), v1]) fun v11 m_1 =>
  bindO (evP .e (.ext 0 (.c v11))) fun v12 =>
  asI .i64 v12 fun x12 =>
  bindO (evP .e (.ext 1 (.c v11))) fun v13 =>
  asI .i64 v13 fun x13 =>
  bindO (evP .e (.ext 2 (.c v11))) fun v14 =>
  asI .i64 v14 fun x14 =>
  forceB (eqI x14 0) fun c18 =>
  cond c18 (
    finM m0.h.length (tupA [(.i .i64 5)]) m_1) (
    forceB (eqI x14 10) fun c20 =>
    cond c20 (
      finM m0.h.length (tupA [(.i .i64 0)]) m_1) (
      finM m0.h.length (tupA [(.i .i64 x14)]) m_1))

theorem g51_ok {ro : List ABlk} {O : Caller} {M : Means} (hM : M.Ok ⟨F, O⟩ ro) {x0 v1 h r} (ho : O 51 [(.i .i64 x0), v1] h = none) (hr : g51 M ro x0 v1 ⟨h, h.length, h.length⟩ = some r) : callX ⟨F, O⟩ ro 51 [(.i .i64 x0), v1] h = some r := by
  refine callX_of (F := ⟨F, O⟩) (fn := fn51) (g := g51 M ro x0 v1) ho rfl rfl hr ?_
  clear ho
  clear hr
  intro m0 t0 ht hr
  have g0 : t0.get 0 = (.i .i64 x0) := ht 0
  have g1 : t0.get 1 = v1 := ht 1
  clear ht
  unfold g51 at hr
  refine w_seq ?_
  refine w_ops ?_
  refine wo_step (v := (.i .i64 0)) (s_pure (p_mv rfl)) ?_
  refine wo_nil ?_
  refine nx_norm ?_
  refine w_seq ?_
  refine w_ops ?_
  refine wo_step (v := (.i .i64 x0)) (s_pure (p_mv g0)) ?_
  refine wo_step (v := v1) (s_pure (p_mv g1)) ?_
  have hq := bindP_inv hr
  clear hr
  obtain ⟨v11, m_1, e11, hr⟩ := hq
  refine wo_step (v := v11) (s_call (mc rfl (mc rfl mn)) (callM_le hM.call e11)) ?_
  refine wo_step (v := v11) (s_pure (p_mv rfl)) ?_
  have hq := bindO_inv hr
  clear hr
  obtain ⟨v12, e12, hr⟩ := hq
  have hq := asI_inv hr
  clear hr
  obtain ⟨x12, rfl, hr⟩ := hq
  refine wo_step (v := (.i .i64 x12)) (s_pure (o_ext rfl e12)) ?_
  have hq := bindO_inv hr
  clear hr
  obtain ⟨v13, e13, hr⟩ := hq
  have hq := asI_inv hr
  clear hr
  obtain ⟨x13, rfl, hr⟩ := hq
  refine wo_step (v := (.i .i64 x13)) (s_pure (o_ext rfl e13)) ?_
  have hq := bindO_inv hr
  clear hr
  obtain ⟨v14, e14, hr⟩ := hq
  have hq := asI_inv hr
  clear hr
  obtain ⟨x14, rfl, hr⟩ := hq
  refine wo_step (v := (.i .i64 x14)) (s_pure (o_ext rfl e14)) ?_
  refine wo_step (v := (.i .i64 x12)) (s_pure (p_mv rfl)) ?_
  refine wo_step (v := (.i .i64 x13)) (s_pure (p_mv rfl)) ?_
  refine wo_step (v := (.i .i64 x14)) (s_pure (p_mv rfl)) ?_
  refine wo_nil ?_
  refine nx_norm ?_
  refine w_seq ?_
  refine w_ops ?_
  refine wo_step (v := (.i .i64 x14)) (s_pure (p_mv rfl)) ?_
  refine wo_nil ?_
  refine nx_norm ?_
  refine w_block ?_
  refine w_seq ?_
  refine w_ops ?_
  have hq := forceB_inv hr
  clear hr
  obtain ⟨c18, e18, hr⟩ := hq
  refine wo_step (v := (.b c18)) (s_pure (p_bin rfl rfl (b_eql.trans (cb e18)))) ?_
  refine wo_step (v := (.b c18)) (s_pure (p_mv rfl)) ?_
  refine wo_nil ?_
  refine nx_norm ?_
  have hq := cond_inv hr
  clear hr
  rcases hq with ⟨rfl, hr⟩ | ⟨rfl, hr⟩
  · refine w_condT rfl ?_
    refine w_seq ?_
    refine w_ops ?_
    refine wo_step (v := (.i .i64 5)) (s_pure (p_mv rfl)) ?_
    refine wo_nil ?_
    refine nx_norm ?_
    refine w_ret ?_
    refine bk_ret ?_
    exact qf ret_ok (rt rfl rn) hr
  · refine w_condF rfl ?_
    refine w_seq ?_
    refine w_ops ?_
    have hq := forceB_inv hr
    clear hr
    obtain ⟨c20, e20, hr⟩ := hq
    refine wo_step (v := (.b c20)) (s_pure (p_bin rfl rfl (b_eql.trans (cb e20)))) ?_
    refine wo_step (v := (.b c20)) (s_pure (p_mv rfl)) ?_
    refine wo_nil ?_
    refine nx_norm ?_
    have hq := cond_inv hr
    clear hr
    rcases hq with ⟨rfl, hr⟩ | ⟨rfl, hr⟩
    · refine w_condT rfl ?_
      refine w_seq ?_
      refine w_ops ?_
      refine wo_step (v := (.i .i64 0)) (s_pure (p_mv rfl)) ?_
      refine wo_nil ?_
      refine nx_norm ?_
      refine w_ret ?_
      refine bk_ret ?_
      exact qf ret_ok (rt rfl rn) hr
    · refine w_condF rfl ?_
      refine w_seq ?_
      refine w_ops ?_
      refine wo_step (v := (.i .i64 x14)) (s_pure (p_mv rfl)) ?_
      refine wo_step (v := (.i .i64 x14)) (s_pure (p_mv rfl)) ?_
      refine wo_nil ?_
      refine nx_norm ?_
      refine w_ret ?_
      refine bk_ret ?_
      exact qf ret_ok (rt rfl rn) hr

/- dibber/share.greedy -/
abbrev g53_I0 (v0 : AVal) (v12 : AVal) (v1 : AVal) (x14 : Int) (s : Int × Int × Mm) (m1 : Mm) (t1 : Tr) : Prop :=
  match s with
  | (x6, x15, m_2) => m_2 = m1 ∧ t1.get 6 = (.i .i64 x6) ∧ t1.get 15 = (.i .i64 x15) ∧ t1.get 0 = v0 ∧ t1.get 5 = v12 ∧ t1.get 13 = v1 ∧ t1.get 14 = (.i .i64 x14)
abbrev g53_J0 (v0 : AVal) (v12 : AVal) (v1 : AVal) (x14 : Int) (o : Mm) (e : AExit) (m1 : Mm) (t1 : Tr) : Prop :=
  match o with
  | mo => e = (.exit 0) ∧ mo = m1 ∧ t1.get 5 = v12
def g53_b0 (M : Means) (ro : List ABlk) (v0 : AVal) (v12 : AVal) (v1 : AVal) (x14 : Int) (x6 : Int) (x15 : Int) (m_2 : Mm) : Option ((Int × Int × Mm) ⊕ (Mm)) :=
  forceB (ltI x15 x14) fun c16 =>
  cond c16 (
    bindO (evP .e (.ixS 1 (.c v1) (.c (.i .i64 x15)))) fun v17 =>
    bindO (ldM ro m_2 true 1 v17) fun v18 =>
    asI .i64 v18 fun x18 =>
    bindO (evP .e (.ixS 1 (.c v0) (.c (.i .i64 x6)))) fun v21 =>
    bindO (ldM ro m_2 true 1 v21) fun v22 =>
    asI .i64 v22 fun x22 =>
    chk (!ltI x18 (.ofNat 0)) <|
    forceI (shlV .i64 1 x18) fun x25 =>
    forceI (bitV .or .i64 x6 x25) fun x26 =>
    bindO (evP .e (.ixS 1 (.c v0) (.c (.i .i64 x26)))) fun v31 =>
    bindO (ldM ro m_2 true 1 v31) fun v32 =>
    asI .i64 v32 fun x32 =>
    forceI (wr .i64 (x32 - x22)) fun x34 =>
    bindO (evP .e (.ixS 1 (.c v12) (.c (.i .i64 x18)))) fun v35 =>
    bindP (stepM ro m_2 (.st 1 (.c v35) (.c (.i .i64 x34)))) fun vn m_3 =>
    forceI (wr .i64 (x15 + 1)) fun x36 =>
    some (.inl (x26, x36, m_3))) (
    some (.inr m_2))
def g53 (M : Means) (ro : List ABlk) (v0 : AVal) (v1 : AVal) (m0 : Mm) : Option (AVal × Heap × Nat × Nat) :=
  bindO (evP .e (.len false (.c v1))) fun v11 =>
  asI .i64 v11 fun x11 =>
  bindP (stepM ro m0 (.mk 3 1 8 [(AVal.i IntKind.i64 0)] (.c (.i .i64 x11)) (.c (.i .i64 x11)))) fun v12 m_1 =>
  bindO (evP .e (.len false (.c v1))) fun v14 =>
  asI .i64 v14 fun x14 =>
  bindO (M.loop (S := Int × Int × Mm) (R := Mm) (fun s => g53_b0 M ro v0 v12 v1 x14 s.1 s.2.1 s.2.2) (0, 0, m_1)) fun m_4 =>
  finM m0.h.length (tupA [v12]) m_4

theorem g53_ok {ro : List ABlk} {O : Caller} {M : Means} (hM : M.Ok ⟨F, O⟩ ro) {v0 v1 h r} (ho : O 53 [v0, v1] h = none) (hr : g53 M ro v0 v1 ⟨h, h.length, h.length⟩ = some r) : callX ⟨F, O⟩ ro 53 [v0, v1] h = some r := by
  refine callX_of (F := ⟨F, O⟩) (fn := fn53) (g := g53 M ro v0 v1) ho rfl rfl hr ?_
  clear ho
  clear hr
  intro m0 t0 ht hr
  have g0 : t0.get 0 = v0 := ht 0
  have g1 : t0.get 1 = v1 := ht 1
  clear ht
  unfold g53 at hr
  refine w_seq ?_
  refine w_ops ?_
  refine wo_step (v := AVal.nsl) (s_pure (p_mv rfl)) ?_
  refine wo_nil ?_
  refine nx_norm ?_
  refine w_seq ?_
  refine w_ops ?_
  refine wo_step (v := v1) (s_pure (p_mv g1)) ?_
  have hq := bindO_inv hr
  clear hr
  obtain ⟨v11, e11, hr⟩ := hq
  have hq := asI_inv hr
  clear hr
  obtain ⟨x11, rfl, hr⟩ := hq
  refine wo_step (v := (.i .i64 x11)) (s_pure (o_len rfl e11)) ?_
  have hq := bindP_inv hr
  clear hr
  obtain ⟨v12, m_1, e12, hr⟩ := hq
  refine wo_step (v := v12) (s_mk rfl rfl e12) ?_
  refine wo_step (v := v12) (s_pure (p_mv rfl)) ?_
  refine wo_nil ?_
  refine nx_norm ?_
  refine w_seq ?_
  refine w_ops ?_
  refine wo_step (v := (.i .i64 0)) (s_pure (p_mv rfl)) ?_
  refine wo_nil ?_
  refine nx_norm ?_
  refine w_seq ?_
  refine w_seq ?_
  refine w_ops ?_
  refine wo_step (v := v1) (s_pure (p_mv g1)) ?_
  have hq := bindO_inv hr
  clear hr
  obtain ⟨v14, e14, hr⟩ := hq
  have hq := asI_inv hr
  clear hr
  obtain ⟨x14, rfl, hr⟩ := hq
  refine wo_step (v := (.i .i64 x14)) (s_pure (o_len rfl e14)) ?_
  refine wo_step (v := (.i .i64 0)) (s_pure (p_mv rfl)) ?_
  refine wo_nil ?_
  refine nx_norm ?_
  refine w_block ?_
  have hq := bindO_inv hr
  clear hr
  obtain ⟨o, hl, hr⟩ := hq
  obtain ⟨n, hl⟩ := hM.loop _ _ _ hl
  refine jp_mono (w_loop _ (g53_I0 v0 v12 v1 x14) (g53_J0 v0 v12 v1 x14) ?_ n _ _ _ _ hl ⟨rfl, gl rfl, gl rfl, gl g0, gl rfl, gl rfl, gl rfl⟩) ?_
  · clear hr hl
    intro s mm_1 t_1 o hi hr
    obtain ⟨x6, x15, m_2⟩ := s
    obtain ⟨rfl, g6, g15, g0, g5, g13, g14⟩ := hi
    unfold g53_b0 at hr
    refine w_seq ?_
    refine w_ops ?_
    have hq := forceB_inv hr
    clear hr
    obtain ⟨c16, e16, hr⟩ := hq
    refine wo_step (v := (.b c16)) (s_pure (p_bin g15 g14 (b_lss.trans (cb e16)))) ?_
    refine wo_nil ?_
    refine nx_norm ?_
    refine w_seq ?_
    have hq := cond_inv hr
    clear hr
    rcases hq with ⟨rfl, hr⟩ | ⟨rfl, hr⟩
    · refine w_condT rfl ?_
      refine w_skip ?_
      refine nx_norm ?_
      refine w_seq ?_
      refine w_block ?_
      refine w_seq ?_
      refine w_ops ?_
      have hq := bindO_inv hr
      clear hr
      obtain ⟨v17, e17, hr⟩ := hq
      refine wo_step (v := v17) (s_pure (o_ixS g13 g15 e17)) ?_
      have hq := bindO_inv hr
      clear hr
      obtain ⟨v18, e18, hr⟩ := hq
      have hq := asI_inv hr
      clear hr
      obtain ⟨x18, rfl, hr⟩ := hq
      refine wo_step (v := (.i .i64 x18)) (s_ld rfl e18) ?_
      refine wo_step (v := (.i .i64 x18)) (s_pure (p_mv rfl)) ?_
      refine wo_nil ?_
      refine nx_norm ?_
      refine w_seq ?_
      refine w_ops ?_
      refine wo_step (v := v0) (s_pure (p_mv g0)) ?_
      refine wo_step (v := (.i .i64 x6)) (s_pure (p_mv g6)) ?_
      have hq := bindO_inv hr
      clear hr
      obtain ⟨v21, e21, hr⟩ := hq
      refine wo_step (v := v21) (s_pure (o_ixS rfl rfl e21)) ?_
      have hq := bindO_inv hr
      clear hr
      obtain ⟨v22, e22, hr⟩ := hq
      have hq := asI_inv hr
      clear hr
      obtain ⟨x22, rfl, hr⟩ := hq
      refine wo_step (v := (.i .i64 x22)) (s_ld rfl e22) ?_
      refine wo_step (v := (.i .i64 x22)) (s_pure (p_mv rfl)) ?_
      refine wo_nil ?_
      refine nx_norm ?_
      refine w_seq ?_
      refine w_ops ?_
      refine wo_step (v := (.i .i64 x6)) (s_pure (p_mv g6)) ?_
      refine wo_step (v := (.i .i64 x18)) (s_pure (p_mv rfl)) ?_
      have hq := chk_inv hr
      clear hr
      obtain ⟨hc25, hr⟩ := hq
      have hq := forceI_inv hr
      clear hr
      obtain ⟨x25, e25, hr⟩ := hq
      refine wo_step (v := (.i .i64 x25)) (s_pure (p_bin rfl rfl ((b_shl hc25).trans (ci e25)))) ?_
      have hq := forceI_inv hr
      clear hr
      obtain ⟨x26, e26, hr⟩ := hq
      refine wo_step (v := (.i .i64 x26)) (s_pure (p_bin rfl rfl (b_or.trans (ci e26)))) ?_
      refine wo_step (v := (.i .i64 x26)) (s_pure (p_mv rfl)) ?_
      refine wo_nil ?_
      refine nx_norm ?_
      refine w_ops ?_
      refine wo_step (v := v12) (s_pure (p_mv g5)) ?_
      refine wo_step (v := (.i .i64 x18)) (s_pure (p_mv rfl)) ?_
      refine wo_step (v := v0) (s_pure (p_mv g0)) ?_
      refine wo_step (v := (.i .i64 x26)) (s_pure (p_mv rfl)) ?_
      have hq := bindO_inv hr
      clear hr
      obtain ⟨v31, e31, hr⟩ := hq
      refine wo_step (v := v31) (s_pure (o_ixS rfl rfl e31)) ?_
      have hq := bindO_inv hr
      clear hr
      obtain ⟨v32, e32, hr⟩ := hq
      have hq := asI_inv hr
      clear hr
      obtain ⟨x32, rfl, hr⟩ := hq
      refine wo_step (v := (.i .i64 x32)) (s_ld rfl e32) ?_
      refine wo_step (v := (.i .i64 x22)) (s_pure (p_mv rfl)) ?_
      have hq := forceI_inv hr
      clear hr
      obtain ⟨x34, e34, hr⟩ := hq
      refine wo_step (v := (.i .i64 x34)) (s_pure (p_bin rfl rfl (b_sub.trans (ci e34)))) ?_
      have hq := bindO_inv hr
      clear hr
      obtain ⟨v35, e35, hr⟩ := hq
      refine wo_step (v := v35) (s_pure (o_ixS rfl rfl e35)) ?_
      have hq := bindP_inv hr
      clear hr
      obtain ⟨vn, m_3, en, hr⟩ := hq
      refine wo_stepN (s_st rfl rfl en) ?_
      refine wo_nil ?_
      refine bk_norm ?_
      refine nx_norm ?_
      refine w_ops ?_
      have hq := forceI_inv hr
      clear hr
      obtain ⟨x36, e36, hr⟩ := hq
      refine wo_step (v := (.i .i64 x36)) (s_pure (p_bin g15 rfl (b_add.trans (ci e36)))) ?_
      refine wo_step (v := (.i .i64 x36)) (s_pure (p_mv rfl)) ?_
      refine wo_nil ?_
      cases hr
      exact ⟨_, _, rfl, rfl, rfl, gl rfl, gl rfl, gl g0, gl g5, gl g13, gl g14⟩
    · refine w_condF rfl ?_
      refine w_exit ?_
      refine nx_exit ?_
      cases hr
      exact ⟨_, _, rfl, ne_norm_exit, rfl, rfl, gl g5⟩
  · obtain ⟨m_4, ho⟩ : ∃ z, z = o := ⟨_, rfl⟩
    subst ho
    rintro _ mm t_2 ⟨rfl, rfl, g5⟩
    refine bk_hit ?_
    refine nx_norm ?_
    refine w_seq ?_
    refine w_ops ?_
    refine wo_step (v := v12) (s_pure (p_mv g5)) ?_
    refine wo_step (v := v12) (s_pure (p_mv rfl)) ?_
    refine wo_nil ?_
    refine nx_norm ?_
    refine w_ret ?_
    exact qf ret_ok (rt rfl rn) hr

/- dibber/share.has -/

def g60 (M : Means) (ro : List ABlk) (x0 : Int) (x1 : Int) (m0 : Mm) : Option (AVal × Heap × Nat × Nat) :=
  chk (!ltI x1 (.ofNat 0)) <|
  forceI (shrV .i64 x0 x1) fun x7 =>
  forceI (bitV .and .i64 x7 1) fun x8 =>
  forceB (eqI x8 1) fun c9 =>
  finM m0.h.length (tupA [(.b c9)]) m0

theorem g60_ok {ro : List ABlk} {O : Caller} {M : Means} (hM : M.Ok ⟨F, O⟩ ro) {x0 x1 h r} (ho : O 60 [(.i .i64 x0), (.i .i64 x1)] h = none) (hr : g60 M ro x0 x1 ⟨h, h.length, h.length⟩ = some r) : callX ⟨F, O⟩ ro 60 [(.i .i64 x0), (.i .i64 x1)] h = some r := by
  refine callX_of (F := ⟨F, O⟩) (fn := fn60) (g := g60 M ro x0 x1) ho rfl rfl hr ?_
  clear ho
  clear hr
  intro m0 t0 ht hr
  have g0 : t0.get 0 = (.i .i64 x0) := ht 0
  have g1 : t0.get 1 = (.i .i64 x1) := ht 1
  clear ht
  unfold g60 at hr
  refine w_seq ?_
  refine w_ops ?_
  refine wo_step (v := (.b false)) (s_pure (p_mv rfl)) ?_
  refine wo_nil ?_
  refine nx_norm ?_
  refine w_seq ?_
  refine w_ops ?_
  refine wo_step (v := (.i .i64 x0)) (s_pure (p_mv g0)) ?_
  refine wo_step (v := (.i .i64 x1)) (s_pure (p_mv g1)) ?_
  have hq := chk_inv hr
  clear hr
  obtain ⟨hc7, hr⟩ := hq
  have hq := forceI_inv hr
  clear hr
  obtain ⟨x7, e7, hr⟩ := hq
  refine wo_step (v := (.i .i64 x7)) (s_pure (p_bin rfl rfl ((b_shr hc7).trans (ci e7)))) ?_
  have hq := forceI_inv hr
  clear hr
  obtain ⟨x8, e8, hr⟩ := hq
  refine wo_step (v := (.i .i64 x8)) (s_pure (p_bin rfl rfl (b_and.trans (ci e8)))) ?_
  have hq := forceB_inv hr
  clear hr
  obtain ⟨c9, e9, hr⟩ := hq
  refine wo_step (v := (.b c9)) (s_pure (p_bin rfl rfl (b_eql.trans (cb e9)))) ?_
  refine wo_step (v := (.b c9)) (s_pure (p_mv rfl)) ?_
  refine wo_nil ?_
  refine nx_norm ?_
  refine w_ret ?_
  exact qf ret_ok (rt rfl rn) hr

/- dibber/share.isSharing -/
abbrev g65_J0  (o : Bool × Mm) (m1 : Mm) (t1 : Tr) : Prop :=
  match o with
  | (c12, m_1) => m_1 = m1 ∧ t1.get 12 = (.b c12)
def g65 (M : Means) (ro : List ABlk) (x0 : Int) (v1 : AVal) (m0 : Mm) : Option (AVal × Heap × Nat × Nat) :=
  bindO (evP .e (.len false (.c v1))) fun v6 =>
  asI .i64 v6 fun x6 =>
  forceB (eqI x6 x0) fun c8 =>
  bindO (cond c8 (
    bindP (callM M.call m0 87 [v1, (.i .i64 6000000)]) fun v11 m_2 =>
    asB v11 fun c11 =>
    some (c11, m_2)) (
    some (false, m0))) fun ⟨c12, m_1⟩ =>
  finM m0.h.length (tupA [(.b c12)]) m_1

theorem g65_ok {ro : List ABlk} {O : Caller} {M : Means} (hM : M.Ok ⟨F, O⟩ ro) {x0 v1 h r} (ho : O 65 [(.i .i64 x0), v1] h = none) (hr : g65 M ro x0 v1 ⟨h, h.length, h.length⟩ = some r) : callX ⟨F, O⟩ ro 65 [(.i .i64 x0), v1] h = some r := by
  refine callX_of (F := ⟨F, O⟩) (fn := fn65) (g := g65 M ro x0 v1) ho rfl rfl hr ?_
  clear ho
  clear hr
  intro m0 t0 ht hr
  have g0 : t0.get 0 = (.i .i64 x0) := ht 0
  have g1 : t0.get 1 = v1 := ht 1
  clear ht
  unfold g65 at hr
  refine w_seq ?_
  refine w_ops ?_
  refine wo_step (v := (.b false)) (s_pure (p_mv rfl)) ?_
  refine wo_nil ?_
  refine nx_norm ?_
  refine w_seq ?_
  refine w_ops ?_
  refine wo_step (v := v1) (s_pure (p_mv g1)) ?_
  have hq := bindO_inv hr
  clear hr
  obtain ⟨v6, e6, hr⟩ := hq
  have hq := asI_inv hr
  clear hr
  obtain ⟨x6, rfl, hr⟩ := hq
  refine wo_step (v := (.i .i64 x6)) (s_pure (o_len rfl e6)) ?_
  refine wo_step (v := (.i .i64 x0)) (s_pure (p_mv g0)) ?_
  have hq := forceB_inv hr
  clear hr
  obtain ⟨c8, e8, hr⟩ := hq
  refine wo_step (v := (.b c8)) (s_pure (p_bin rfl rfl (b_eql.trans (cb e8)))) ?_
  refine wo_step (v := (.b c8)) (s_pure (p_mv rfl)) ?_
  have hq := bindO_inv hr
  clear hr
  obtain ⟨o, hr, hk⟩ := hq
  refine wo_join 3 (g65_J0  o) ?_ ?_
  · clear hk
    have hq := cond_inv hr
    clear hr
    rcases hq with ⟨rfl, hr⟩ | ⟨rfl, hr⟩
    · refine wo_take (v := v1) rfl (s_pure (p_mv g1)) ?_
      have hq := bindP_inv hr
      clear hr
      obtain ⟨v11, m_2, e11, hr⟩ := hq
      have hq := asB_inv hr
      clear hr
      obtain ⟨c11, rfl, hr⟩ := hq
      refine wo_take (v := (.b c11)) rfl (s_call (mc rfl (mc rfl mn)) (callM_le hM.call e11)) ?_
      refine wo_step (v := (.b c11)) (s_pure (p_pickT rfl rfl)) ?_
      refine wo_nil ?_
      cases hr
      exact ⟨_, _, rfl, rfl, gl rfl⟩
    · refine wo_skip (v := (.b false)) rfl rfl ?_
      refine wo_skip (v := (.b false)) rfl rfl ?_
      refine wo_step (v := (.b false)) (s_pure (p_pickF rfl rfl)) ?_
      refine wo_nil ?_
      cases hr
      exact ⟨_, _, rfl, rfl, gl rfl⟩
  · clear hr
    have hr := hk
    clear hk
    obtain ⟨c12, m_1⟩ := o
    rintro mm t_1 ⟨rfl, g12⟩
    refine wo_step (v := (.b c12)) (s_pure (p_mv g12)) ?_
    refine wo_nil ?_
    refine nx_norm ?_
    refine w_ret ?_
    exact qf ret_ok (rt rfl rn) hr

/- dibber/share.paysMore -/

def g66 (M : Means) (ro : List ABlk) (v0 : AVal) (v1 : AVal) (m0 : Mm) : Option (AVal × Heap × Nat × Nat) :=
  bindP (stepM ro m0 (.bx 22 1 (.c v0))) fun v2 m_1 =>
  bindP (stepM ro m_1 (.bx 22 1 (.c v1))) fun v3 m_2 =>
  bindO (some (AVal.fn 95 [] [v3, v2])) fun v5 =>
  finM m0.h.length (tupA [v5]) m_2

theorem g66_ok {ro : List ABlk} {O : Caller} {M : Means} (hM : M.Ok ⟨F, O⟩ ro) {v0 v1 h r} (ho : O 66 [v0, v1] h = none) (hr : g66 M ro v0 v1 ⟨h, h.length, h.length⟩ = some r) : callX ⟨F, O⟩ ro 66 [v0, v1] h = some r := by
  refine callX_of (F := ⟨F, O⟩) (fn := fn66) (g := g66 M ro v0 v1) ho rfl rfl hr ?_
  clear ho
  clear hr
  intro m0 t0 ht hr
  have g0 : t0.get 0 = v0 := ht 0
  have g1 : t0.get 1 = v1 := ht 1
  clear ht
  unfold g66 at hr
  refine w_seq ?_
  refine w_ops ?_
  have hq := bindP_inv hr
  clear hr
  obtain ⟨v2, m_1, e2, hr⟩ := hq
  refine wo_step (v := v2) (s_bx g0 e2) ?_
  have hq := bindP_inv hr
  clear hr
  obtain ⟨v3, m_2, e3, hr⟩ := hq
  refine wo_step (v := v3) (s_bx g1 e3) ?_
  refine wo_step (v := AVal.nfn) (s_pure (p_mv rfl)) ?_
  refine wo_nil ?_
  refine nx_norm ?_
  refine w_seq ?_
  refine w_ops ?_
  have hq := bindO_inv hr
  clear hr
  obtain ⟨v5, e5, hr⟩ := hq
  refine wo_step (v := v5) (s_pure ((o_mkfn mn (mc rfl (mc rfl mn))).trans e5)) ?_
  refine wo_step (v := v5) (s_pure (p_mv rfl)) ?_
  refine wo_nil ?_
  refine nx_norm ?_
  refine w_ret ?_
  exact qf ret_ok (rt rfl rn) hr

/- dibber/share.total -/
abbrev g67_I0 (x1 : Int) (v0 : AVal) (x9 : Int) (s : Int × Int × Mm) (m1 : Mm) (t1 : Tr) : Prop :=
  match s with
  | (x5, x10, m_1) => m_1 = m1 ∧ t1.get 5 = (.i .i64 x5) ∧ t1.get 10 = (.i .i64 x10) ∧ t1.get 1 = (.i .i64 x1) ∧ t1.get 8 = v0 ∧ t1.get 9 = (.i .i64 x9)
abbrev g67_J0 (x1 : Int) (v0 : AVal) (x9 : Int) (o : (Int × Mm)) (e : AExit) (m1 : Mm) (t1 : Tr) : Prop :=
  match o with
  | (y5, mo) => e = (.exit 0) ∧ mo = m1 ∧ t1.get 5 = (.i .i64 y5)
abbrev g67_J1 (x1 : Int) (v0 : AVal) (x9 : Int) (x10 : Int) (m_2 : Mm) (o : Int) (e : AExit) (m1 : Mm) (t1 : Tr) : Prop :=
  match o with
  | y5 => e = .norm ∧ m_2 = m1 ∧ t1.get 5 = (.i .i64 y5) ∧ t1.get 1 = (.i .i64 x1) ∧ t1.get 8 = v0 ∧ t1.get 9 = (.i .i64 x9) ∧ t1.get 10 = (.i .i64 x10)
def g67_b0 (M : Means) (ro : List ABlk) (x1 : Int) (v0 : AVal) (x9 : Int) (x5 : Int) (x10 : Int) (m_1 : Mm) : Option ((Int × Int × Mm) ⊕ ((Int × Mm))) :=
  forceB (ltI x10 x9) fun c11 =>
  cond c11 (
    bindO (evP .e (.ixS 1 (.c v0) (.c (.i .i64 x10)))) fun v13 =>
    bindO (ldM ro m_1 true 1 v13) fun v14 =>
    asI .i64 v14 fun x14 =>
    bindP (callM M.call m_1 60 [(.i .i64 x1), (.i .i64 x10)]) fun v17 m_2 =>
    asB v17 fun c17 =>
    bindO (α := Int) (
      cond c17 (
        forceI (wr .i64 (x5 + x14)) fun x20 =>
        some x20) (
        some x5)) fun x5_1 =>
    forceI (wr .i64 (x10 + 1)) fun x21 =>
    some (.inl (x5_1, x21, m_2))) (
    some (.inr (x5, m_1)))
def g67 (M : Means) (ro : List ABlk) (v0 : AVal) (x1 : Int) (m0 : Mm) : Option (AVal × Heap × Nat × Nat) :=
  bindO (evP .e (.len false (.c v0))) fun v9 =>
  asI .i64 v9 fun x9 =>
  bindO (M.loop (S := Int × Int × Mm) (R := (Int × Mm)) (fun s => g67_b0 M ro x1 v0 x9 s.1 s.2.1 s.2.2) (0, 0, m0)) fun ⟨x5_2, m_3⟩ =>
  finM m0.h.length (tupA [(.i .i64 x5_2)]) m_3

theorem g67_ok {ro : List ABlk} {O : Caller} {M : Means} (hM : M.Ok ⟨F, O⟩ ro) {v0 x1 h r} (ho : O 67 [v0, (.i .i64 x1)] h = none) (hr : g67 M ro v0 x1 ⟨h, h.length, h.length⟩ = some r) : callX ⟨F, O⟩ ro 67 [v0, (.i .i64 x1)] h = some r := by
  refine callX_of (F := ⟨F, O⟩) (fn := fn67) (g := g67 M ro v0 x1) ho rfl rfl hr ?_
  clear ho
  clear hr
  intro m0 t0 ht hr
  have g0 : t0.get 0 = v0 := ht 0
  have g1 : t0.get 1 = (.i .i64 x1) := ht 1
  clear ht
  unfold g67 at hr
  refine w_seq ?_
  refine w_ops ?_
  refine wo_step (v := (.i .i64 0)) (s_pure (p_mv rfl)) ?_
  refine wo_nil ?_
  refine nx_norm ?_
  refine w_seq ?_
  refine w_ops ?_
  refine wo_step (v := (.i .i64 0)) (s_pure (p_mv rfl)) ?_
  refine wo_nil ?_
  refine nx_norm ?_
  refine w_seq ?_
  refine w_seq ?_
  refine w_ops ?_
  refine wo_step (v := v0) (s_pure (p_mv g0)) ?_
  have hq := bindO_inv hr
  clear hr
  obtain ⟨v9, e9, hr⟩ := hq
  have hq := asI_inv hr
  clear hr
  obtain ⟨x9, rfl, hr⟩ := hq
  refine wo_step (v := (.i .i64 x9)) (s_pure (o_len rfl e9)) ?_
  refine wo_step (v := (.i .i64 0)) (s_pure (p_mv rfl)) ?_
  refine wo_nil ?_
  refine nx_norm ?_
  refine w_block ?_
  have hq := bindO_inv hr
  clear hr
  obtain ⟨o_1, hl, hr⟩ := hq
  obtain ⟨n, hl⟩ := hM.loop _ _ _ hl
  refine jp_mono (w_loop _ (g67_I0 x1 v0 x9) (g67_J0 x1 v0 x9) ?_ n _ _ _ _ hl ⟨rfl, gl rfl, gl rfl, gl g1, gl rfl, gl rfl⟩) ?_
  · clear hr hl
    intro s mm_2 t_1 o hi hr
    obtain ⟨x5, x10, m_1⟩ := s
    obtain ⟨rfl, g5, g10, g1, g8, g9⟩ := hi
    unfold g67_b0 at hr
    refine w_seq ?_
    refine w_ops ?_
    have hq := forceB_inv hr
    clear hr
    obtain ⟨c11, e11, hr⟩ := hq
    refine wo_step (v := (.b c11)) (s_pure (p_bin g10 g9 (b_lss.trans (cb e11)))) ?_
    refine wo_nil ?_
    refine nx_norm ?_
    refine w_seq ?_
    have hq := cond_inv hr
    clear hr
    rcases hq with ⟨rfl, hr⟩ | ⟨rfl, hr⟩
    · refine w_condT rfl ?_
      refine w_skip ?_
      refine nx_norm ?_
      refine w_seq ?_
      refine w_block ?_
      refine w_seq ?_
      refine w_ops ?_
      refine wo_step (v := (.i .i64 x10)) (s_pure (p_mv g10)) ?_
      have hq := bindO_inv hr
      clear hr
      obtain ⟨v13, e13, hr⟩ := hq
      refine wo_step (v := v13) (s_pure (o_ixS g8 g10 e13)) ?_
      have hq := bindO_inv hr
      clear hr
      obtain ⟨v14, e14, hr⟩ := hq
      have hq := asI_inv hr
      clear hr
      obtain ⟨x14, rfl, hr⟩ := hq
      refine wo_step (v := (.i .i64 x14)) (s_ld rfl e14) ?_
      refine wo_step (v := (.i .i64 x10)) (s_pure (p_mv rfl)) ?_
      refine wo_step (v := (.i .i64 x14)) (s_pure (p_mv rfl)) ?_
      refine wo_nil ?_
      refine nx_norm ?_
      refine w_seq ?_
      refine w_ops ?_
      refine wo_step (v := (.i .i64 x1)) (s_pure (p_mv g1)) ?_
      refine wo_step (v := (.i .i64 x10)) (s_pure (p_mv rfl)) ?_
      have hq := bindP_inv hr
      clear hr
      obtain ⟨v17, m_2, e17, hr⟩ := hq
      have hq := asB_inv hr
      clear hr
      obtain ⟨c17, rfl, hr⟩ := hq
      refine wo_step (v := (.b c17)) (s_call (mc rfl (mc rfl mn)) (callM_le hM.call e17)) ?_
      refine wo_nil ?_
      refine nx_norm ?_
      have hq := bindO_inv hr
      clear hr
      obtain ⟨o, hr, hk⟩ := hq
      refine jp_mono (J := g67_J1 x1 v0 x9 x10 m_2 o) ?_ ?_
      · clear hk
        have hq := cond_inv hr
        clear hr
        rcases hq with ⟨rfl, hr⟩ | ⟨rfl, hr⟩
        · refine w_condT rfl ?_
          refine w_ops ?_
          refine wo_step (v := (.i .i64 x5)) (s_pure (p_mv g5)) ?_
          refine wo_step (v := (.i .i64 x14)) (s_pure (p_mv rfl)) ?_
          have hq := forceI_inv hr
          clear hr
          obtain ⟨x20, e20, hr⟩ := hq
          refine wo_step (v := (.i .i64 x20)) (s_pure (p_bin rfl rfl (b_add.trans (ci e20)))) ?_
          refine wo_step (v := (.i .i64 x20)) (s_pure (p_mv rfl)) ?_
          refine wo_nil ?_
          cases hr
          exact ⟨_, _, rfl, rfl, rfl, gl rfl, gl g1, gl g8, gl g9, gl g10⟩
        · refine w_condF rfl ?_
          refine w_skip ?_
          cases hr
          exact ⟨_, _, rfl, rfl, rfl, gl g5, gl g1, gl g8, gl g9, gl g10⟩
      · clear hr
        have hr := hk
        clear hk
        obtain ⟨x5_1, ho⟩ : ∃ z, z = o := ⟨_, rfl⟩
        subst ho
        rintro _ mm t_2 ⟨rfl, rfl, g5, g1, g8, g9, g10⟩
        refine bk_norm ?_
        refine nx_norm ?_
        refine w_ops ?_
        have hq := forceI_inv hr
        clear hr
        obtain ⟨x21, e21, hr⟩ := hq
        refine wo_step (v := (.i .i64 x21)) (s_pure (p_bin g10 rfl (b_add.trans (ci e21)))) ?_
        refine wo_step (v := (.i .i64 x21)) (s_pure (p_mv rfl)) ?_
        refine wo_nil ?_
        cases hr
        exact ⟨_, _, rfl, rfl, rfl, gl g5, gl rfl, gl g1, gl g8, gl g9⟩
    · refine w_condF rfl ?_
      refine w_exit ?_
      refine nx_exit ?_
      cases hr
      exact ⟨_, _, rfl, ne_norm_exit, rfl, rfl, gl g5⟩
  · obtain ⟨x5_2, m_3⟩ := o_1
    rintro _ mm_1 t_3 ⟨rfl, rfl, g5⟩
    refine bk_hit ?_
    refine nx_norm ?_
    refine w_seq ?_
    refine w_ops ?_
    refine wo_step (v := (.i .i64 x5_2)) (s_pure (p_mv g5)) ?_
    refine wo_step (v := (.i .i64 x5_2)) (s_pure (p_mv rfl)) ?_
    refine wo_nil ?_
    refine nx_norm ?_
    refine w_ret ?_
    exact qf ret_ok (rt rfl rn) hr

/- dibber/share.lastFirst -/
abbrev g75_I0 (x0 : Int) (v6 : AVal) (x8 : Int) (s : Int × Mm) (m1 : Mm) (t1 : Tr) : Prop :=
  match s with
  | (x9, m_2) => m_2 = m1 ∧ t1.get 9 = (.i .i64 x9) ∧ t1.get 0 = (.i .i64 x0) ∧ t1.get 3 = v6 ∧ t1.get 8 = (.i .i64 x8)
abbrev g75_J0 (x0 : Int) (v6 : AVal) (x8 : Int) (o : Mm) (e : AExit) (m1 : Mm) (t1 : Tr) : Prop :=
  match o with
  | mo => e = (.exit 0) ∧ mo = m1 ∧ t1.get 3 = v6
def g75_b0 (M : Means) (ro : List ABlk) (x0 : Int) (v6 : AVal) (x8 : Int) (x9 : Int) (m_2 : Mm) : Option ((Int × Mm) ⊕ (Mm)) :=
  forceB (ltI x9 x8) fun c10 =>
  cond c10 (
    forceI (wr .i64 (x0 - 1)) fun x15 =>
    forceI (wr .i64 (x15 - x9)) fun x17 =>
    bindO (evP .e (.ixS 1 (.c v6) (.c (.i .i64 x9)))) fun v18 =>
    bindP (stepM ro m_2 (.st 1 (.c v18) (.c (.i .i64 x17)))) fun vn m_3 =>
    forceI (wr .i64 (x9 + 1)) fun x19 =>
    some (.inl (x19, m_3))) (
    some (.inr m_2))
def g75 (M : Means) (ro : List ABlk) (x0 : Int) (m0 : Mm) : Option (AVal × Heap × Nat × Nat) :=
  bindP (stepM ro m0 (.mk 3 1 8 [(AVal.i IntKind.i64 0)] (.c (.i .i64 x0)) (.c (.i .i64 x0)))) fun v6 m_1 =>
  bindO (evP .e (.len false (.c v6))) fun v8 =>
  asI .i64 v8 fun x8 =>
  bindO (M.loop (S := Int × Mm) (R := Mm) (fun s => g75_b0 M ro x0 v6 x8 s.1 s.2) (0, m_1)) fun m_4 =>
  finM m0.h.length (tupA [v6]) m_4

theorem g75_ok {ro : List ABlk} {O : Caller} {M : Means} (hM : M.Ok ⟨F, O⟩ ro) {x0 h r} (ho : O 75 [(.i .i64 x0)] h = none) (hr : g75 M ro x0 ⟨h, h.length, h.length⟩ = some r) : callX ⟨F, O⟩ ro 75 [(.i .i64 x0)] h = some r := by
  refine callX_of (F := ⟨F, O⟩) (fn := fn75) (g := g75 M ro x0) ho rfl rfl hr ?_
  clear ho
  clear hr
  intro m0 t0 ht hr
  have g0 : t0.get 0 = (.i .i64 x0) := ht 0
  clear ht
  unfold g75 at hr
  refine w_seq ?_
  refine w_ops ?_
  refine wo_step (v := AVal.nsl) (s_pure (p_mv rfl)) ?_
  refine wo_nil ?_
  refine nx_norm ?_
  refine w_seq ?_
  refine w_ops ?_
  refine wo_step (v := (.i .i64 x0)) (s_pure (p_mv g0)) ?_
  have hq := bindP_inv hr
  clear hr
  obtain ⟨v6, m_1, e6, hr⟩ := hq
  refine wo_step (v := v6) (s_mk rfl rfl e6) ?_
  refine wo_step (v := v6) (s_pure (p_mv rfl)) ?_
  refine wo_nil ?_
  refine nx_norm ?_
  refine w_seq ?_
  refine w_seq ?_
  refine w_ops ?_
  refine wo_step (v := v6) (s_pure (p_mv rfl)) ?_
  have hq := bindO_inv hr
  clear hr
  obtain ⟨v8, e8, hr⟩ := hq
  have hq := asI_inv hr
  clear hr
  obtain ⟨x8, rfl, hr⟩ := hq
  refine wo_step (v := (.i .i64 x8)) (s_pure (o_len rfl e8)) ?_
  refine wo_step (v := (.i .i64 0)) (s_pure (p_mv rfl)) ?_
  refine wo_nil ?_
  refine nx_norm ?_
  refine w_block ?_
  have hq := bindO_inv hr
  clear hr
  obtain ⟨o, hl, hr⟩ := hq
  obtain ⟨n, hl⟩ := hM.loop _ _ _ hl
  refine jp_mono (w_loop _ (g75_I0 x0 v6 x8) (g75_J0 x0 v6 x8) ?_ n _ _ _ _ hl ⟨rfl, gl rfl, gl g0, gl rfl, gl rfl⟩) ?_
  · clear hr hl
    intro s mm_1 t_1 o hi hr
    obtain ⟨x9, m_2⟩ := s
    obtain ⟨rfl, g9, g0, g3, g8⟩ := hi
    unfold g75_b0 at hr
    refine w_seq ?_
    refine w_ops ?_
    have hq := forceB_inv hr
    clear hr
    obtain ⟨c10, e10, hr⟩ := hq
    refine wo_step (v := (.b c10)) (s_pure (p_bin g9 g8 (b_lss.trans (cb e10)))) ?_
    refine wo_nil ?_
    refine nx_norm ?_
    refine w_seq ?_
    have hq := cond_inv hr
    clear hr
    rcases hq with ⟨rfl, hr⟩ | ⟨rfl, hr⟩
    · refine w_condT rfl ?_
      refine w_skip ?_
      refine nx_norm ?_
      refine w_seq ?_
      refine w_block ?_
      refine w_seq ?_
      refine w_ops ?_
      refine wo_step (v := (.i .i64 x9)) (s_pure (p_mv g9)) ?_
      refine wo_step (v := (.i .i64 x9)) (s_pure (p_mv rfl)) ?_
      refine wo_nil ?_
      refine nx_norm ?_
      refine w_ops ?_
      refine wo_step (v := v6) (s_pure (p_mv g3)) ?_
      refine wo_step (v := (.i .i64 x9)) (s_pure (p_mv rfl)) ?_
      refine wo_step (v := (.i .i64 x0)) (s_pure (p_mv g0)) ?_
      have hq := forceI_inv hr
      clear hr
      obtain ⟨x15, e15, hr⟩ := hq
      refine wo_step (v := (.i .i64 x15)) (s_pure (p_bin rfl rfl (b_sub.trans (ci e15)))) ?_
      refine wo_step (v := (.i .i64 x9)) (s_pure (p_mv rfl)) ?_
      have hq := forceI_inv hr
      clear hr
      obtain ⟨x17, e17, hr⟩ := hq
      refine wo_step (v := (.i .i64 x17)) (s_pure (p_bin rfl rfl (b_sub.trans (ci e17)))) ?_
      have hq := bindO_inv hr
      clear hr
      obtain ⟨v18, e18, hr⟩ := hq
      refine wo_step (v := v18) (s_pure (o_ixS rfl rfl e18)) ?_
      have hq := bindP_inv hr
      clear hr
      obtain ⟨vn, m_3, en, hr⟩ := hq
      refine wo_stepN (s_st rfl rfl en) ?_
      refine wo_nil ?_
      refine bk_norm ?_
      refine nx_norm ?_
      refine w_ops ?_
      have hq := forceI_inv hr
      clear hr
      obtain ⟨x19, e19, hr⟩ := hq
      refine wo_step (v := (.i .i64 x19)) (s_pure (p_bin g9 rfl (b_add.trans (ci e19)))) ?_
      refine wo_step (v := (.i .i64 x19)) (s_pure (p_mv rfl)) ?_
      refine wo_nil ?_
      cases hr
      exact ⟨_, _, rfl, rfl, rfl, gl rfl, gl g0, gl g3, gl g8⟩
    · refine w_condF rfl ?_
      refine w_exit ?_
      refine nx_exit ?_
      cases hr
      exact ⟨_, _, rfl, ne_norm_exit, rfl, rfl, gl g3⟩
  · obtain ⟨m_4, ho⟩ : ∃ z, z = o := ⟨_, rfl⟩
    subst ho
    rintro _ mm t_2 ⟨rfl, rfl, g3⟩
    refine bk_hit ?_
    refine nx_norm ?_
    refine w_seq ?_
    refine w_ops ?_
    refine wo_step (v := v6) (s_pure (p_mv g3)) ?_
    refine wo_step (v := v6) (s_pure (p_mv rfl)) ?_
    refine wo_nil ?_
    refine nx_norm ?_
    refine w_ret ?_
    exact qf ret_ok (rt rfl rn) hr

/- dibber/share.areWeights -/
abbrev g78_I0 (x0 : Int) (v1 : AVal) (x8 : Int) (m0 : Mm) (s : Int) (m1 : Mm) (t1 : Tr) : Prop :=
  match s with
  | x9 => m0 = m1 ∧ t1.get 9 = (.i .i64 x9) ∧ t1.get 0 = (.i .i64 x0) ∧ t1.get 1 = v1 ∧ t1.get 7 = v1 ∧ t1.get 8 = (.i .i64 x8)
abbrev g78_J0 (x0 : Int) (v1 : AVal) (x8 : Int) (m0 : Mm) (o : (Unit ⊕ Bool)) (e : AExit) (m1 : Mm) (t1 : Tr) : Prop :=
  match o with
  | (.inl _) => e = (.exit 0) ∧ m0 = m1 ∧ t1.get 0 = (.i .i64 x0) ∧ t1.get 1 = v1
  | (.inr y4) => e = .ret ∧ m0 = m1 ∧ t1.get 4 = (.b y4)
abbrev g78_J1 (x0 : Int) (v1 : AVal) (x8 : Int) (x9 : Int) (m0 : Mm) (o : Bool) (m1 : Mm) (t1 : Tr) : Prop :=
  match o with
  | c18 => m0 = m1 ∧ t1.get 18 = (.b c18) ∧ t1.get 0 = (.i .i64 x0) ∧ t1.get 1 = v1 ∧ t1.get 7 = v1 ∧ t1.get 8 = (.i .i64 x8) ∧ t1.get 9 = (.i .i64 x9)
def g78_b0 (M : Means) (ro : List ABlk) (x0 : Int) (v1 : AVal) (x8 : Int) (m0 : Mm) (x9 : Int) : Option ((Int) ⊕ ((Unit ⊕ Bool))) :=
  forceB (ltI x9 x8) fun c10 =>
  cond c10 (
    bindO (evP .e (.ixS 1 (.c v1) (.c (.i .i64 x9)))) fun v11 =>
    bindO (ldM ro m0 true 1 v11) fun v12 =>
    asI .i64 v12 fun x12 =>
    forceB (ltI x12 0) fun c14 =>
    bindO (cond c14 (
      some true) (
      forceB (ltI 1000 x12) fun c17 =>
      some c17)) fun c18 =>
    cond c18 (
      some (.inr (.inr false))) (
      forceI (wr .i64 (x9 + 1)) fun x19 =>
      some (.inl x19))) (
    some (.inr (.inl ())))
def g78 (M : Means) (ro : List ABlk) (x0 : Int) (v1 : AVal) (m0 : Mm) : Option (AVal × Heap × Nat × Nat) :=
  bindO (evP .e (.len false (.c v1))) fun v8 =>
  asI .i64 v8 fun x8 =>
  bindO (M.loop (S := Int) (R := (Unit ⊕ Bool)) (fun s => g78_b0 M ro x0 v1 x8 m0 s) 0) fun o_1 => match o_1 with
  | (.inl _) =>
    bindO (evP .e (.len false (.c v1))) fun v21 =>
    asI .i64 v21 fun x21 =>
    forceB (eqI x21 x0) fun c23 =>
    finM m0.h.length (tupA [(.b c23)]) m0
  | (.inr c4) =>
    finM m0.h.length (tupA [(.b c4)]) m0

theorem g78_ok {ro : List ABlk} {O : Caller} {M : Means} (hM : M.Ok ⟨F, O⟩ ro) {x0 v1 h r} (ho : O 78 [(.i .i64 x0), v1] h = none) (hr : g78 M ro x0 v1 ⟨h, h.length, h.length⟩ = some r) : callX ⟨F, O⟩ ro 78 [(.i .i64 x0), v1] h = some r := by
  refine callX_of (F := ⟨F, O⟩) (fn := fn78) (g := g78 M ro x0 v1) ho rfl rfl hr ?_
  clear ho
  clear hr
  intro m0 t0 ht hr
  have g0 : t0.get 0 = (.i .i64 x0) := ht 0
  have g1 : t0.get 1 = v1 := ht 1
  clear ht
  unfold g78 at hr
  refine w_seq ?_
  refine w_ops ?_
  refine wo_step (v := (.b false)) (s_pure (p_mv rfl)) ?_
  refine wo_nil ?_
  refine nx_norm ?_
  refine w_seq ?_
  refine w_seq ?_
  refine w_ops ?_
  refine wo_step (v := v1) (s_pure (p_mv g1)) ?_
  have hq := bindO_inv hr
  clear hr
  obtain ⟨v8, e8, hr⟩ := hq
  have hq := asI_inv hr
  clear hr
  obtain ⟨x8, rfl, hr⟩ := hq
  refine wo_step (v := (.i .i64 x8)) (s_pure (o_len rfl e8)) ?_
  refine wo_step (v := (.i .i64 0)) (s_pure (p_mv rfl)) ?_
  refine wo_nil ?_
  refine nx_norm ?_
  refine w_block ?_
  have hq := bindO_inv hr
  clear hr
  obtain ⟨o_1, hl, hr⟩ := hq
  obtain ⟨n, hl⟩ := hM.loop _ _ _ hl
  refine jp_mono (w_loop _ (g78_I0 x0 v1 x8 m0) (g78_J0 x0 v1 x8 m0) ?_ n _ _ _ _ hl ⟨rfl, gl rfl, gl g0, gl g1, gl rfl, gl rfl⟩) ?_
  · clear hr hl
    intro s mm_3 t_1 o hi hr
    obtain ⟨x9, hs⟩ : ∃ z, z = s := ⟨_, rfl⟩
    subst hs
    obtain ⟨rfl, g9, g0, g1, g7, g8⟩ := hi
    unfold g78_b0 at hr
    refine w_seq ?_
    refine w_ops ?_
    have hq := forceB_inv hr
    clear hr
    obtain ⟨c10, e10, hr⟩ := hq
    refine wo_step (v := (.b c10)) (s_pure (p_bin g9 g8 (b_lss.trans (cb e10)))) ?_
    refine wo_nil ?_
    refine nx_norm ?_
    refine w_seq ?_
    have hq := cond_inv hr
    clear hr
    rcases hq with ⟨rfl, hr⟩ | ⟨rfl, hr⟩
    · refine w_condT rfl ?_
      refine w_skip ?_
      refine nx_norm ?_
      refine w_seq ?_
      refine w_block ?_
      refine w_seq ?_
      refine w_ops ?_
      have hq := bindO_inv hr
      clear hr
      obtain ⟨v11, e11, hr⟩ := hq
      refine wo_step (v := v11) (s_pure (o_ixS g7 g9 e11)) ?_
      have hq := bindO_inv hr
      clear hr
      obtain ⟨v12, e12, hr⟩ := hq
      have hq := asI_inv hr
      clear hr
      obtain ⟨x12, rfl, hr⟩ := hq
      refine wo_step (v := (.i .i64 x12)) (s_ld rfl e12) ?_
      refine wo_step (v := (.i .i64 x12)) (s_pure (p_mv rfl)) ?_
      refine wo_nil ?_
      refine nx_norm ?_
      refine w_seq ?_
      refine w_ops ?_
      refine wo_step (v := (.i .i64 x12)) (s_pure (p_mv rfl)) ?_
      have hq := forceB_inv hr
      clear hr
      obtain ⟨c14, e14, hr⟩ := hq
      refine wo_step (v := (.b c14)) (s_pure (p_bin rfl rfl (b_lss.trans (cb e14)))) ?_
      refine wo_step (v := (.b c14)) (s_pure (p_mv rfl)) ?_
      have hq := bindO_inv hr
      clear hr
      obtain ⟨o, hr, hk⟩ := hq
      refine wo_join 3 (g78_J1 x0 v1 x8 x9 m0 o) ?_ ?_
      · clear hk
        have hq := cond_inv hr
        clear hr
        rcases hq with ⟨rfl, hr⟩ | ⟨rfl, hr⟩
        · refine wo_skip (v := (.b true)) rfl rfl ?_
          refine wo_skip (v := (.b true)) rfl rfl ?_
          refine wo_step (v := (.b true)) (s_pure (p_pickT rfl rfl)) ?_
          refine wo_nil ?_
          cases hr
          exact ⟨_, _, rfl, rfl, gl rfl, gl g0, gl g1, gl g7, gl g8, gl g9⟩
        · refine wo_take (v := (.i .i64 x12)) rfl (s_pure (p_mv rfl)) ?_
          have hq := forceB_inv hr
          clear hr
          obtain ⟨c17, e17, hr⟩ := hq
          refine wo_take (v := (.b c17)) rfl (s_pure (p_bin rfl rfl (b_gtr.trans (cb e17)))) ?_
          refine wo_step (v := (.b c17)) (s_pure (p_pickF rfl rfl)) ?_
          refine wo_nil ?_
          cases hr
          exact ⟨_, _, rfl, rfl, gl rfl, gl g0, gl g1, gl g7, gl g8, gl g9⟩
      · clear hr
        have hr := hk
        clear hk
        obtain ⟨c18, ho⟩ : ∃ z, z = o := ⟨_, rfl⟩
        subst ho
        rintro mm t_2 ⟨rfl, g18, g0, g1, g7, g8, g9⟩
        refine wo_nil ?_
        refine nx_norm ?_
        have hq := cond_inv hr
        clear hr
        rcases hq with ⟨rfl, hr⟩ | ⟨rfl, hr⟩
        · refine w_condT g18 ?_
          refine w_seq ?_
          refine w_ops ?_
          refine wo_step (v := (.b false)) (s_pure (p_mv rfl)) ?_
          refine wo_nil ?_
          refine nx_norm ?_
          refine w_ret ?_
          refine bk_ret ?_
          refine nx_ret ?_
          cases hr
          exact ⟨_, _, rfl, ne_norm_ret, rfl, rfl, gl rfl⟩
        · refine w_condF g18 ?_
          refine w_skip ?_
          refine bk_norm ?_
          refine nx_norm ?_
          refine w_ops ?_
          have hq := forceI_inv hr
          clear hr
          obtain ⟨x19, e19, hr⟩ := hq
          refine wo_step (v := (.i .i64 x19)) (s_pure (p_bin g9 rfl (b_add.trans (ci e19)))) ?_
          refine wo_step (v := (.i .i64 x19)) (s_pure (p_mv rfl)) ?_
          refine wo_nil ?_
          cases hr
          exact ⟨_, _, rfl, rfl, rfl, gl rfl, gl g0, gl g1, gl g7, gl g8⟩
    · refine w_condF rfl ?_
      refine w_exit ?_
      refine nx_exit ?_
      cases hr
      exact ⟨_, _, rfl, ne_norm_exit, rfl, rfl, gl g0, gl g1⟩
  · rcases o_1 with o_1 | o_1
    · rintro _ mm_1 t_3 ⟨rfl, rfl, g0, g1⟩
      refine bk_hit ?_
      refine nx_norm ?_
      refine w_seq ?_
      refine w_ops ?_
      refine wo_step (v := v1) (s_pure (p_mv g1)) ?_
      have hq := bindO_inv hr
      clear hr
      obtain ⟨v21, e21, hr⟩ := hq
      have hq := asI_inv hr
      clear hr
      obtain ⟨x21, rfl, hr⟩ := hq
      refine wo_step (v := (.i .i64 x21)) (s_pure (o_len rfl e21)) ?_
      refine wo_step (v := (.i .i64 x0)) (s_pure (p_mv g0)) ?_
      have hq := forceB_inv hr
      clear hr
      obtain ⟨c23, e23, hr⟩ := hq
      refine wo_step (v := (.b c23)) (s_pure (p_bin rfl rfl (b_eql.trans (cb e23)))) ?_
      refine wo_step (v := (.b c23)) (s_pure (p_mv rfl)) ?_
      refine wo_nil ?_
      refine nx_norm ?_
      refine w_ret ?_
      exact qf ret_ok (rt rfl rn) hr
    · obtain ⟨c4, ho⟩ : ∃ z, z = o_1 := ⟨_, rfl⟩
      subst ho
      rintro _ mm_2 t_4 ⟨rfl, rfl, g4⟩
      refine bk_ret ?_
      refine nx_ret ?_
      exact qf ret_ok (rt g4 rn) hr

/- slices.Max[[]int,int] -/
abbrev g79_I0 (v0 : AVal) (m0 : Mm) (s : Int × Int) (m1 : Mm) (t1 : Tr) : Prop :=
  match s with
  | (x3, x4) => m0 = m1 ∧ t1.get 3 = (.i .i64 x3) ∧ t1.get 4 = (.i .i64 x4) ∧ t1.get 0 = v0
abbrev g79_J0 (v0 : AVal) (m0 : Mm) (o : Int) (e : AExit) (m1 : Mm) (t1 : Tr) : Prop :=
  match o with
  | y3 => e = (.exit 0) ∧ m0 = m1 ∧ t1.get 3 = (.i .i64 y3)
def g79_b0 (M : Means) (ro : List ABlk) (v0 : AVal) (m0 : Mm) (x3 : Int) (x4 : Int) : Option ((Int × Int) ⊕ (Int)) :=
  bindO (evP .e (.len false (.c v0))) fun v14 =>
  asI .i64 v14 fun x14 =>
  forceB (ltI x4 x14) fun c15 =>
  cond c15 (
    bindO (evP .e (.ixS 1 (.c v0) (.c (.i .i64 x4)))) fun v21 =>
    bindO (ldM ro m0 true 1 v21) fun v22 =>
    asI .i64 v22 fun x22 =>
    forceI (mxV true x3 x22) fun x23 =>
    forceI (wr .i64 (x4 + 1)) fun x17 =>
    some (.inl (x23, x17))) (
    some (.inr x3))
def g79 (M : Means) (ro : List ABlk) (v0 : AVal) (m0 : Mm) : Option (AVal × Heap × Nat × Nat) :=
  bindO (evP .e (.len false (.c v0))) fun v6 =>
  asI .i64 v6 fun x6 =>
  forceB (ltI x6 1) fun c7 =>
  cond c7 (
    none) (
    bindO (evP .e (.ixS 1 (.c v0) (.c (.i .i64 0)))) fun v10 =>
    bindO (ldM ro m0 true 1 v10) fun v11 =>
    asI .i64 v11 fun x11 =>
    bindO (M.loop (S := Int × Int) (R := Int) (fun s => g79_b0 M ro v0 m0 s.1 s.2) (x11, 1)) fun x3_1 =>
    finM m0.h.length (tupA [(.i .i64 x3_1)]) m0)

theorem g79_ok {ro : List ABlk} {O : Caller} {M : Means} (hM : M.Ok ⟨F, O⟩ ro) {v0 h r} (ho : O 79 [v0] h = none) (hr : g79 M ro v0 ⟨h, h.length, h.length⟩ = some r) : callX ⟨F, O⟩ ro 79 [v0] h = some r := by
  refine callX_of (F := ⟨F, O⟩) (fn := fn79) (g := g79 M ro v0) ho rfl rfl hr ?_
  clear ho
  clear hr
  intro m0 t0 ht hr
  have g0 : t0.get 0 = v0 := ht 0
  clear ht
  unfold g79 at hr
  refine w_seq ?_
  refine w_ops ?_
  refine wo_step (v := (.i .i64 0)) (s_pure (p_mv rfl)) ?_
  refine wo_nil ?_
  refine nx_norm ?_
  refine w_seq ?_
  refine w_seq ?_
  refine w_ops ?_
  refine wo_step (v := v0) (s_pure (p_mv g0)) ?_
  have hq := bindO_inv hr
  clear hr
  obtain ⟨v6, e6, hr⟩ := hq
  have hq := asI_inv hr
  clear hr
  obtain ⟨x6, rfl, hr⟩ := hq
  refine wo_step (v := (.i .i64 x6)) (s_pure (o_len rfl e6)) ?_
  have hq := forceB_inv hr
  clear hr
  obtain ⟨c7, e7, hr⟩ := hq
  refine wo_step (v := (.b c7)) (s_pure (p_bin rfl rfl (b_lss.trans (cb e7)))) ?_
  refine wo_nil ?_
  refine nx_norm ?_
  have hq := cond_inv hr
  clear hr
  rcases hq with ⟨rfl, hr⟩ | ⟨rfl, hr⟩
  · refine w_condT rfl ?_
    cases hr
  · refine w_condF rfl ?_
    refine w_skip ?_
    refine nx_norm ?_
    refine w_seq ?_
    refine w_ops ?_
    refine wo_step (v := v0) (s_pure (p_mv g0)) ?_
    have hq := bindO_inv hr
    clear hr
    obtain ⟨v10, e10, hr⟩ := hq
    refine wo_step (v := v10) (s_pure (o_ixS rfl rfl e10)) ?_
    have hq := bindO_inv hr
    clear hr
    obtain ⟨v11, e11, hr⟩ := hq
    have hq := asI_inv hr
    clear hr
    obtain ⟨x11, rfl, hr⟩ := hq
    refine wo_step (v := (.i .i64 x11)) (s_ld rfl e11) ?_
    refine wo_step (v := (.i .i64 x11)) (s_pure (p_mv rfl)) ?_
    refine wo_nil ?_
    refine nx_norm ?_
    refine w_seq ?_
    refine w_seq ?_
    refine w_ops ?_
    refine wo_step (v := (.i .i64 1)) (s_pure (p_mv rfl)) ?_
    refine wo_nil ?_
    refine nx_norm ?_
    refine w_block ?_
    have hq := bindO_inv hr
    clear hr
    obtain ⟨o, hl, hr⟩ := hq
    obtain ⟨n, hl⟩ := hM.loop _ _ _ hl
    refine jp_mono (w_loop _ (g79_I0 v0 m0) (g79_J0 v0 m0) ?_ n _ _ _ _ hl ⟨rfl, gl rfl, gl rfl, gl g0⟩) ?_
    · clear hr hl
      intro s mm_1 t_1 o hi hr
      obtain ⟨x3, x4⟩ := s
      obtain ⟨rfl, g3, g4, g0⟩ := hi
      unfold g79_b0 at hr
      refine w_seq ?_
      refine w_seq ?_
      refine w_ops ?_
      refine wo_step (v := (.i .i64 x4)) (s_pure (p_mv g4)) ?_
      refine wo_step (v := v0) (s_pure (p_mv g0)) ?_
      have hq := bindO_inv hr
      clear hr
      obtain ⟨v14, e14, hr⟩ := hq
      have hq := asI_inv hr
      clear hr
      obtain ⟨x14, rfl, hr⟩ := hq
      refine wo_step (v := (.i .i64 x14)) (s_pure (o_len rfl e14)) ?_
      have hq := forceB_inv hr
      clear hr
      obtain ⟨c15, e15, hr⟩ := hq
      refine wo_step (v := (.b c15)) (s_pure (p_bin rfl rfl (b_lss.trans (cb e15)))) ?_
      refine wo_nil ?_
      refine nx_norm ?_
      have hq := cond_inv hr
      clear hr
      rcases hq with ⟨rfl, hr⟩ | ⟨rfl, hr⟩
      · refine w_condT rfl ?_
        refine w_skip ?_
        refine nx_norm ?_
        refine w_seq ?_
        refine w_block ?_
        refine w_ops ?_
        refine wo_step (v := (.i .i64 x3)) (s_pure (p_mv g3)) ?_
        refine wo_step (v := v0) (s_pure (p_mv g0)) ?_
        refine wo_step (v := (.i .i64 x4)) (s_pure (p_mv g4)) ?_
        have hq := bindO_inv hr
        clear hr
        obtain ⟨v21, e21, hr⟩ := hq
        refine wo_step (v := v21) (s_pure (o_ixS rfl rfl e21)) ?_
        have hq := bindO_inv hr
        clear hr
        obtain ⟨v22, e22, hr⟩ := hq
        have hq := asI_inv hr
        clear hr
        obtain ⟨x22, rfl, hr⟩ := hq
        refine wo_step (v := (.i .i64 x22)) (s_ld rfl e22) ?_
        have hq := forceI_inv hr
        clear hr
        obtain ⟨x23, e23, hr⟩ := hq
        refine wo_step (v := (.i .i64 x23)) (s_pure ((p_mx rfl rfl).trans (ci e23))) ?_
        refine wo_step (v := (.i .i64 x23)) (s_pure (p_mv rfl)) ?_
        refine wo_nil ?_
        refine bk_norm ?_
        refine nx_norm ?_
        refine w_ops ?_
        refine wo_step (v := (.i .i64 x4)) (s_pure (p_mv g4)) ?_
        have hq := forceI_inv hr
        clear hr
        obtain ⟨x17, e17, hr⟩ := hq
        refine wo_step (v := (.i .i64 x17)) (s_pure (p_bin rfl rfl (b_add.trans (ci e17)))) ?_
        refine wo_step (v := (.i .i64 x17)) (s_pure (p_mv rfl)) ?_
        refine wo_nil ?_
        cases hr
        exact ⟨_, _, rfl, rfl, rfl, gl rfl, gl rfl, gl g0⟩
      · refine w_condF rfl ?_
        refine w_exit ?_
        refine nx_exit ?_
        cases hr
        exact ⟨_, _, rfl, ne_norm_exit, rfl, rfl, gl g3⟩
    · obtain ⟨x3_1, ho⟩ : ∃ z, z = o := ⟨_, rfl⟩
      subst ho
      rintro _ mm t_2 ⟨rfl, rfl, g3⟩
      refine bk_hit ?_
      refine nx_norm ?_
      refine w_seq ?_
      refine w_ops ?_
      refine wo_step (v := (.i .i64 x3_1)) (s_pure (p_mv g3)) ?_
      refine wo_step (v := (.i .i64 x3_1)) (s_pure (p_mv rfl)) ?_
      refine wo_nil ?_
      refine nx_norm ?_
      refine w_ret ?_
      exact qf ret_ok (rt rfl rn) hr

/- dibber/share.heavy -/
abbrev g80_I0 (x1 : Int) (v0 : AVal) (x9 : Int) (m0 : Mm) (s : Int × Int) (m1 : Mm) (t1 : Tr) : Prop :=
  match s with
  | (x5, x10) => m0 = m1 ∧ t1.get 5 = (.i .i64 x5) ∧ t1.get 10 = (.i .i64 x10) ∧ t1.get 1 = (.i .i64 x1) ∧ t1.get 8 = v0 ∧ t1.get 9 = (.i .i64 x9)
abbrev g80_J0 (x1 : Int) (v0 : AVal) (x9 : Int) (m0 : Mm) (o : Int) (e : AExit) (m1 : Mm) (t1 : Tr) : Prop :=
  match o with
  | y5 => e = (.exit 0) ∧ m0 = m1 ∧ t1.get 5 = (.i .i64 y5)
abbrev g80_J1 (x1 : Int) (v0 : AVal) (x9 : Int) (x10 : Int) (m0 : Mm) (o : Int) (e : AExit) (m1 : Mm) (t1 : Tr) : Prop :=
  match o with
  | y5 => e = .norm ∧ m0 = m1 ∧ t1.get 5 = (.i .i64 y5) ∧ t1.get 1 = (.i .i64 x1) ∧ t1.get 8 = v0 ∧ t1.get 9 = (.i .i64 x9) ∧ t1.get 10 = (.i .i64 x10)
def g80_b0 (M : Means) (ro : List ABlk) (x1 : Int) (v0 : AVal) (x9 : Int) (m0 : Mm) (x5 : Int) (x10 : Int) : Option ((Int × Int) ⊕ (Int)) :=
  forceB (ltI x10 x9) fun c11 =>
  cond c11 (
    bindO (evP .e (.ixS 1 (.c v0) (.c (.i .i64 x10)))) fun v13 =>
    bindO (ldM ro m0 true 1 v13) fun v14 =>
    asI .i64 v14 fun x14 =>
    forceB (!ltI x14 x1) fun c17 =>
    bindO (α := Int) (
      cond c17 (
        chk (!ltI x10 (.ofNat 0)) <|
        forceI (shlV .i64 1 x10) fun x20 =>
        forceI (bitV .or .i64 x5 x20) fun x21 =>
        some x21) (
        some x5)) fun x5_1 =>
    forceI (wr .i64 (x10 + 1)) fun x22 =>
    some (.inl (x5_1, x22))) (
    some (.inr x5))
def g80 (M : Means) (ro : List ABlk) (v0 : AVal) (x1 : Int) (m0 : Mm) : Option (AVal × Heap × Nat × Nat) :=
  bindO (evP .e (.len false (.c v0))) fun v9 =>
  asI .i64 v9 fun x9 =>
  bindO (M.loop (S := Int × Int) (R := Int) (fun s => g80_b0 M ro x1 v0 x9 m0 s.1 s.2) (0, 0)) fun x5_2 =>
  finM m0.h.length (tupA [(.i .i64 x5_2)]) m0

theorem g80_ok {ro : List ABlk} {O : Caller} {M : Means} (hM : M.Ok ⟨F, O⟩ ro) {v0 x1 h r} (ho : O 80 [v0, (.i .i64 x1)] h = none) (hr : g80 M ro v0 x1 ⟨h, h.length, h.length⟩ = some r) : callX ⟨F, O⟩ ro 80 [v0, (.i .i64 x1)] h = some r := by
  refine callX_of (F := ⟨F, O⟩) (fn := fn80) (g := g80 M ro v0 x1) ho rfl rfl hr ?_
  clear ho
  clear hr
  intro m0 t0 ht hr
  have g0 : t0.get 0 = v0 := ht 0
  have g1 : t0.get 1 = (.i .i64 x1) := ht 1
  clear ht
  unfold g80 at hr
  refine w_seq ?_
  refine w_ops ?_
  refine wo_step (v := (.i .i64 0)) (s_pure (p_mv rfl)) ?_
  refine wo_nil ?_
  refine nx_norm ?_
  refine w_seq ?_
  refine w_ops ?_
  refine wo_step (v := (.i .i64 0)) (s_pure (p_mv rfl)) ?_
  refine wo_nil ?_
  refine nx_norm ?_
  refine w_seq ?_
  refine w_seq ?_
  refine w_ops ?_
  refine wo_step (v := v0) (s_pure (p_mv g0)) ?_
  have hq := bindO_inv hr
  clear hr
  obtain ⟨v9, e9, hr⟩ := hq
  have hq := asI_inv hr
  clear hr
  obtain ⟨x9, rfl, hr⟩ := hq
  refine wo_step (v := (.i .i64 x9)) (s_pure (o_len rfl e9)) ?_
  refine wo_step (v := (.i .i64 0)) (s_pure (p_mv rfl)) ?_
  refine wo_nil ?_
  refine nx_norm ?_
  refine w_block ?_
  have hq := bindO_inv hr
  clear hr
  obtain ⟨o_1, hl, hr⟩ := hq
  obtain ⟨n, hl⟩ := hM.loop _ _ _ hl
  refine jp_mono (w_loop _ (g80_I0 x1 v0 x9 m0) (g80_J0 x1 v0 x9 m0) ?_ n _ _ _ _ hl ⟨rfl, gl rfl, gl rfl, gl g1, gl rfl, gl rfl⟩) ?_
  · clear hr hl
    intro s mm_2 t_1 o hi hr
    obtain ⟨x5, x10⟩ := s
    obtain ⟨rfl, g5, g10, g1, g8, g9⟩ := hi
    unfold g80_b0 at hr
    refine w_seq ?_
    refine w_ops ?_
    have hq := forceB_inv hr
    clear hr
    obtain ⟨c11, e11, hr⟩ := hq
    refine wo_step (v := (.b c11)) (s_pure (p_bin g10 g9 (b_lss.trans (cb e11)))) ?_
    refine wo_nil ?_
    refine nx_norm ?_
    refine w_seq ?_
    have hq := cond_inv hr
    clear hr
    rcases hq with ⟨rfl, hr⟩ | ⟨rfl, hr⟩
    · refine w_condT rfl ?_
      refine w_skip ?_
      refine nx_norm ?_
      refine w_seq ?_
      refine w_block ?_
      refine w_seq ?_
      refine w_ops ?_
      refine wo_step (v := (.i .i64 x10)) (s_pure (p_mv g10)) ?_
      have hq := bindO_inv hr
      clear hr
      obtain ⟨v13, e13, hr⟩ := hq
      refine wo_step (v := v13) (s_pure (o_ixS g8 g10 e13)) ?_
      have hq := bindO_inv hr
      clear hr
      obtain ⟨v14, e14, hr⟩ := hq
      have hq := asI_inv hr
      clear hr
      obtain ⟨x14, rfl, hr⟩ := hq
      refine wo_step (v := (.i .i64 x14)) (s_ld rfl e14) ?_
      refine wo_step (v := (.i .i64 x10)) (s_pure (p_mv rfl)) ?_
      refine wo_step (v := (.i .i64 x14)) (s_pure (p_mv rfl)) ?_
      refine wo_nil ?_
      refine nx_norm ?_
      refine w_seq ?_
      refine w_ops ?_
      refine wo_step (v := (.i .i64 x14)) (s_pure (p_mv rfl)) ?_
      refine wo_step (v := (.i .i64 x1)) (s_pure (p_mv g1)) ?_
      have hq := forceB_inv hr
      clear hr
      obtain ⟨c17, e17, hr⟩ := hq
      refine wo_step (v := (.b c17)) (s_pure (p_bin rfl rfl (b_geq.trans (cb e17)))) ?_
      refine wo_nil ?_
      refine nx_norm ?_
      have hq := bindO_inv hr
      clear hr
      obtain ⟨o, hr, hk⟩ := hq
      refine jp_mono (J := g80_J1 x1 v0 x9 x10 m0 o) ?_ ?_
      · clear hk
        have hq := cond_inv hr
        clear hr
        rcases hq with ⟨rfl, hr⟩ | ⟨rfl, hr⟩
        · refine w_condT rfl ?_
          refine w_ops ?_
          refine wo_step (v := (.i .i64 x5)) (s_pure (p_mv g5)) ?_
          refine wo_step (v := (.i .i64 x10)) (s_pure (p_mv rfl)) ?_
          have hq := chk_inv hr
          clear hr
          obtain ⟨hc20, hr⟩ := hq
          have hq := forceI_inv hr
          clear hr
          obtain ⟨x20, e20, hr⟩ := hq
          refine wo_step (v := (.i .i64 x20)) (s_pure (p_bin rfl rfl ((b_shl hc20).trans (ci e20)))) ?_
          have hq := forceI_inv hr
          clear hr
          obtain ⟨x21, e21, hr⟩ := hq
          refine wo_step (v := (.i .i64 x21)) (s_pure (p_bin rfl rfl (b_or.trans (ci e21)))) ?_
          refine wo_step (v := (.i .i64 x21)) (s_pure (p_mv rfl)) ?_
          refine wo_nil ?_
          cases hr
          exact ⟨_, _, rfl, rfl, rfl, gl rfl, gl g1, gl g8, gl g9, gl g10⟩
        · refine w_condF rfl ?_
          refine w_skip ?_
          cases hr
          exact ⟨_, _, rfl, rfl, rfl, gl g5, gl g1, gl g8, gl g9, gl g10⟩
      · clear hr
        have hr := hk
        clear hk
        obtain ⟨x5_1, ho⟩ : ∃ z, z = o := ⟨_, rfl⟩
        subst ho
        rintro _ mm t_2 ⟨rfl, rfl, g5, g1, g8, g9, g10⟩
        refine bk_norm ?_
        refine nx_norm ?_
        refine w_ops ?_
        have hq := forceI_inv hr
        clear hr
        obtain ⟨x22, e22, hr⟩ := hq
        refine wo_step (v := (.i .i64 x22)) (s_pure (p_bin g10 rfl (b_add.trans (ci e22)))) ?_
        refine wo_step (v := (.i .i64 x22)) (s_pure (p_mv rfl)) ?_
        refine wo_nil ?_
        cases hr
        exact ⟨_, _, rfl, rfl, rfl, gl g5, gl rfl, gl g1, gl g8, gl g9⟩
    · refine w_condF rfl ?_
      refine w_exit ?_
      refine nx_exit ?_
      cases hr
      exact ⟨_, _, rfl, ne_norm_exit, rfl, rfl, gl g5⟩
  · obtain ⟨x5_2, ho⟩ : ∃ z, z = o_1 := ⟨_, rfl⟩
    subst ho
    rintro _ mm_1 t_3 ⟨rfl, rfl, g5⟩
    refine bk_hit ?_
    refine nx_norm ?_
    refine w_seq ?_
    refine w_ops ?_
    refine wo_step (v := (.i .i64 x5_2)) (s_pure (p_mv g5)) ?_
    refine wo_step (v := (.i .i64 x5_2)) (s_pure (p_mv rfl)) ?_
    refine wo_nil ?_
    refine nx_norm ?_
    refine w_ret ?_
    exact qf ret_ok (rt rfl rn) hr

/- slices.SortStableFunc[[]int,int] -/

def g81 (M : Means) (ro : List ABlk) (v0 : AVal) (v1 : AVal) (m0 : Mm) : Option (AVal × Heap × Nat × Nat) :=
  bindO (evP .e (.len false (.c v0))) fun v6 =>
  asI .i64 v6 fun x6 =>
  bindP (callM M.call m0 100 [v0, (.i .i64 x6), v1]) fun v8 m_1 =>
  finM m0.h.length (tupA []) m_1

theorem g81_ok {ro : List ABlk} {O : Caller} {M : Means} (hM : M.Ok ⟨F, O⟩ ro) {v0 v1 h r} (ho : O 81 [v0, v1] h = none) (hr : g81 M ro v0 v1 ⟨h, h.length, h.length⟩ = some r) : callX ⟨F, O⟩ ro 81 [v0, v1] h = some r := by
  refine callX_of (F := ⟨F, O⟩) (fn := fn81) (g := g81 M ro v0 v1) ho rfl rfl hr ?_
  clear ho
  clear hr
  intro m0 t0 ht hr
  have g0 : t0.get 0 = v0 := ht 0
  have g1 : t0.get 1 = v1 := ht 1
  clear ht
  unfold g81 at hr
  refine w_ops ?_
  refine wo_step (v := v0) (s_pure (p_mv g0)) ?_
  refine wo_step (v := v0) (s_pure (p_mv g0)) ?_
  have hq := bindO_inv hr
  clear hr
  obtain ⟨v6, e6, hr⟩ := hq
  have hq := asI_inv hr
  clear hr
  obtain ⟨x6, rfl, hr⟩ := hq
  refine wo_step (v := (.i .i64 x6)) (s_pure (o_len rfl e6)) ?_
  refine wo_step (v := v1) (s_pure (p_mv g1)) ?_
  have hq := bindP_inv hr
  clear hr
  obtain ⟨v8, m_1, e8, hr⟩ := hq
  refine wo_step (v := v8) (s_call (mc rfl (mc rfl (mc rfl mn))) (callM_le hM.call e8)) ?_
  refine wo_nil ?_
  exact qf norm_ok rn hr

end Go.Proofs.Ythdglempcfknhaa.T

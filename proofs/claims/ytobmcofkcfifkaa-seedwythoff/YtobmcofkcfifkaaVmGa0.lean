/- Plain functions, and that the small machine answers as they do. -/
import Derived.Test.YtobmcofkcfifkaaVmP
import Derived.Test.YtobmcofkcfifkaaVmAE
open Go.Vm
set_option linter.unusedVariables false
namespace Go.Proofs.Ytobmcofkcfifkaa.T
open Go
/- dibber/dibberlaw09.SeedWythoff -/
abbrev g13_J0 (x1 : Int) (x2 : Int) (x3 : Int) (x4 : Int) (x35 : Int) (x39 : Int) (x40 : Int) (c46 : Bool) (c52 : Bool) (x53 : Int) (m_3 : Mm) (o : Bool) (m1 : Mm) (t1 : Tr) : Prop :=
  match o with
  | c59 => m_3 = m1 ∧ t1.get 59 = (.b c59) ∧ t1.get 1 = (.i .u64 x1) ∧ t1.get 2 = (.i .u64 x2) ∧ t1.get 3 = (.i .u64 x3) ∧ t1.get 4 = (.i .u8 x4) ∧ t1.get 11 = (.i .i64 x35) ∧ t1.get 12 = (.i .i64 x39) ∧ t1.get 13 = (.i .i64 x40) ∧ t1.get 15 = (.b c46) ∧ t1.get 17 = (.b c52) ∧ t1.get 18 = (.i .i64 x53)
abbrev g13_J1 (x1 : Int) (x2 : Int) (x3 : Int) (x4 : Int) (x35 : Int) (x39 : Int) (x40 : Int) (c46 : Bool) (c52 : Bool) (m_3 : Mm) (o : Bool) (m1 : Mm) (t1 : Tr) : Prop :=
  match o with
  | c63 => m_3 = m1 ∧ t1.get 63 = (.b c63) ∧ t1.get 1 = (.i .u64 x1) ∧ t1.get 2 = (.i .u64 x2) ∧ t1.get 3 = (.i .u64 x3) ∧ t1.get 4 = (.i .u8 x4) ∧ t1.get 11 = (.i .i64 x35) ∧ t1.get 12 = (.i .i64 x39) ∧ t1.get 13 = (.i .i64 x40) ∧ t1.get 15 = (.b c46) ∧ t1.get 17 = (.b c52)
abbrev g13_J2 (x1 : Int) (x2 : Int) (x3 : Int) (x4 : Int) (x35 : Int) (x39 : Int) (x40 : Int) (c52 : Bool) (m_3 : Mm) (o : Bool) (m1 : Mm) (t1 : Tr) : Prop :=
  match o with
  | c67 => m_3 = m1 ∧ t1.get 67 = (.b c67) ∧ t1.get 1 = (.i .u64 x1) ∧ t1.get 2 = (.i .u64 x2) ∧ t1.get 3 = (.i .u64 x3) ∧ t1.get 4 = (.i .u8 x4) ∧ t1.get 11 = (.i .i64 x35) ∧ t1.get 12 = (.i .i64 x39) ∧ t1.get 13 = (.i .i64 x40) ∧ t1.get 17 = (.b c52)
abbrev g13_J3 (x1 : Int) (x2 : Int) (x3 : Int) (x4 : Int) (x35 : Int) (x39 : Int) (x40 : Int) (m_3 : Mm) (o : Bool) (m1 : Mm) (t1 : Tr) : Prop :=
  match o with
  | c71 => m_3 = m1 ∧ t1.get 71 = (.b c71) ∧ t1.get 1 = (.i .u64 x1) ∧ t1.get 2 = (.i .u64 x2) ∧ t1.get 3 = (.i .u64 x3) ∧ t1.get 4 = (.i .u8 x4) ∧ t1.get 11 = (.i .i64 x35) ∧ t1.get 12 = (.i .i64 x39) ∧ t1.get 13 = (.i .i64 x40)
abbrev g13_J4 (x1 : Int) (x2 : Int) (x3 : Int) (x4 : Int) (x35 : Int) (x39 : Int) (x40 : Int) (m_3 : Mm) (o : Bool) (m1 : Mm) (t1 : Tr) : Prop :=
  match o with
  | c78 => m_3 = m1 ∧ t1.get 78 = (.b c78) ∧ t1.get 1 = (.i .u64 x1) ∧ t1.get 2 = (.i .u64 x2) ∧ t1.get 3 = (.i .u64 x3) ∧ t1.get 4 = (.i .u8 x4) ∧ t1.get 11 = (.i .i64 x35) ∧ t1.get 12 = (.i .i64 x39) ∧ t1.get 13 = (.i .i64 x40)
abbrev g13_J5 (x1 : Int) (x2 : Int) (x3 : Int) (x4 : Int) (o : (Mm ⊕ (Bool × Mm))) (e : AExit) (m1 : Mm) (t1 : Tr) : Prop :=
  match o with
  | (.inl mo) => e = .norm ∧ mo = m1 ∧ t1.get 1 = (.i .u64 x1) ∧ t1.get 2 = (.i .u64 x2) ∧ t1.get 3 = (.i .u64 x3) ∧ t1.get 4 = (.i .u8 x4)
  | (.inr (y10, mo)) => e = .ret ∧ mo = m1 ∧ t1.get 10 = (.b y10)
abbrev g13_J6 (x1 : Int) (x2 : Int) (x3 : Int) (x4 : Int) (s84 : List UInt8) (s89 : List UInt8) (m_5 : Mm) (o : Bool) (m1 : Mm) (t1 : Tr) : Prop :=
  match o with
  | c96 => m_5 = m1 ∧ t1.get 96 = (.b c96) ∧ t1.get 1 = (.i .u64 x1) ∧ t1.get 2 = (.i .u64 x2) ∧ t1.get 3 = (.i .u64 x3) ∧ t1.get 4 = (.i .u8 x4) ∧ t1.get 19 = (.s s84) ∧ t1.get 21 = (.s s89)
abbrev g13_J7 (x1 : Int) (x2 : Int) (x3 : Int) (x4 : Int) (s84 : List UInt8) (s89 : List UInt8) (o : Bool × Mm) (m1 : Mm) (t1 : Tr) : Prop :=
  match o with
  | (c102, m_6) => m_6 = m1 ∧ t1.get 102 = (.b c102) ∧ t1.get 1 = (.i .u64 x1) ∧ t1.get 2 = (.i .u64 x2) ∧ t1.get 3 = (.i .u64 x3) ∧ t1.get 4 = (.i .u8 x4) ∧ t1.get 19 = (.s s84) ∧ t1.get 21 = (.s s89)
abbrev g13_J8 (x1 : Int) (x2 : Int) (x3 : Int) (x4 : Int) (m_6 : Mm) (o : Bool) (m1 : Mm) (t1 : Tr) : Prop :=
  match o with
  | c108 => m_6 = m1 ∧ t1.get 108 = (.b c108) ∧ t1.get 1 = (.i .u64 x1) ∧ t1.get 2 = (.i .u64 x2) ∧ t1.get 3 = (.i .u64 x3) ∧ t1.get 4 = (.i .u8 x4)
abbrev g13_J9 (x3 : Int) (x4 : Int) (o : (Int × Int × Mm)) (e : AExit) (m1 : Mm) (t1 : Tr) : Prop :=
  match o with
  | (y23, y24, mo) => e = .norm ∧ mo = m1 ∧ t1.get 23 = (.i .i64 y23) ∧ t1.get 24 = (.i .i64 y24) ∧ t1.get 3 = (.i .u64 x3) ∧ t1.get 4 = (.i .u8 x4)
abbrev g13_J10 (x3 : Int) (x4 : Int) (x134 : Int) (x23 : Int) (x24 : Int) (c126 : Bool) (x132 : Int) (x133 : Int) (m_15 : Mm) (o : Bool) (m1 : Mm) (t1 : Tr) : Prop :=
  match o with
  | c142 => m_15 = m1 ∧ t1.get 142 = (.b c142) ∧ t1.get 3 = (.i .u64 x3) ∧ t1.get 4 = (.i .u8 x4) ∧ t1.get 16 = (.i .i64 x134) ∧ t1.get 23 = (.i .i64 x23) ∧ t1.get 24 = (.i .i64 x24) ∧ t1.get 25 = (.b c126) ∧ t1.get 26 = (.i .i64 x132) ∧ t1.get 27 = (.i .i64 x133)
abbrev g13_J11 (x3 : Int) (x4 : Int) (x23 : Int) (x24 : Int) (c126 : Bool) (x132 : Int) (x133 : Int) (m_15 : Mm) (o : Bool) (m1 : Mm) (t1 : Tr) : Prop :=
  match o with
  | c150 => m_15 = m1 ∧ t1.get 150 = (.b c150) ∧ t1.get 3 = (.i .u64 x3) ∧ t1.get 4 = (.i .u8 x4) ∧ t1.get 23 = (.i .i64 x23) ∧ t1.get 24 = (.i .i64 x24) ∧ t1.get 25 = (.b c126) ∧ t1.get 26 = (.i .i64 x132) ∧ t1.get 27 = (.i .i64 x133)
abbrev g13_J12 (x3 : Int) (x4 : Int) (x23 : Int) (x24 : Int) (c126 : Bool) (x132 : Int) (x133 : Int) (m_15 : Mm) (o : Bool) (m1 : Mm) (t1 : Tr) : Prop :=
  match o with
  | c150_1 => m_15 = m1 ∧ t1.get 150 = (.b c150_1) ∧ t1.get 3 = (.i .u64 x3) ∧ t1.get 4 = (.i .u8 x4) ∧ t1.get 23 = (.i .i64 x23) ∧ t1.get 24 = (.i .i64 x24) ∧ t1.get 25 = (.b c126) ∧ t1.get 26 = (.i .i64 x132) ∧ t1.get 27 = (.i .i64 x133)
abbrev g13_J13 (x23 : Int) (x24 : Int) (x132 : Int) (x133 : Int) (m_16 : Mm) (o : Bool) (m1 : Mm) (t1 : Tr) : Prop :=
  match o with
  | c167 => m_16 = m1 ∧ t1.get 167 = (.b c167) ∧ t1.get 23 = (.i .i64 x23) ∧ t1.get 24 = (.i .i64 x24) ∧ t1.get 26 = (.i .i64 x132) ∧ t1.get 27 = (.i .i64 x133)
abbrev g13_J14 (x23 : Int) (x24 : Int) (x132 : Int) (x133 : Int) (m_16 : Mm) (o : Bool) (m1 : Mm) (t1 : Tr) : Prop :=
  match o with
  | c171 => m_16 = m1 ∧ t1.get 171 = (.b c171) ∧ t1.get 23 = (.i .i64 x23) ∧ t1.get 24 = (.i .i64 x24) ∧ t1.get 26 = (.i .i64 x132) ∧ t1.get 27 = (.i .i64 x133)
abbrev g13_J15 (x23 : Int) (x24 : Int) (x132 : Int) (x133 : Int) (m_16 : Mm) (o : Bool) (m1 : Mm) (t1 : Tr) : Prop :=
  match o with
  | c175 => m_16 = m1 ∧ t1.get 175 = (.b c175) ∧ t1.get 23 = (.i .i64 x23) ∧ t1.get 24 = (.i .i64 x24) ∧ t1.get 26 = (.i .i64 x132) ∧ t1.get 27 = (.i .i64 x133)
abbrev g13_J16 (x24 : Int) (x132 : Int) (x133 : Int) (m_16 : Mm) (o : Bool) (m1 : Mm) (t1 : Tr) : Prop :=
  match o with
  | c180 => m_16 = m1 ∧ t1.get 180 = (.b c180) ∧ t1.get 24 = (.i .i64 x24) ∧ t1.get 26 = (.i .i64 x132) ∧ t1.get 27 = (.i .i64 x133)
abbrev g13_J17 (x132 : Int) (x133 : Int) (m_16 : Mm) (o : Bool) (m1 : Mm) (t1 : Tr) : Prop :=
  match o with
  | c185 => m_16 = m1 ∧ t1.get 185 = (.b c185) ∧ t1.get 26 = (.i .i64 x132) ∧ t1.get 27 = (.i .i64 x133)
abbrev g13_J18 (x132 : Int) (x133 : Int) (m_16 : Mm) (o : Bool) (m1 : Mm) (t1 : Tr) : Prop :=
  match o with
  | c191 => m_16 = m1 ∧ t1.get 191 = (.b c191) ∧ t1.get 26 = (.i .i64 x132) ∧ t1.get 27 = (.i .i64 x133)
abbrev g13_J19 (m_16 : Mm) (o : Bool) (m1 : Mm) (t1 : Tr) : Prop :=
  match o with
  | c204 => m_16 = m1 ∧ t1.get 204 = (.b c204)
abbrev g13_J20 (m_16 : Mm) (o : Bool) (m1 : Mm) (t1 : Tr) : Prop :=
  match o with
  | c204_1 => m_16 = m1 ∧ t1.get 204 = (.b c204_1)
abbrev g13_J21 (m_16 : Mm) (o : Bool) (m1 : Mm) (t1 : Tr) : Prop :=
  match o with
  | c204_2 => m_16 = m1 ∧ t1.get 204 = (.b c204_2)
abbrev g13_J22  (o : Bool × Mm) (m1 : Mm) (t1 : Tr) : Prop :=
  match o with
  | (c207, m_17) => m_17 = m1 ∧ t1.get 207 = (.b c207)
abbrev g13_J23 (x3 : Int) (x4 : Int) (x23 : Int) (x24 : Int) (x132 : Int) (x133 : Int) (m_15 : Mm) (o : Bool) (m1 : Mm) (t1 : Tr) : Prop :=
  match o with
  | c213 => m_15 = m1 ∧ t1.get 213 = (.b c213) ∧ t1.get 3 = (.i .u64 x3) ∧ t1.get 4 = (.i .u8 x4) ∧ t1.get 23 = (.i .i64 x23) ∧ t1.get 24 = (.i .i64 x24) ∧ t1.get 26 = (.i .i64 x132) ∧ t1.get 27 = (.i .i64 x133)
abbrev g13_J24  (o : Bool × Mm) (m1 : Mm) (t1 : Tr) : Prop :=
  match o with
  | (c220, m_19) => m_19 = m1 ∧ t1.get 220 = (.b c220)
abbrev g13_J25 (x23 : Int) (x24 : Int) (m_15 : Mm) (o : (Int × Int)) (e : AExit) (m1 : Mm) (t1 : Tr) : Prop :=
  match o with
  | (y26, y27) => e = .norm ∧ m_15 = m1 ∧ t1.get 26 = (.i .i64 y26) ∧ t1.get 27 = (.i .i64 y27) ∧ t1.get 23 = (.i .i64 x23) ∧ t1.get 24 = (.i .i64 x24)
abbrev g13_J26 (x23 : Int) (x24 : Int) (m_15 : Mm) (o : (Int × Int)) (e : AExit) (m1 : Mm) (t1 : Tr) : Prop :=
  match o with
  | (y26, y27) => e = .norm ∧ m_15 = m1 ∧ t1.get 26 = (.i .i64 y26) ∧ t1.get 27 = (.i .i64 y27) ∧ t1.get 23 = (.i .i64 x23) ∧ t1.get 24 = (.i .i64 x24)
abbrev g13_J27 (m_22 : Mm) (o : Bool) (m1 : Mm) (t1 : Tr) : Prop :=
  match o with
  | c267 => m_22 = m1 ∧ t1.get 267 = (.b c267)
abbrev g13_J28  (o : Bool × Mm) (m1 : Mm) (t1 : Tr) : Prop :=
  match o with
  | (c270, m_23) => m_23 = m1 ∧ t1.get 270 = (.b c270)
def g13 (M : Means) (ro : List ABlk) (x0 : Int) (x1 : Int) (x2 : Int) (x3 : Int) (x4 : Int) (m0 : Mm) : Option (AVal × Heap × Nat × Nat) :=
  forceI (Int.tmod x0 288230376151711745) fun x34 =>
  forceI (wr .i64 x34) fun x35 =>
  bindP (callM M.call m0 33 [(.i .i64 x35)]) fun v38 m_1 =>
  bindO (evP .e (.ext 0 (.c v38))) fun v39 =>
  asI .i64 v39 fun x39 =>
  bindO (evP .e (.ext 1 (.c v38))) fun v40 =>
  asI .i64 v40 fun x40 =>
  bindO (evP .e (.ext 2 (.c v38))) fun v41 =>
  asI .i64 v41 fun x41 =>
  bindP (callM M.call m_1 35 [(.i .i64 x39), (.i .i64 x40)]) fun v45 m_2 =>
  bindO (evP .e (.ext 0 (.c v45))) fun v46 =>
  asB v46 fun c46 =>
  bindO (evP .e (.ext 1 (.c v45))) fun v47 =>
  asI .i64 v47 fun x47 =>
  bindP (callM M.call m_2 35 [(.i .i64 x40), (.i .i64 x39)]) fun v51 m_3 =>
  bindO (evP .e (.ext 0 (.c v51))) fun v52 =>
  asB v52 fun c52 =>
  bindO (evP .e (.ext 1 (.c v51))) fun v53 =>
  asI .i64 v53 fun x53 =>
  forceB (!eqI x41 0) fun c55 =>
  bindO (cond c55 (
    some true) (
    forceB (!eqI x47 0) fun c58 =>
    some c58)) fun c59 =>
  bindO (cond c59 (
    some true) (
    forceB (!eqI x53 0) fun c62 =>
    some c62)) fun c63 =>
  bindO (cond c63 (
    some true) (
    forceB (!c46) fun c66 =>
    some c66)) fun c67 =>
  bindO (cond c67 (
    some true) (
    forceB (!c52) fun c70 =>
    some c70)) fun c71 =>
  bindO (cond c71 (
    some true) (
    forceI (wr .i64 (x39 + x35)) fun x76 =>
    forceB (!eqI x40 x76) fun c77 =>
    some c77)) fun c78 =>
  cond c78 (
    finM m0.h.length (tupA [(.b false)]) m_3) (
    forceB (ltI 0 x35) fun c80 =>
    bindO (α := (Mm ⊕ (Bool × Mm))) (
      cond c80 (
        bindP (callM M.call m_3 19 [(.i .i64 x39)]) fun v83 m_4 =>
        bindO (evP .e (.ext 0 (.c v83))) fun v84 =>
        asS v84 fun s84 =>
        bindO (evP .e (.ext 1 (.c v83))) fun v85 =>
        asI .i64 v85 fun x85 =>
        bindP (callM M.call m_4 19 [(.i .i64 x40)]) fun v88 m_5 =>
        bindO (evP .e (.ext 0 (.c v88))) fun v89 =>
        asS v89 fun s89 =>
        bindO (evP .e (.ext 1 (.c v88))) fun v90 =>
        asI .i64 v90 fun x90 =>
        forceB (!eqI x85 0) fun c92 =>
        bindO (cond c92 (
          some true) (
          forceB (!eqI x90 0) fun c95 =>
          some c95)) fun c96 =>
        bindO (cond c96 (
          some (true, m_5)) (
          bindP (callM M.call m_5 48 [(.s s84)]) fun v99 m_7 =>
          asI .i64 v99 fun x99 =>
          forceI (Int.tmod x99 2) fun x100 =>
          forceB (!eqI x100 0) fun c101 =>
          some (c101, m_7))) fun ⟨c102, m_6⟩ =>
        bindO (cond c102 (
          some true) (
          bindO (evP .e (.sbin BinOp.add (.c (.s s84)) (.c (AVal.s [48])))) fun v106 =>
          asS v106 fun s106 =>
          bindO (evP .e (.sbin BinOp.neq (.c (.s s89)) (.c (.s s106)))) fun v107 =>
          asB v107 fun c107 =>
          some c107)) fun c108 =>
        cond c108 (
          some (.inr (false, m_6))) (
          some (.inl m_6))) (
        some (.inl m_3))) fun o_5 => match o_5 with
    | (.inl m_8) =>
      bindP (callM M.call m_8 45 [(.i .u64 x1)]) fun v110 m_9 =>
      asI .i64 v110 fun x110 =>
      bindP (callM M.call m_9 45 [(.i .u64 x2)]) fun v112 m_10 =>
      asI .i64 v112 fun x112 =>
      forceI (Int.tmod x4 2) fun x114 =>
      forceB (eqI x114 0) fun c115 =>
      bindO (α := (Int × Int × Mm)) (
        cond c115 (
          bindP (callM M.call m_10 47 [(.i .u64 x1)]) fun v117 m_11 =>
          asI .i64 v117 fun x117 =>
          forceI (Int.tmod x117 200) fun x118 =>
          bindP (callM M.call m_11 47 [(.i .u64 x2)]) fun v120 m_12 =>
          asI .i64 v120 fun x120 =>
          forceI (Int.tmod x120 200) fun x121 =>
          some (x118, x121, m_12)) (
          some (x110, x112, m_10))) fun ⟨x23, x24, m_13⟩ =>
      bindP (callM M.call m_13 35 [(.i .i64 x23), (.i .i64 x24)]) fun v125 m_14 =>
      bindO (evP .e (.ext 0 (.c v125))) fun v126 =>
      asB v126 fun c126 =>
      bindO (evP .e (.ext 1 (.c v125))) fun v127 =>
      asI .i64 v127 fun x127 =>
      bindP (callM M.call m_14 37 [(.i .i64 x23), (.i .i64 x24)]) fun v131 m_15 =>
      bindO (evP .e (.ext 0 (.c v131))) fun v132 =>
      asI .i64 v132 fun x132 =>
      bindO (evP .e (.ext 1 (.c v131))) fun v133 =>
      asI .i64 v133 fun x133 =>
      bindO (evP .e (.ext 2 (.c v131))) fun v134 =>
      asI .i64 v134 fun x134 =>
      forceB (!eqI x127 0) fun c136 =>
      bindO (cond c136 (
        some true) (
        forceB (eqI x134 10) fun c140 =>
        forceB (!(c126 == c140)) fun c141 =>
        some c141)) fun c142 =>
      bindO (cond c142 (
        some true) (
        forceB (!c126) fun c145 =>
        bindO (cond c145 (
          forceB (!eqI x134 0) fun c148 =>
          some c148) (
          some false)) fun c150_1 =>
        some c150_1)) fun c150 =>
      cond c150 (
        finM m0.h.length (tupA [(.b false)]) m_15) (
        forceB (!c126) fun c152 =>
        cond c152 (
          forceI (wr .i64 (x23 - x132)) fun x156 =>
          forceI (wr .i64 (x24 - x133)) fun x159 =>
          bindP (callM M.call m_15 35 [(.i .i64 x156), (.i .i64 x159)]) fun v160 m_16 =>
          bindO (evP .e (.ext 0 (.c v160))) fun v161 =>
          asB v161 fun c161 =>
          bindO (evP .e (.ext 1 (.c v160))) fun v162 =>
          asI .i64 v162 fun x162 =>
          forceB (eqI x162 0) fun c164 =>
          bindO (cond c164 (
            some c161) (
            some false)) fun c167 =>
          bindO (cond c167 (
            forceB (!ltI x132 0) fun c170 =>
            some c170) (
            some false)) fun c171 =>
          bindO (cond c171 (
            forceB (!ltI x133 0) fun c174 =>
            some c174) (
            some false)) fun c175 =>
          bindO (cond c175 (
            forceB (!ltI x23 x132) fun c179 =>
            some c179) (
            some false)) fun c180 =>
          bindO (cond c180 (
            forceB (!ltI x24 x133) fun c184 =>
            some c184) (
            some false)) fun c185 =>
          bindO (cond c185 (
            forceI (wr .i64 (x132 + x133)) fun x189 =>
            forceB (ltI 0 x189) fun c190 =>
            some c190) (
            some false)) fun c191 =>
          bindO (cond c191 (
            forceB (eqI x132 0) fun c194 =>
            bindO (cond c194 (
              some true) (
              forceB (eqI x133 0) fun c197 =>
              bindO (cond c197 (
                some true) (
                forceB (eqI x132 x133) fun c202 =>
                some c202)) fun c204_2 =>
              some c204_2)) fun c204_1 =>
            some c204_1) (
            some false)) fun c204 =>
          bindO (cond c204 (
            bindP (callM M.call m_16 18 []) fun v206 m_18 =>
            asB v206 fun c206 =>
            some (c206, m_18)) (
            some (false, m_16))) fun ⟨c207, m_17⟩ =>
          finM m0.h.length (tupA [(.b c207)]) m_17) (
          forceB (eqI x23 0) fun c209 =>
          bindO (cond c209 (
            forceB (eqI x24 0) fun c212 =>
            some c212) (
            some false)) fun c213 =>
          cond c213 (
            forceI (wr .i64 (x132 + x133)) fun x216 =>
            forceB (eqI x216 0) fun c217 =>
            bindO (cond c217 (
              bindP (callM M.call m_15 18 []) fun v219 m_20 =>
              asB v219 fun c219 =>
              some (c219, m_20)) (
              some (false, m_15))) fun ⟨c220, m_19⟩ =>
            finM m0.h.length (tupA [(.b c220)]) m_19) (
            forceI (mxV true x23 x24) fun x224 =>
            forceI (wr .u64 x224) fun x225 =>
            chk (!eqI x225 (.ofNat 0)) <|
            forceI (Int.tmod x3 x225) fun x226 =>
            forceI (wr .i64 x226) fun x227 =>
            forceI (wr .i64 (1 + x227)) fun x228 =>
            forceI (wr .u8 (Int.tdiv x4 2)) fun x230 =>
            forceI (Int.tmod x230 3) fun x231 =>
            forceB (eqI x231 0) fun c238 =>
            bindO (α := (Int × Int)) (
              cond c238 (
                forceI (mxV false x228 x23) fun x241 =>
                some (x241, 0)) (
                forceB (eqI x231 1) fun c243 =>
                bindO (α := (Int × Int)) (
                  cond c243 (
                    forceI (mxV false x228 x24) fun x246 =>
                    some (0, x246)) (
                    forceI (mxV false (mxV false x228 x23) x24) fun x235 =>
                    some (x235, x235))) fun ⟨x26, x27⟩ =>
                some (x26, x27))) fun ⟨x26_1, x27_1⟩ =>
            forceI (wr .i64 (x26_1 + x27_1)) fun x249 =>
            forceB (eqI x249 0) fun c250 =>
            cond c250 (
              bindP (callM M.call m_15 18 []) fun v251 m_21 =>
              asB v251 fun c251 =>
              finM m0.h.length (tupA [(.b c251)]) m_21) (
              forceI (wr .i64 (x23 - x26_1)) fun x255 =>
              forceI (wr .i64 (x24 - x27_1)) fun x258 =>
              bindP (callM M.call m_15 35 [(.i .i64 x255), (.i .i64 x258)]) fun v259 m_22 =>
              bindO (evP .e (.ext 0 (.c v259))) fun v260 =>
              asB v260 fun c260 =>
              bindO (evP .e (.ext 1 (.c v259))) fun v261 =>
              asI .i64 v261 fun x261 =>
              forceB (eqI x261 0) fun c263 =>
              bindO (cond c263 (
                forceB (!c260) fun c266 =>
                some c266) (
                some false)) fun c267 =>
              bindO (cond c267 (
                bindP (callM M.call m_22 18 []) fun v269 m_24 =>
                asB v269 fun c269 =>
                some (c269, m_24)) (
                some (false, m_22))) fun ⟨c270, m_23⟩ =>
              finM m0.h.length (tupA [(.b c270)]) m_23))))
    | (.inr (c10, m_25)) =>
      finM m0.h.length (tupA [(.b c10)]) m_25)

theorem g13_ok {ro : List ABlk} {O : Caller} {M : Means} (hM : M.Ok ⟨F, O⟩ ro) {x0 x1 x2 x3 x4 h r} (ho : O 13 [(.i .u64 x0), (.i .u64 x1), (.i .u64 x2), (.i .u64 x3), (.i .u8 x4)] h = none) (hr : g13 M ro x0 x1 x2 x3 x4 ⟨h, h.length, h.length⟩ = some r) : callX ⟨F, O⟩ ro 13 [(.i .u64 x0), (.i .u64 x1), (.i .u64 x2), (.i .u64 x3), (.i .u8 x4)] h = some r := by
  refine callX_of (F := ⟨F, O⟩) (fn := fn13) (g := g13 M ro x0 x1 x2 x3 x4) ho rfl rfl hr ?_
  clear ho
  clear hr
  intro m0 t0 ht hr
  have g0 : t0.get 0 = (.i .u64 x0) := ht 0
  have g1 : t0.get 1 = (.i .u64 x1) := ht 1
  have g2 : t0.get 2 = (.i .u64 x2) := ht 2
  have g3 : t0.get 3 = (.i .u64 x3) := ht 3
  have g4 : t0.get 4 = (.i .u8 x4) := ht 4
  clear ht
  unfold g13 at hr
  refine w_seq ?_
  refine w_ops ?_
  refine wo_step (v := (.b false)) (s_pure (p_mv rfl)) ?_
  refine wo_nil ?_
  refine nx_norm ?_
  refine w_seq ?_
  refine w_ops ?_
  refine wo_step (v := (.i .u64 x0)) (s_pure (p_mv g0)) ?_
  have hq := forceI_inv hr
  clear hr
  obtain ⟨x34, e34, hr⟩ := hq
  refine wo_step (v := (.i .u64 x34)) (s_pure (p_bin rfl rfl ((b_rem rfl).trans (ci e34)))) ?_
  have hq := forceI_inv hr
  clear hr
  obtain ⟨x35, e35, hr⟩ := hq
  refine wo_step (v := (.i .i64 x35)) (s_pure ((p_conv rfl).trans (ci e35))) ?_
  refine wo_step (v := (.i .i64 x35)) (s_pure (p_mv rfl)) ?_
  refine wo_nil ?_
  refine nx_norm ?_
  refine w_seq ?_
  refine w_ops ?_
  refine wo_step (v := (.i .i64 x35)) (s_pure (p_mv rfl)) ?_
  have hq := bindP_inv hr
  clear hr
  obtain ⟨v38, m_1, e38, hr⟩ := hq
  refine wo_step (v := v38) (s_call (mc rfl mn) (callM_le hM.call e38)) ?_
  refine wo_step (v := v38) (s_pure (p_mv rfl)) ?_
  have hq := bindO_inv hr
  clear hr
  obtain ⟨v39, e39, hr⟩ := hq
  have hq := asI_inv hr
  clear hr
  obtain ⟨x39, rfl, hr⟩ := hq
  refine wo_step (v := (.i .i64 x39)) (s_pure (o_ext rfl e39)) ?_
  have hq := bindO_inv hr
  clear hr
  obtain ⟨v40, e40, hr⟩ := hq
  have hq := asI_inv hr
  clear hr
  obtain ⟨x40, rfl, hr⟩ := hq
  refine wo_step (v := (.i .i64 x40)) (s_pure (o_ext rfl e40)) ?_
  have hq := bindO_inv hr
  clear hr
  obtain ⟨v41, e41, hr⟩ := hq
  have hq := asI_inv hr
  clear hr
  obtain ⟨x41, rfl, hr⟩ := hq
  refine wo_step (v := (.i .i64 x41)) (s_pure (o_ext rfl e41)) ?_
  refine wo_step (v := (.i .i64 x39)) (s_pure (p_mv rfl)) ?_
  refine wo_step (v := (.i .i64 x40)) (s_pure (p_mv rfl)) ?_
  refine wo_step (v := (.i .i64 x41)) (s_pure (p_mv rfl)) ?_
  refine wo_nil ?_
  refine nx_norm ?_
  refine w_seq ?_
  refine w_ops ?_
  refine wo_step (v := (.i .i64 x39)) (s_pure (p_mv rfl)) ?_
  refine wo_step (v := (.i .i64 x40)) (s_pure (p_mv rfl)) ?_
  have hq := bindP_inv hr
  clear hr
  obtain ⟨v45, m_2, e45, hr⟩ := hq
  refine wo_step (v := v45) (s_call (mc rfl (mc rfl mn)) (callM_le hM.call e45)) ?_
  refine wo_step (v := v45) (s_pure (p_mv rfl)) ?_
  have hq := bindO_inv hr
  clear hr
  obtain ⟨v46, e46, hr⟩ := hq
  have hq := asB_inv hr
  clear hr
  obtain ⟨c46, rfl, hr⟩ := hq
  refine wo_step (v := (.b c46)) (s_pure (o_ext rfl e46)) ?_
  have hq := bindO_inv hr
  clear hr
  obtain ⟨v47, e47, hr⟩ := hq
  have hq := asI_inv hr
  clear hr
  obtain ⟨x47, rfl, hr⟩ := hq
  refine wo_step (v := (.i .i64 x47)) (s_pure (o_ext rfl e47)) ?_
  refine wo_step (v := (.b c46)) (s_pure (p_mv rfl)) ?_
  refine wo_step (v := (.i .i64 x47)) (s_pure (p_mv rfl)) ?_
  refine wo_nil ?_
  refine nx_norm ?_
  refine w_seq ?_
  refine w_ops ?_
  refine wo_step (v := (.i .i64 x40)) (s_pure (p_mv rfl)) ?_
  refine wo_step (v := (.i .i64 x39)) (s_pure (p_mv rfl)) ?_
  have hq := bindP_inv hr
  clear hr
  obtain ⟨v51, m_3, e51, hr⟩ := hq
  refine wo_step (v := v51) (s_call (mc rfl (mc rfl mn)) (callM_le hM.call e51)) ?_
  refine wo_step (v := v51) (s_pure (p_mv rfl)) ?_
  have hq := bindO_inv hr
  clear hr
  obtain ⟨v52, e52, hr⟩ := hq
  have hq := asB_inv hr
  clear hr
  obtain ⟨c52, rfl, hr⟩ := hq
  refine wo_step (v := (.b c52)) (s_pure (o_ext rfl e52)) ?_
  have hq := bindO_inv hr
  clear hr
  obtain ⟨v53, e53, hr⟩ := hq
  have hq := asI_inv hr
  clear hr
  obtain ⟨x53, rfl, hr⟩ := hq
  refine wo_step (v := (.i .i64 x53)) (s_pure (o_ext rfl e53)) ?_
  refine wo_step (v := (.b c52)) (s_pure (p_mv rfl)) ?_
  refine wo_step (v := (.i .i64 x53)) (s_pure (p_mv rfl)) ?_
  refine wo_nil ?_
  refine nx_norm ?_
  refine w_seq ?_
  refine w_seq ?_
  refine w_ops ?_
  refine wo_step (v := (.i .i64 x41)) (s_pure (p_mv rfl)) ?_
  have hq := forceB_inv hr
  clear hr
  obtain ⟨c55, e55, hr⟩ := hq
  refine wo_step (v := (.b c55)) (s_pure (p_bin rfl rfl (b_neq.trans (cb e55)))) ?_
  refine wo_step (v := (.b c55)) (s_pure (p_mv rfl)) ?_
  have hq := bindO_inv hr
  clear hr
  obtain ⟨o, hr, hk⟩ := hq
  refine wo_join 3 (g13_J0 x1 x2 x3 x4 x35 x39 x40 c46 c52 x53 m_3 o) ?_ ?_
  · clear hk
    have hq := cond_inv hr
    clear hr
    rcases hq with ⟨rfl, hr⟩ | ⟨rfl, hr⟩
    · refine wo_skip (v := (.b true)) rfl rfl ?_
      refine wo_skip (v := (.b true)) rfl rfl ?_
      refine wo_step (v := (.b true)) (s_pure (p_pickT rfl rfl)) ?_
      refine wo_nil ?_
      cases hr
      exact ⟨_, _, rfl, rfl, gl rfl, gl g1, gl g2, gl g3, gl g4, gl rfl, gl rfl, gl rfl, gl rfl, gl rfl, gl rfl⟩
    · refine wo_take (v := (.i .i64 x47)) rfl (s_pure (p_mv rfl)) ?_
      have hq := forceB_inv hr
      clear hr
      obtain ⟨c58, e58, hr⟩ := hq
      refine wo_take (v := (.b c58)) rfl (s_pure (p_bin rfl rfl (b_neq.trans (cb e58)))) ?_
      refine wo_step (v := (.b c58)) (s_pure (p_pickF rfl rfl)) ?_
      refine wo_nil ?_
      cases hr
      exact ⟨_, _, rfl, rfl, gl rfl, gl g1, gl g2, gl g3, gl g4, gl rfl, gl rfl, gl rfl, gl rfl, gl rfl, gl rfl⟩
  · clear hr
    have hr := hk
    clear hk
    obtain ⟨c59, ho⟩ : ∃ z, z = o := ⟨_, rfl⟩
    subst ho
    rintro mm t_1 ⟨rfl, g59, g1, g2, g3, g4, g11, g12, g13, g15, g17, g18⟩
    refine wo_step (v := (.b c59)) (s_pure (p_mv g59)) ?_
    have hq := bindO_inv hr
    clear hr
    obtain ⟨o_1, hr, hk⟩ := hq
    refine wo_join 3 (g13_J1 x1 x2 x3 x4 x35 x39 x40 c46 c52 m_3 o_1) ?_ ?_
    · clear hk
      have hq := cond_inv hr
      clear hr
      rcases hq with ⟨rfl, hr⟩ | ⟨rfl, hr⟩
      · refine wo_skip (v := (.b true)) rfl rfl ?_
        refine wo_skip (v := (.b true)) rfl rfl ?_
        refine wo_step (v := (.b true)) (s_pure (p_pickT rfl rfl)) ?_
        refine wo_nil ?_
        cases hr
        exact ⟨_, _, rfl, rfl, gl rfl, gl g1, gl g2, gl g3, gl g4, gl g11, gl g12, gl g13, gl g15, gl g17⟩
      · refine wo_take (v := (.i .i64 x53)) rfl (s_pure (p_mv g18)) ?_
        have hq := forceB_inv hr
        clear hr
        obtain ⟨c62, e62, hr⟩ := hq
        refine wo_take (v := (.b c62)) rfl (s_pure (p_bin rfl rfl (b_neq.trans (cb e62)))) ?_
        refine wo_step (v := (.b c62)) (s_pure (p_pickF rfl rfl)) ?_
        refine wo_nil ?_
        cases hr
        exact ⟨_, _, rfl, rfl, gl rfl, gl g1, gl g2, gl g3, gl g4, gl g11, gl g12, gl g13, gl g15, gl g17⟩
    · clear hr
      have hr := hk
      clear hk
      obtain ⟨c63, ho⟩ : ∃ z, z = o_1 := ⟨_, rfl⟩
      subst ho
      rintro mm_1 t_2 ⟨rfl, g63, g1, g2, g3, g4, g11, g12, g13, g15, g17⟩
      refine wo_step (v := (.b c63)) (s_pure (p_mv g63)) ?_
      have hq := bindO_inv hr
      clear hr
      obtain ⟨o_2, hr, hk⟩ := hq
      refine wo_join 3 (g13_J2 x1 x2 x3 x4 x35 x39 x40 c52 m_3 o_2) ?_ ?_
      · clear hk
        have hq := cond_inv hr
        clear hr
        rcases hq with ⟨rfl, hr⟩ | ⟨rfl, hr⟩
        · refine wo_skip (v := (.b true)) rfl rfl ?_
          refine wo_skip (v := (.b true)) rfl rfl ?_
          refine wo_step (v := (.b true)) (s_pure (p_pickT rfl rfl)) ?_
          refine wo_nil ?_
          cases hr
          exact ⟨_, _, rfl, rfl, gl rfl, gl g1, gl g2, gl g3, gl g4, gl g11, gl g12, gl g13, gl g17⟩
        · refine wo_take (v := (.b c46)) rfl (s_pure (p_mv g15)) ?_
          have hq := forceB_inv hr
          clear hr
          obtain ⟨c66, e66, hr⟩ := hq
          refine wo_take (v := (.b c66)) rfl (s_pure ((p_not rfl).trans (cb e66))) ?_
          refine wo_step (v := (.b c66)) (s_pure (p_pickF rfl rfl)) ?_
          refine wo_nil ?_
          cases hr
          exact ⟨_, _, rfl, rfl, gl rfl, gl g1, gl g2, gl g3, gl g4, gl g11, gl g12, gl g13, gl g17⟩
      · clear hr
        have hr := hk
        clear hk
        obtain ⟨c67, ho⟩ : ∃ z, z = o_2 := ⟨_, rfl⟩
        subst ho
        rintro mm_2 t_3 ⟨rfl, g67, g1, g2, g3, g4, g11, g12, g13, g17⟩
        refine wo_step (v := (.b c67)) (s_pure (p_mv g67)) ?_
        have hq := bindO_inv hr
        clear hr
        obtain ⟨o_3, hr, hk⟩ := hq
        refine wo_join 3 (g13_J3 x1 x2 x3 x4 x35 x39 x40 m_3 o_3) ?_ ?_
        · clear hk
          have hq := cond_inv hr
          clear hr
          rcases hq with ⟨rfl, hr⟩ | ⟨rfl, hr⟩
          · refine wo_skip (v := (.b true)) rfl rfl ?_
            refine wo_skip (v := (.b true)) rfl rfl ?_
            refine wo_step (v := (.b true)) (s_pure (p_pickT rfl rfl)) ?_
            refine wo_nil ?_
            cases hr
            exact ⟨_, _, rfl, rfl, gl rfl, gl g1, gl g2, gl g3, gl g4, gl g11, gl g12, gl g13⟩
          · refine wo_take (v := (.b c52)) rfl (s_pure (p_mv g17)) ?_
            have hq := forceB_inv hr
            clear hr
            obtain ⟨c70, e70, hr⟩ := hq
            refine wo_take (v := (.b c70)) rfl (s_pure ((p_not rfl).trans (cb e70))) ?_
            refine wo_step (v := (.b c70)) (s_pure (p_pickF rfl rfl)) ?_
            refine wo_nil ?_
            cases hr
            exact ⟨_, _, rfl, rfl, gl rfl, gl g1, gl g2, gl g3, gl g4, gl g11, gl g12, gl g13⟩
        · clear hr
          have hr := hk
          clear hk
          obtain ⟨c71, ho⟩ : ∃ z, z = o_3 := ⟨_, rfl⟩
          subst ho
          rintro mm_3 t_4 ⟨rfl, g71, g1, g2, g3, g4, g11, g12, g13⟩
          refine wo_step (v := (.b c71)) (s_pure (p_mv g71)) ?_
          have hq := bindO_inv hr
          clear hr
          obtain ⟨o_4, hr, hk⟩ := hq
          refine wo_join 6 (g13_J4 x1 x2 x3 x4 x35 x39 x40 m_3 o_4) ?_ ?_
          · clear hk
            have hq := cond_inv hr
            clear hr
            rcases hq with ⟨rfl, hr⟩ | ⟨rfl, hr⟩
            · refine wo_skip (v := (.b true)) rfl rfl ?_
              refine wo_skip (v := (.b true)) rfl rfl ?_
              refine wo_skip (v := (.b true)) rfl rfl ?_
              refine wo_skip (v := (.b true)) rfl rfl ?_
              refine wo_skip (v := (.b true)) rfl rfl ?_
              refine wo_step (v := (.b true)) (s_pure (p_pickT rfl rfl)) ?_
              refine wo_nil ?_
              cases hr
              exact ⟨_, _, rfl, rfl, gl rfl, gl g1, gl g2, gl g3, gl g4, gl g11, gl g12, gl g13⟩
            · refine wo_take (v := (.i .i64 x40)) rfl (s_pure (p_mv g13)) ?_
              refine wo_take (v := (.i .i64 x39)) rfl (s_pure (p_mv g12)) ?_
              refine wo_take (v := (.i .i64 x35)) rfl (s_pure (p_mv g11)) ?_
              have hq := forceI_inv hr
              clear hr
              obtain ⟨x76, e76, hr⟩ := hq
              refine wo_take (v := (.i .i64 x76)) rfl (s_pure (p_bin rfl rfl (b_add.trans (ci e76)))) ?_
              have hq := forceB_inv hr
              clear hr
              obtain ⟨c77, e77, hr⟩ := hq
              refine wo_take (v := (.b c77)) rfl (s_pure (p_bin rfl rfl (b_neq.trans (cb e77)))) ?_
              refine wo_step (v := (.b c77)) (s_pure (p_pickF rfl rfl)) ?_
              refine wo_nil ?_
              cases hr
              exact ⟨_, _, rfl, rfl, gl rfl, gl g1, gl g2, gl g3, gl g4, gl g11, gl g12, gl g13⟩
          · clear hr
            have hr := hk
            clear hk
            obtain ⟨c78, ho⟩ : ∃ z, z = o_4 := ⟨_, rfl⟩
            subst ho
            rintro mm_4 t_5 ⟨rfl, g78, g1, g2, g3, g4, g11, g12, g13⟩
            refine wo_nil ?_
            refine nx_norm ?_
            have hq := cond_inv hr
            clear hr
            rcases hq with ⟨rfl, hr⟩ | ⟨rfl, hr⟩
            · refine w_condT g78 ?_
              refine w_seq ?_
              refine w_ops ?_
              refine wo_step (v := (.b false)) (s_pure (p_mv rfl)) ?_
              refine wo_nil ?_
              refine nx_norm ?_
              refine w_ret ?_
              refine nx_ret ?_
              exact qf ret_ok (rt rfl rn) hr
            · refine w_condF g78 ?_
              refine w_skip ?_
              refine nx_norm ?_
              refine w_seq ?_
              refine w_seq ?_
              refine w_ops ?_
              refine wo_step (v := (.i .i64 x35)) (s_pure (p_mv g11)) ?_
              have hq := forceB_inv hr
              clear hr
              obtain ⟨c80, e80, hr⟩ := hq
              refine wo_step (v := (.b c80)) (s_pure (p_bin rfl rfl (b_gtr.trans (cb e80)))) ?_
              refine wo_nil ?_
              refine nx_norm ?_
              have hq := bindO_inv hr
              clear hr
              obtain ⟨o_5, hr, hk⟩ := hq
              refine jp_mono (J := g13_J5 x1 x2 x3 x4 o_5) ?_ ?_
              · clear hk
                have hq := cond_inv hr
                clear hr
                rcases hq with ⟨rfl, hr⟩ | ⟨rfl, hr⟩
                · refine w_condT rfl ?_
                  refine w_seq ?_
                  refine w_ops ?_
                  refine wo_step (v := (.i .i64 x39)) (s_pure (p_mv g12)) ?_
                  have hq := bindP_inv hr
                  clear hr
                  obtain ⟨v83, m_4, e83, hr⟩ := hq
                  refine wo_step (v := v83) (s_call (mc rfl mn) (callM_le hM.call e83)) ?_
                  refine wo_step (v := v83) (s_pure (p_mv rfl)) ?_
                  have hq := bindO_inv hr
                  clear hr
                  obtain ⟨v84, e84, hr⟩ := hq
                  have hq := asS_inv hr
                  clear hr
                  obtain ⟨s84, rfl, hr⟩ := hq
                  refine wo_step (v := (.s s84)) (s_pure (o_ext rfl e84)) ?_
                  have hq := bindO_inv hr
                  clear hr
                  obtain ⟨v85, e85, hr⟩ := hq
                  have hq := asI_inv hr
                  clear hr
                  obtain ⟨x85, rfl, hr⟩ := hq
                  refine wo_step (v := (.i .i64 x85)) (s_pure (o_ext rfl e85)) ?_
                  refine wo_step (v := (.s s84)) (s_pure (p_mv rfl)) ?_
                  refine wo_step (v := (.i .i64 x85)) (s_pure (p_mv rfl)) ?_
                  refine wo_nil ?_
                  refine nx_norm ?_
                  refine w_seq ?_
                  refine w_ops ?_
                  refine wo_step (v := (.i .i64 x40)) (s_pure (p_mv g13)) ?_
                  have hq := bindP_inv hr
                  clear hr
                  obtain ⟨v88, m_5, e88, hr⟩ := hq
                  refine wo_step (v := v88) (s_call (mc rfl mn) (callM_le hM.call e88)) ?_
                  refine wo_step (v := v88) (s_pure (p_mv rfl)) ?_
                  have hq := bindO_inv hr
                  clear hr
                  obtain ⟨v89, e89, hr⟩ := hq
                  have hq := asS_inv hr
                  clear hr
                  obtain ⟨s89, rfl, hr⟩ := hq
                  refine wo_step (v := (.s s89)) (s_pure (o_ext rfl e89)) ?_
                  have hq := bindO_inv hr
                  clear hr
                  obtain ⟨v90, e90, hr⟩ := hq
                  have hq := asI_inv hr
                  clear hr
                  obtain ⟨x90, rfl, hr⟩ := hq
                  refine wo_step (v := (.i .i64 x90)) (s_pure (o_ext rfl e90)) ?_
                  refine wo_step (v := (.s s89)) (s_pure (p_mv rfl)) ?_
                  refine wo_step (v := (.i .i64 x90)) (s_pure (p_mv rfl)) ?_
                  refine wo_nil ?_
                  refine nx_norm ?_
                  refine w_seq ?_
                  refine w_ops ?_
                  refine wo_step (v := (.i .i64 x85)) (s_pure (p_mv rfl)) ?_
                  have hq := forceB_inv hr
                  clear hr
                  obtain ⟨c92, e92, hr⟩ := hq
                  refine wo_step (v := (.b c92)) (s_pure (p_bin rfl rfl (b_neq.trans (cb e92)))) ?_
                  refine wo_step (v := (.b c92)) (s_pure (p_mv rfl)) ?_
                  have hq := bindO_inv hr
                  clear hr
                  obtain ⟨o_6, hr, hk⟩ := hq
                  refine wo_join 3 (g13_J6 x1 x2 x3 x4 s84 s89 m_5 o_6) ?_ ?_
                  · clear hk
                    have hq := cond_inv hr
                    clear hr
                    rcases hq with ⟨rfl, hr⟩ | ⟨rfl, hr⟩
                    · refine wo_skip (v := (.b true)) rfl rfl ?_
                      refine wo_skip (v := (.b true)) rfl rfl ?_
                      refine wo_step (v := (.b true)) (s_pure (p_pickT rfl rfl)) ?_
                      refine wo_nil ?_
                      cases hr
                      exact ⟨_, _, rfl, rfl, gl rfl, gl g1, gl g2, gl g3, gl g4, gl rfl, gl rfl⟩
                    · refine wo_take (v := (.i .i64 x90)) rfl (s_pure (p_mv rfl)) ?_
                      have hq := forceB_inv hr
                      clear hr
                      obtain ⟨c95, e95, hr⟩ := hq
                      refine wo_take (v := (.b c95)) rfl (s_pure (p_bin rfl rfl (b_neq.trans (cb e95)))) ?_
                      refine wo_step (v := (.b c95)) (s_pure (p_pickF rfl rfl)) ?_
                      refine wo_nil ?_
                      cases hr
                      exact ⟨_, _, rfl, rfl, gl rfl, gl g1, gl g2, gl g3, gl g4, gl rfl, gl rfl⟩
                  · clear hr
                    have hr := hk
                    clear hk
                    obtain ⟨c96, ho⟩ : ∃ z, z = o_6 := ⟨_, rfl⟩
                    subst ho
                    rintro mm_5 t_6 ⟨rfl, g96, g1, g2, g3, g4, g19, g21⟩
                    refine wo_step (v := (.b c96)) (s_pure (p_mv g96)) ?_
                    have hq := bindO_inv hr
                    clear hr
                    obtain ⟨o_7, hr, hk⟩ := hq
                    refine wo_join 5 (g13_J7 x1 x2 x3 x4 s84 s89 o_7) ?_ ?_
                    · clear hk
                      have hq := cond_inv hr
                      clear hr
                      rcases hq with ⟨rfl, hr⟩ | ⟨rfl, hr⟩
                      · refine wo_skip (v := (.b true)) rfl rfl ?_
                        refine wo_skip (v := (.b true)) rfl rfl ?_
                        refine wo_skip (v := (.b true)) rfl rfl ?_
                        refine wo_skip (v := (.b true)) rfl rfl ?_
                        refine wo_step (v := (.b true)) (s_pure (p_pickT rfl rfl)) ?_
                        refine wo_nil ?_
                        cases hr
                        exact ⟨_, _, rfl, rfl, gl rfl, gl g1, gl g2, gl g3, gl g4, gl g19, gl g21⟩
                      · refine wo_take (v := (.s s84)) rfl (s_pure (p_mv g19)) ?_
                        have hq := bindP_inv hr
                        clear hr
                        obtain ⟨v99, m_7, e99, hr⟩ := hq
                        have hq := asI_inv hr
                        clear hr
                        obtain ⟨x99, rfl, hr⟩ := hq
                        refine wo_take (v := (.i .i64 x99)) rfl (s_call (mc rfl mn) (callM_le hM.call e99)) ?_
                        have hq := forceI_inv hr
                        clear hr
                        obtain ⟨x100, e100, hr⟩ := hq
                        refine wo_take (v := (.i .i64 x100)) rfl (s_pure (p_bin rfl rfl ((b_rem rfl).trans (ci e100)))) ?_
                        have hq := forceB_inv hr
                        clear hr
                        obtain ⟨c101, e101, hr⟩ := hq
                        refine wo_take (v := (.b c101)) rfl (s_pure (p_bin rfl rfl (b_neq.trans (cb e101)))) ?_
                        refine wo_step (v := (.b c101)) (s_pure (p_pickF rfl rfl)) ?_
                        refine wo_nil ?_
                        cases hr
                        exact ⟨_, _, rfl, rfl, gl rfl, gl g1, gl g2, gl g3, gl g4, gl g19, gl g21⟩
                    · clear hr
                      have hr := hk
                      clear hk
                      obtain ⟨c102, m_6⟩ := o_7
                      rintro mm_6 t_7 ⟨rfl, g102, g1, g2, g3, g4, g19, g21⟩
                      refine wo_step (v := (.b c102)) (s_pure (p_mv g102)) ?_
                      have hq := bindO_inv hr
                      clear hr
                      obtain ⟨o_8, hr, hk⟩ := hq
                      refine wo_join 5 (g13_J8 x1 x2 x3 x4 m_6 o_8) ?_ ?_
                      · clear hk
                        have hq := cond_inv hr
                        clear hr
                        rcases hq with ⟨rfl, hr⟩ | ⟨rfl, hr⟩
                        · refine wo_skip (v := (.b true)) rfl rfl ?_
                          refine wo_skip (v := (.b true)) rfl rfl ?_
                          refine wo_skip (v := (.b true)) rfl rfl ?_
                          refine wo_skip (v := (.b true)) rfl rfl ?_
                          refine wo_step (v := (.b true)) (s_pure (p_pickT rfl rfl)) ?_
                          refine wo_nil ?_
                          cases hr
                          exact ⟨_, _, rfl, rfl, gl rfl, gl g1, gl g2, gl g3, gl g4⟩
                        · refine wo_take (v := (.s s89)) rfl (s_pure (p_mv g21)) ?_
                          refine wo_take (v := (.s s84)) rfl (s_pure (p_mv g19)) ?_
                          have hq := bindO_inv hr
                          clear hr
                          obtain ⟨v106, e106, hr⟩ := hq
                          have hq := asS_inv hr
                          clear hr
                          obtain ⟨s106, rfl, hr⟩ := hq
                          refine wo_take (v := (.s s106)) rfl (s_pure (o_sbin rfl rfl e106)) ?_
                          have hq := bindO_inv hr
                          clear hr
                          obtain ⟨v107, e107, hr⟩ := hq
                          have hq := asB_inv hr
                          clear hr
                          obtain ⟨c107, rfl, hr⟩ := hq
                          refine wo_take (v := (.b c107)) rfl (s_pure (o_sbin rfl rfl e107)) ?_
                          refine wo_step (v := (.b c107)) (s_pure (p_pickF rfl rfl)) ?_
                          refine wo_nil ?_
                          cases hr
                          exact ⟨_, _, rfl, rfl, gl rfl, gl g1, gl g2, gl g3, gl g4⟩
                      · clear hr
                        have hr := hk
                        clear hk
                        obtain ⟨c108, ho⟩ : ∃ z, z = o_8 := ⟨_, rfl⟩
                        subst ho
                        rintro mm_7 t_8 ⟨rfl, g108, g1, g2, g3, g4⟩
                        refine wo_nil ?_
                        refine nx_norm ?_
                        have hq := cond_inv hr
                        clear hr
                        rcases hq with ⟨rfl, hr⟩ | ⟨rfl, hr⟩
                        · refine w_condT g108 ?_
                          refine w_seq ?_
                          refine w_ops ?_
                          refine wo_step (v := (.b false)) (s_pure (p_mv rfl)) ?_
                          refine wo_nil ?_
                          refine nx_norm ?_
                          refine w_ret ?_
                          cases hr
                          exact ⟨_, _, rfl, rfl, rfl, gl rfl⟩
                        · refine w_condF g108 ?_
                          refine w_skip ?_
                          cases hr
                          exact ⟨_, _, rfl, rfl, rfl, gl g1, gl g2, gl g3, gl g4⟩
                · refine w_condF rfl ?_
                  refine w_skip ?_
                  cases hr
                  exact ⟨_, _, rfl, rfl, rfl, gl g1, gl g2, gl g3, gl g4⟩
              · clear hr
                have hr := hk
                clear hk
                rcases o_5 with o_5 | o_5
                · obtain ⟨m_8, ho⟩ : ∃ z, z = o_5 := ⟨_, rfl⟩
                  subst ho
                  rintro _ mm_28 t_9 ⟨rfl, rfl, g1, g2, g3, g4⟩
                  refine nx_norm ?_
                  refine w_seq ?_
                  refine w_ops ?_
                  refine wo_step (v := (.i .u64 x1)) (s_pure (p_mv g1)) ?_
                  have hq := bindP_inv hr
                  clear hr
                  obtain ⟨v110, m_9, e110, hr⟩ := hq
                  have hq := asI_inv hr
                  clear hr
                  obtain ⟨x110, rfl, hr⟩ := hq
                  refine wo_step (v := (.i .i64 x110)) (s_call (mc rfl mn) (callM_le hM.call e110)) ?_
                  refine wo_step (v := (.i .u64 x2)) (s_pure (p_mv g2)) ?_
                  have hq := bindP_inv hr
                  clear hr
                  obtain ⟨v112, m_10, e112, hr⟩ := hq
                  have hq := asI_inv hr
                  clear hr
                  obtain ⟨x112, rfl, hr⟩ := hq
                  refine wo_step (v := (.i .i64 x112)) (s_call (mc rfl mn) (callM_le hM.call e112)) ?_
                  refine wo_step (v := (.i .i64 x110)) (s_pure (p_mv rfl)) ?_
                  refine wo_step (v := (.i .i64 x112)) (s_pure (p_mv rfl)) ?_
                  refine wo_nil ?_
                  refine nx_norm ?_
                  refine w_seq ?_
                  refine w_seq ?_
                  refine w_ops ?_
                  refine wo_step (v := (.i .u8 x4)) (s_pure (p_mv g4)) ?_
                  have hq := forceI_inv hr
                  clear hr
                  obtain ⟨x114, e114, hr⟩ := hq
                  refine wo_step (v := (.i .u8 x114)) (s_pure (p_bin rfl rfl ((b_rem rfl).trans (ci e114)))) ?_
                  have hq := forceB_inv hr
                  clear hr
                  obtain ⟨c115, e115, hr⟩ := hq
                  refine wo_step (v := (.b c115)) (s_pure (p_bin rfl rfl (b_eql.trans (cb e115)))) ?_
                  refine wo_nil ?_
                  refine nx_norm ?_
                  have hq := bindO_inv hr
                  clear hr
                  obtain ⟨o_9, hr, hk⟩ := hq
                  refine jp_mono (J := g13_J9 x3 x4 o_9) ?_ ?_
                  · clear hk
                    have hq := cond_inv hr
                    clear hr
                    rcases hq with ⟨rfl, hr⟩ | ⟨rfl, hr⟩
                    · refine w_condT rfl ?_
                      refine w_ops ?_
                      refine wo_step (v := (.i .u64 x1)) (s_pure (p_mv g1)) ?_
                      have hq := bindP_inv hr
                      clear hr
                      obtain ⟨v117, m_11, e117, hr⟩ := hq
                      have hq := asI_inv hr
                      clear hr
                      obtain ⟨x117, rfl, hr⟩ := hq
                      refine wo_step (v := (.i .i64 x117)) (s_call (mc rfl mn) (callM_le hM.call e117)) ?_
                      have hq := forceI_inv hr
                      clear hr
                      obtain ⟨x118, e118, hr⟩ := hq
                      refine wo_step (v := (.i .i64 x118)) (s_pure (p_bin rfl rfl ((b_rem rfl).trans (ci e118)))) ?_
                      refine wo_step (v := (.i .u64 x2)) (s_pure (p_mv g2)) ?_
                      have hq := bindP_inv hr
                      clear hr
                      obtain ⟨v120, m_12, e120, hr⟩ := hq
                      have hq := asI_inv hr
                      clear hr
                      obtain ⟨x120, rfl, hr⟩ := hq
                      refine wo_step (v := (.i .i64 x120)) (s_call (mc rfl mn) (callM_le hM.call e120)) ?_
                      have hq := forceI_inv hr
                      clear hr
                      obtain ⟨x121, e121, hr⟩ := hq
                      refine wo_step (v := (.i .i64 x121)) (s_pure (p_bin rfl rfl ((b_rem rfl).trans (ci e121)))) ?_
                      refine wo_step (v := (.i .i64 x118)) (s_pure (p_mv rfl)) ?_
                      refine wo_step (v := (.i .i64 x121)) (s_pure (p_mv rfl)) ?_
                      refine wo_nil ?_
                      cases hr
                      exact ⟨_, _, rfl, rfl, rfl, gl rfl, gl rfl, gl g3, gl g4⟩
                    · refine w_condF rfl ?_
                      refine w_skip ?_
                      cases hr
                      exact ⟨_, _, rfl, rfl, rfl, gl rfl, gl rfl, gl g3, gl g4⟩
                  · clear hr
                    have hr := hk
                    clear hk
                    obtain ⟨x23, x24, m_13⟩ := o_9
                    rintro _ mm_27 t_10 ⟨rfl, rfl, g23, g24, g3, g4⟩
                    refine nx_norm ?_
                    refine w_seq ?_
                    refine w_ops ?_
                    refine wo_step (v := (.i .i64 x23)) (s_pure (p_mv g23)) ?_
                    refine wo_step (v := (.i .i64 x24)) (s_pure (p_mv g24)) ?_
                    have hq := bindP_inv hr
                    clear hr
                    obtain ⟨v125, m_14, e125, hr⟩ := hq
                    refine wo_step (v := v125) (s_call (mc rfl (mc rfl mn)) (callM_le hM.call e125)) ?_
                    refine wo_step (v := v125) (s_pure (p_mv rfl)) ?_
                    have hq := bindO_inv hr
                    clear hr
                    obtain ⟨v126, e126, hr⟩ := hq
                    have hq := asB_inv hr
                    clear hr
                    obtain ⟨c126, rfl, hr⟩ := hq
                    refine wo_step (v := (.b c126)) (s_pure (o_ext rfl e126)) ?_
                    have hq := bindO_inv hr
                    clear hr
                    obtain ⟨v127, e127, hr⟩ := hq
                    have hq := asI_inv hr
                    clear hr
                    obtain ⟨x127, rfl, hr⟩ := hq
                    refine wo_step (v := (.i .i64 x127)) (s_pure (o_ext rfl e127)) ?_
                    refine wo_step (v := (.b c126)) (s_pure (p_mv rfl)) ?_
                    refine wo_step (v := (.i .i64 x127)) (s_pure (p_mv rfl)) ?_
                    refine wo_nil ?_
                    refine nx_norm ?_
                    refine w_seq ?_
                    refine w_ops ?_
                    refine wo_step (v := (.i .i64 x23)) (s_pure (p_mv g23)) ?_
                    refine wo_step (v := (.i .i64 x24)) (s_pure (p_mv g24)) ?_
                    have hq := bindP_inv hr
                    clear hr
                    obtain ⟨v131, m_15, e131, hr⟩ := hq
                    refine wo_step (v := v131) (s_call (mc rfl (mc rfl mn)) (callM_le hM.call e131)) ?_
                    refine wo_step (v := v131) (s_pure (p_mv rfl)) ?_
                    have hq := bindO_inv hr
                    clear hr
                    obtain ⟨v132, e132, hr⟩ := hq
                    have hq := asI_inv hr
                    clear hr
                    obtain ⟨x132, rfl, hr⟩ := hq
                    refine wo_step (v := (.i .i64 x132)) (s_pure (o_ext rfl e132)) ?_
                    have hq := bindO_inv hr
                    clear hr
                    obtain ⟨v133, e133, hr⟩ := hq
                    have hq := asI_inv hr
                    clear hr
                    obtain ⟨x133, rfl, hr⟩ := hq
                    refine wo_step (v := (.i .i64 x133)) (s_pure (o_ext rfl e133)) ?_
                    have hq := bindO_inv hr
                    clear hr
                    obtain ⟨v134, e134, hr⟩ := hq
                    have hq := asI_inv hr
                    clear hr
                    obtain ⟨x134, rfl, hr⟩ := hq
                    refine wo_step (v := (.i .i64 x134)) (s_pure (o_ext rfl e134)) ?_
                    refine wo_step (v := (.i .i64 x132)) (s_pure (p_mv rfl)) ?_
                    refine wo_step (v := (.i .i64 x133)) (s_pure (p_mv rfl)) ?_
                    refine wo_step (v := (.i .i64 x134)) (s_pure (p_mv rfl)) ?_
                    refine wo_nil ?_
                    refine nx_norm ?_
                    refine w_seq ?_
                    refine w_seq ?_
                    refine w_ops ?_
                    refine wo_step (v := (.i .i64 x127)) (s_pure (p_mv rfl)) ?_
                    have hq := forceB_inv hr
                    clear hr
                    obtain ⟨c136, e136, hr⟩ := hq
                    refine wo_step (v := (.b c136)) (s_pure (p_bin rfl rfl (b_neq.trans (cb e136)))) ?_
                    refine wo_step (v := (.b c136)) (s_pure (p_mv rfl)) ?_
                    have hq := bindO_inv hr
                    clear hr
                    obtain ⟨o_10, hr, hk⟩ := hq
                    refine wo_join 5 (g13_J10 x3 x4 x134 x23 x24 c126 x132 x133 m_15 o_10) ?_ ?_
                    · clear hk
                      have hq := cond_inv hr
                      clear hr
                      rcases hq with ⟨rfl, hr⟩ | ⟨rfl, hr⟩
                      · refine wo_skip (v := (.b true)) rfl rfl ?_
                        refine wo_skip (v := (.b true)) rfl rfl ?_
                        refine wo_skip (v := (.b true)) rfl rfl ?_
                        refine wo_skip (v := (.b true)) rfl rfl ?_
                        refine wo_step (v := (.b true)) (s_pure (p_pickT rfl rfl)) ?_
                        refine wo_nil ?_
                        cases hr
                        exact ⟨_, _, rfl, rfl, gl rfl, gl g3, gl g4, gl rfl, gl g23, gl g24, gl rfl, gl rfl, gl rfl⟩
                      · refine wo_take (v := (.b c126)) rfl (s_pure (p_mv rfl)) ?_
                        refine wo_take (v := (.i .i64 x134)) rfl (s_pure (p_mv rfl)) ?_
                        have hq := forceB_inv hr
                        clear hr
                        obtain ⟨c140, e140, hr⟩ := hq
                        refine wo_take (v := (.b c140)) rfl (s_pure (p_bin rfl rfl (b_eql.trans (cb e140)))) ?_
                        have hq := forceB_inv hr
                        clear hr
                        obtain ⟨c141, e141, hr⟩ := hq
                        refine wo_take (v := (.b c141)) rfl (s_pure (Eq.trans (p_beq rfl rfl) (cb e141))) ?_
                        refine wo_step (v := (.b c141)) (s_pure (p_pickF rfl rfl)) ?_
                        refine wo_nil ?_
                        cases hr
                        exact ⟨_, _, rfl, rfl, gl rfl, gl g3, gl g4, gl rfl, gl g23, gl g24, gl rfl, gl rfl, gl rfl⟩
                    · clear hr
                      have hr := hk
                      clear hk
                      obtain ⟨c142, ho⟩ : ∃ z, z = o_10 := ⟨_, rfl⟩
                      subst ho
                      rintro mm_8 t_11 ⟨rfl, g142, g3, g4, g16, g23, g24, g25, g26, g27⟩
                      refine wo_step (v := (.b c142)) (s_pure (p_mv g142)) ?_
                      have hq := bindO_inv hr
                      clear hr
                      obtain ⟨o_11, hr, hk⟩ := hq
                      refine wo_join 7 (g13_J11 x3 x4 x23 x24 c126 x132 x133 m_15 o_11) ?_ ?_
                      · clear hk
                        have hq := cond_inv hr
                        clear hr
                        rcases hq with ⟨rfl, hr⟩ | ⟨rfl, hr⟩
                        · refine wo_skip (v := (.b true)) rfl rfl ?_
                          refine wo_skip (v := (.b true)) rfl rfl ?_
                          refine wo_skip (v := (.b true)) rfl rfl ?_
                          refine wo_skip (v := und) rfl rfl ?_
                          refine wo_skip (v := und) rfl rfl ?_
                          refine wo_skip (v := (.b true)) rfl rfl ?_
                          refine wo_step (v := (.b true)) (s_pure (p_pickT rfl rfl)) ?_
                          refine wo_nil ?_
                          cases hr
                          exact ⟨_, _, rfl, rfl, gl rfl, gl g3, gl g4, gl g23, gl g24, gl g25, gl g26, gl g27⟩
                        · refine wo_take (v := (.b c126)) rfl (s_pure (p_mv g25)) ?_
                          have hq := forceB_inv hr
                          clear hr
                          obtain ⟨c145, e145, hr⟩ := hq
                          refine wo_take (v := (.b c145)) rfl (s_pure ((p_not rfl).trans (cb e145))) ?_
                          refine wo_take (v := (.b c145)) rfl (s_pure (p_mv rfl)) ?_
                          have hq := bindO_inv hr
                          clear hr
                          obtain ⟨o_12, hr, hk⟩ := hq
                          refine wo_join 4 (g13_J12 x3 x4 x23 x24 c126 x132 x133 m_15 o_12) ?_ ?_
                          · clear hk
                            have hq := cond_inv hr
                            clear hr
                            rcases hq with ⟨rfl, hr⟩ | ⟨rfl, hr⟩
                            · refine wo_take (v := (.i .i64 x134)) rfl (s_pure (p_mv g16)) ?_
                              have hq := forceB_inv hr
                              clear hr
                              obtain ⟨c148, e148, hr⟩ := hq
                              refine wo_take (v := (.b c148)) rfl (s_pure (p_bin rfl rfl (b_neq.trans (cb e148)))) ?_
                              refine wo_take (v := (.b c148)) rfl (s_pure (p_pickT rfl rfl)) ?_
                              refine wo_step (v := (.b c148)) (s_pure (p_pickF rfl rfl)) ?_
                              refine wo_nil ?_
                              cases hr
                              exact ⟨_, _, rfl, rfl, gl rfl, gl g3, gl g4, gl g23, gl g24, gl g25, gl g26, gl g27⟩
                            · refine wo_skip (v := (.b false)) rfl rfl ?_
                              refine wo_skip (v := (.b false)) rfl rfl ?_
                              refine wo_take (v := (.b false)) rfl (s_pure (p_pickF rfl rfl)) ?_
                              refine wo_step (v := (.b false)) (s_pure (p_pickF rfl rfl)) ?_
                              refine wo_nil ?_
                              cases hr
                              exact ⟨_, _, rfl, rfl, gl rfl, gl g3, gl g4, gl g23, gl g24, gl g25, gl g26, gl g27⟩
                          · clear hr
                            have hr := hk
                            clear hk
                            obtain ⟨c150_1, ho⟩ : ∃ z, z = o_12 := ⟨_, rfl⟩
                            subst ho
                            rintro mm_9 t_12 ⟨rfl, g150, g3, g4, g23, g24, g25, g26, g27⟩
                            refine wo_nil ?_
                            cases hr
                            exact ⟨_, _, rfl, rfl, gl g150, gl g3, gl g4, gl g23, gl g24, gl g25, gl g26, gl g27⟩
                      · clear hr
                        have hr := hk
                        clear hk
                        obtain ⟨c150, ho⟩ : ∃ z, z = o_11 := ⟨_, rfl⟩
                        subst ho
                        rintro mm_10 t_13 ⟨rfl, g150, g3, g4, g23, g24, g25, g26, g27⟩
                        refine wo_nil ?_
                        refine nx_norm ?_
                        have hq := cond_inv hr
                        clear hr
                        rcases hq with ⟨rfl, hr⟩ | ⟨rfl, hr⟩
                        · refine w_condT g150 ?_
                          refine w_seq ?_
                          refine w_ops ?_
                          refine wo_step (v := (.b false)) (s_pure (p_mv rfl)) ?_
                          refine wo_nil ?_
                          refine nx_norm ?_
                          refine w_ret ?_
                          refine nx_ret ?_
                          exact qf ret_ok (rt rfl rn) hr
                        · refine w_condF g150 ?_
                          refine w_skip ?_
                          refine nx_norm ?_
                          refine w_seq ?_
                          refine w_seq ?_
                          refine w_ops ?_
                          refine wo_step (v := (.b c126)) (s_pure (p_mv g25)) ?_
                          have hq := forceB_inv hr
                          clear hr
                          obtain ⟨c152, e152, hr⟩ := hq
                          refine wo_step (v := (.b c152)) (s_pure ((p_not rfl).trans (cb e152))) ?_
                          refine wo_nil ?_
                          refine nx_norm ?_
                          have hq := cond_inv hr
                          clear hr
                          rcases hq with ⟨rfl, hr⟩ | ⟨rfl, hr⟩
                          · refine w_condT rfl ?_
                            refine w_seq ?_
                            refine w_ops ?_
                            refine wo_step (v := (.i .i64 x23)) (s_pure (p_mv g23)) ?_
                            refine wo_step (v := (.i .i64 x132)) (s_pure (p_mv g26)) ?_
                            have hq := forceI_inv hr
                            clear hr
                            obtain ⟨x156, e156, hr⟩ := hq
                            refine wo_step (v := (.i .i64 x156)) (s_pure (p_bin rfl rfl (b_sub.trans (ci e156)))) ?_
                            refine wo_step (v := (.i .i64 x24)) (s_pure (p_mv g24)) ?_
                            refine wo_step (v := (.i .i64 x133)) (s_pure (p_mv g27)) ?_
                            have hq := forceI_inv hr
                            clear hr
                            obtain ⟨x159, e159, hr⟩ := hq
                            refine wo_step (v := (.i .i64 x159)) (s_pure (p_bin rfl rfl (b_sub.trans (ci e159)))) ?_
                            have hq := bindP_inv hr
                            clear hr
                            obtain ⟨v160, m_16, e160, hr⟩ := hq
                            refine wo_step (v := v160) (s_call (mc rfl (mc rfl mn)) (callM_le hM.call e160)) ?_
                            refine wo_step (v := v160) (s_pure (p_mv rfl)) ?_
                            have hq := bindO_inv hr
                            clear hr
                            obtain ⟨v161, e161, hr⟩ := hq
                            have hq := asB_inv hr
                            clear hr
                            obtain ⟨c161, rfl, hr⟩ := hq
                            refine wo_step (v := (.b c161)) (s_pure (o_ext rfl e161)) ?_
                            have hq := bindO_inv hr
                            clear hr
                            obtain ⟨v162, e162, hr⟩ := hq
                            have hq := asI_inv hr
                            clear hr
                            obtain ⟨x162, rfl, hr⟩ := hq
                            refine wo_step (v := (.i .i64 x162)) (s_pure (o_ext rfl e162)) ?_
                            refine wo_step (v := (.b c161)) (s_pure (p_mv rfl)) ?_
                            refine wo_step (v := (.i .i64 x162)) (s_pure (p_mv rfl)) ?_
                            refine wo_nil ?_
                            refine nx_norm ?_
                            refine w_seq ?_
                            refine w_ops ?_
                            refine wo_step (v := (.i .i64 x162)) (s_pure (p_mv rfl)) ?_
                            have hq := forceB_inv hr
                            clear hr
                            obtain ⟨c164, e164, hr⟩ := hq
                            refine wo_step (v := (.b c164)) (s_pure (p_bin rfl rfl (b_eql.trans (cb e164)))) ?_
                            refine wo_step (v := (.b c164)) (s_pure (p_mv rfl)) ?_
                            have hq := bindO_inv hr
                            clear hr
                            obtain ⟨o_13, hr, hk⟩ := hq
                            refine wo_join 2 (g13_J13 x23 x24 x132 x133 m_16 o_13) ?_ ?_
                            · clear hk
                              have hq := cond_inv hr
                              clear hr
                              rcases hq with ⟨rfl, hr⟩ | ⟨rfl, hr⟩
                              · refine wo_take (v := (.b c161)) rfl (s_pure (p_mv rfl)) ?_
                                refine wo_step (v := (.b c161)) (s_pure (p_pickT rfl rfl)) ?_
                                refine wo_nil ?_
                                cases hr
                                exact ⟨_, _, rfl, rfl, gl rfl, gl g23, gl g24, gl g26, gl g27⟩
                              · refine wo_skip (v := (.b false)) rfl rfl ?_
                                refine wo_step (v := (.b false)) (s_pure (p_pickF rfl rfl)) ?_
                                refine wo_nil ?_
                                cases hr
                                exact ⟨_, _, rfl, rfl, gl rfl, gl g23, gl g24, gl g26, gl g27⟩
                            · clear hr
                              have hr := hk
                              clear hk
                              obtain ⟨c167, ho⟩ : ∃ z, z = o_13 := ⟨_, rfl⟩
                              subst ho
                              rintro mm_11 t_14 ⟨rfl, g167, g23, g24, g26, g27⟩
                              refine wo_step (v := (.b c167)) (s_pure (p_mv g167)) ?_
                              have hq := bindO_inv hr
                              clear hr
                              obtain ⟨o_14, hr, hk⟩ := hq
                              refine wo_join 3 (g13_J14 x23 x24 x132 x133 m_16 o_14) ?_ ?_
                              · clear hk
                                have hq := cond_inv hr
                                clear hr
                                rcases hq with ⟨rfl, hr⟩ | ⟨rfl, hr⟩
                                · refine wo_take (v := (.i .i64 x132)) rfl (s_pure (p_mv g26)) ?_
                                  have hq := forceB_inv hr
                                  clear hr
                                  obtain ⟨c170, e170, hr⟩ := hq
                                  refine wo_take (v := (.b c170)) rfl (s_pure (p_bin rfl rfl (b_geq.trans (cb e170)))) ?_
                                  refine wo_step (v := (.b c170)) (s_pure (p_pickT rfl rfl)) ?_
                                  refine wo_nil ?_
                                  cases hr
                                  exact ⟨_, _, rfl, rfl, gl rfl, gl g23, gl g24, gl g26, gl g27⟩
                                · refine wo_skip (v := (.b false)) rfl rfl ?_
                                  refine wo_skip (v := (.b false)) rfl rfl ?_
                                  refine wo_step (v := (.b false)) (s_pure (p_pickF rfl rfl)) ?_
                                  refine wo_nil ?_
                                  cases hr
                                  exact ⟨_, _, rfl, rfl, gl rfl, gl g23, gl g24, gl g26, gl g27⟩
                              · clear hr
                                have hr := hk
                                clear hk
                                obtain ⟨c171, ho⟩ : ∃ z, z = o_14 := ⟨_, rfl⟩
                                subst ho
                                rintro mm_12 t_15 ⟨rfl, g171, g23, g24, g26, g27⟩
                                refine wo_step (v := (.b c171)) (s_pure (p_mv g171)) ?_
                                have hq := bindO_inv hr
                                clear hr
                                obtain ⟨o_15, hr, hk⟩ := hq
                                refine wo_join 3 (g13_J15 x23 x24 x132 x133 m_16 o_15) ?_ ?_
                                · clear hk
                                  have hq := cond_inv hr
                                  clear hr
                                  rcases hq with ⟨rfl, hr⟩ | ⟨rfl, hr⟩
                                  · refine wo_take (v := (.i .i64 x133)) rfl (s_pure (p_mv g27)) ?_
                                    have hq := forceB_inv hr
                                    clear hr
                                    obtain ⟨c174, e174, hr⟩ := hq
                                    refine wo_take (v := (.b c174)) rfl (s_pure (p_bin rfl rfl (b_geq.trans (cb e174)))) ?_
                                    refine wo_step (v := (.b c174)) (s_pure (p_pickT rfl rfl)) ?_
                                    refine wo_nil ?_
                                    cases hr
                                    exact ⟨_, _, rfl, rfl, gl rfl, gl g23, gl g24, gl g26, gl g27⟩
                                  · refine wo_skip (v := (.b false)) rfl rfl ?_
                                    refine wo_skip (v := (.b false)) rfl rfl ?_
                                    refine wo_step (v := (.b false)) (s_pure (p_pickF rfl rfl)) ?_
                                    refine wo_nil ?_
                                    cases hr
                                    exact ⟨_, _, rfl, rfl, gl rfl, gl g23, gl g24, gl g26, gl g27⟩
                                · clear hr
                                  have hr := hk
                                  clear hk
                                  obtain ⟨c175, ho⟩ : ∃ z, z = o_15 := ⟨_, rfl⟩
                                  subst ho
                                  rintro mm_13 t_16 ⟨rfl, g175, g23, g24, g26, g27⟩
                                  refine wo_step (v := (.b c175)) (s_pure (p_mv g175)) ?_
                                  have hq := bindO_inv hr
                                  clear hr
                                  obtain ⟨o_16, hr, hk⟩ := hq
                                  refine wo_join 4 (g13_J16 x24 x132 x133 m_16 o_16) ?_ ?_
                                  · clear hk
                                    have hq := cond_inv hr
                                    clear hr
                                    rcases hq with ⟨rfl, hr⟩ | ⟨rfl, hr⟩
                                    · refine wo_take (v := (.i .i64 x132)) rfl (s_pure (p_mv g26)) ?_
                                      refine wo_take (v := (.i .i64 x23)) rfl (s_pure (p_mv g23)) ?_
                                      have hq := forceB_inv hr
                                      clear hr
                                      obtain ⟨c179, e179, hr⟩ := hq
                                      refine wo_take (v := (.b c179)) rfl (s_pure (p_bin rfl rfl (b_leq.trans (cb e179)))) ?_
                                      refine wo_step (v := (.b c179)) (s_pure (p_pickT rfl rfl)) ?_
                                      refine wo_nil ?_
                                      cases hr
                                      exact ⟨_, _, rfl, rfl, gl rfl, gl g24, gl g26, gl g27⟩
                                    · refine wo_skip (v := (.b false)) rfl rfl ?_
                                      refine wo_skip (v := (.b false)) rfl rfl ?_
                                      refine wo_skip (v := (.b false)) rfl rfl ?_
                                      refine wo_step (v := (.b false)) (s_pure (p_pickF rfl rfl)) ?_
                                      refine wo_nil ?_
                                      cases hr
                                      exact ⟨_, _, rfl, rfl, gl rfl, gl g24, gl g26, gl g27⟩
                                  · clear hr
                                    have hr := hk
                                    clear hk
                                    obtain ⟨c180, ho⟩ : ∃ z, z = o_16 := ⟨_, rfl⟩
                                    subst ho
                                    rintro mm_14 t_17 ⟨rfl, g180, g24, g26, g27⟩
                                    refine wo_step (v := (.b c180)) (s_pure (p_mv g180)) ?_
                                    have hq := bindO_inv hr
                                    clear hr
                                    obtain ⟨o_17, hr, hk⟩ := hq
                                    refine wo_join 4 (g13_J17 x132 x133 m_16 o_17) ?_ ?_
                                    · clear hk
                                      have hq := cond_inv hr
                                      clear hr
                                      rcases hq with ⟨rfl, hr⟩ | ⟨rfl, hr⟩
                                      · refine wo_take (v := (.i .i64 x133)) rfl (s_pure (p_mv g27)) ?_
                                        refine wo_take (v := (.i .i64 x24)) rfl (s_pure (p_mv g24)) ?_
                                        have hq := forceB_inv hr
                                        clear hr
                                        obtain ⟨c184, e184, hr⟩ := hq
                                        refine wo_take (v := (.b c184)) rfl (s_pure (p_bin rfl rfl (b_leq.trans (cb e184)))) ?_
                                        refine wo_step (v := (.b c184)) (s_pure (p_pickT rfl rfl)) ?_
                                        refine wo_nil ?_
                                        cases hr
                                        exact ⟨_, _, rfl, rfl, gl rfl, gl g26, gl g27⟩
                                      · refine wo_skip (v := (.b false)) rfl rfl ?_
                                        refine wo_skip (v := (.b false)) rfl rfl ?_
                                        refine wo_skip (v := (.b false)) rfl rfl ?_
                                        refine wo_step (v := (.b false)) (s_pure (p_pickF rfl rfl)) ?_
                                        refine wo_nil ?_
                                        cases hr
                                        exact ⟨_, _, rfl, rfl, gl rfl, gl g26, gl g27⟩
                                    · clear hr
                                      have hr := hk
                                      clear hk
                                      obtain ⟨c185, ho⟩ : ∃ z, z = o_17 := ⟨_, rfl⟩
                                      subst ho
                                      rintro mm_15 t_18 ⟨rfl, g185, g26, g27⟩
                                      refine wo_step (v := (.b c185)) (s_pure (p_mv g185)) ?_
                                      have hq := bindO_inv hr
                                      clear hr
                                      obtain ⟨o_18, hr, hk⟩ := hq
                                      refine wo_join 5 (g13_J18 x132 x133 m_16 o_18) ?_ ?_
                                      · clear hk
                                        have hq := cond_inv hr
                                        clear hr
                                        rcases hq with ⟨rfl, hr⟩ | ⟨rfl, hr⟩
                                        · refine wo_take (v := (.i .i64 x132)) rfl (s_pure (p_mv g26)) ?_
                                          refine wo_take (v := (.i .i64 x133)) rfl (s_pure (p_mv g27)) ?_
                                          have hq := forceI_inv hr
                                          clear hr
                                          obtain ⟨x189, e189, hr⟩ := hq
                                          refine wo_take (v := (.i .i64 x189)) rfl (s_pure (p_bin rfl rfl (b_add.trans (ci e189)))) ?_
                                          have hq := forceB_inv hr
                                          clear hr
                                          obtain ⟨c190, e190, hr⟩ := hq
                                          refine wo_take (v := (.b c190)) rfl (s_pure (p_bin rfl rfl (b_gtr.trans (cb e190)))) ?_
                                          refine wo_step (v := (.b c190)) (s_pure (p_pickT rfl rfl)) ?_
                                          refine wo_nil ?_
                                          cases hr
                                          exact ⟨_, _, rfl, rfl, gl rfl, gl g26, gl g27⟩
                                        · refine wo_skip (v := (.b false)) rfl rfl ?_
                                          refine wo_skip (v := (.b false)) rfl rfl ?_
                                          refine wo_skip (v := (.b false)) rfl rfl ?_
                                          refine wo_skip (v := (.b false)) rfl rfl ?_
                                          refine wo_step (v := (.b false)) (s_pure (p_pickF rfl rfl)) ?_
                                          refine wo_nil ?_
                                          cases hr
                                          exact ⟨_, _, rfl, rfl, gl rfl, gl g26, gl g27⟩
                                      · clear hr
                                        have hr := hk
                                        clear hk
                                        obtain ⟨c191, ho⟩ : ∃ z, z = o_18 := ⟨_, rfl⟩
                                        subst ho
                                        rintro mm_16 t_19 ⟨rfl, g191, g26, g27⟩
                                        refine wo_step (v := (.b c191)) (s_pure (p_mv g191)) ?_
                                        have hq := bindO_inv hr
                                        clear hr
                                        obtain ⟨o_19, hr, hk⟩ := hq
                                        refine wo_join 12 (g13_J19 m_16 o_19) ?_ ?_
                                        · clear hk
                                          have hq := cond_inv hr
                                          clear hr
                                          rcases hq with ⟨rfl, hr⟩ | ⟨rfl, hr⟩
                                          · refine wo_take (v := (.i .i64 x132)) rfl (s_pure (p_mv g26)) ?_
                                            have hq := forceB_inv hr
                                            clear hr
                                            obtain ⟨c194, e194, hr⟩ := hq
                                            refine wo_take (v := (.b c194)) rfl (s_pure (p_bin rfl rfl (b_eql.trans (cb e194)))) ?_
                                            refine wo_take (v := (.b c194)) rfl (s_pure (p_mv rfl)) ?_
                                            have hq := bindO_inv hr
                                            clear hr
                                            obtain ⟨o_20, hr, hk⟩ := hq
                                            refine wo_join 9 (g13_J20 m_16 o_20) ?_ ?_
                                            · clear hk
                                              have hq := cond_inv hr
                                              clear hr
                                              rcases hq with ⟨rfl, hr⟩ | ⟨rfl, hr⟩
                                              · refine wo_skip (v := (.b true)) rfl rfl ?_
                                                refine wo_skip (v := (.b true)) rfl rfl ?_
                                                refine wo_take (v := (.b true)) rfl (s_pure (p_pickT rfl rfl)) ?_
                                                refine wo_take (v := (.b true)) rfl (s_pure (p_mv rfl)) ?_
                                                refine wo_skip (v := (.b true)) rfl rfl ?_
                                                refine wo_skip (v := (.b true)) rfl rfl ?_
                                                refine wo_skip (v := (.b true)) rfl rfl ?_
                                                refine wo_take (v := (.b true)) rfl (s_pure (p_pickT rfl rfl)) ?_
                                                refine wo_step (v := (.b true)) (s_pure (p_pickT rfl rfl)) ?_
                                                refine wo_nil ?_
                                                cases hr
                                                exact ⟨_, _, rfl, rfl, gl rfl⟩
                                              · refine wo_take (v := (.i .i64 x133)) rfl (s_pure (p_mv g27)) ?_
                                                have hq := forceB_inv hr
                                                clear hr
                                                obtain ⟨c197, e197, hr⟩ := hq
                                                refine wo_take (v := (.b c197)) rfl (s_pure (p_bin rfl rfl (b_eql.trans (cb e197)))) ?_
                                                refine wo_take (v := (.b c197)) rfl (s_pure (p_pickF rfl rfl)) ?_
                                                refine wo_take (v := (.b c197)) rfl (s_pure (p_mv rfl)) ?_
                                                have hq := bindO_inv hr
                                                clear hr
                                                obtain ⟨o_21, hr, hk⟩ := hq
                                                refine wo_join 5 (g13_J21 m_16 o_21) ?_ ?_
                                                · clear hk
                                                  have hq := cond_inv hr
                                                  clear hr
                                                  rcases hq with ⟨rfl, hr⟩ | ⟨rfl, hr⟩
                                                  · refine wo_skip (v := (.b true)) rfl rfl ?_
                                                    refine wo_skip (v := (.b true)) rfl rfl ?_
                                                    refine wo_skip (v := (.b true)) rfl rfl ?_
                                                    refine wo_take (v := (.b true)) rfl (s_pure (p_pickT rfl rfl)) ?_
                                                    refine wo_step (v := (.b true)) (s_pure (p_pickT rfl rfl)) ?_
                                                    refine wo_nil ?_
                                                    cases hr
                                                    exact ⟨_, _, rfl, rfl, gl rfl⟩
                                                  · refine wo_take (v := (.i .i64 x132)) rfl (s_pure (p_mv g26)) ?_
                                                    refine wo_take (v := (.i .i64 x133)) rfl (s_pure (p_mv g27)) ?_
                                                    have hq := forceB_inv hr
                                                    clear hr
                                                    obtain ⟨c202, e202, hr⟩ := hq
                                                    refine wo_take (v := (.b c202)) rfl (s_pure (p_bin rfl rfl (b_eql.trans (cb e202)))) ?_
                                                    refine wo_take (v := (.b c202)) rfl (s_pure (p_pickF rfl rfl)) ?_
                                                    refine wo_step (v := (.b c202)) (s_pure (p_pickT rfl rfl)) ?_
                                                    refine wo_nil ?_
                                                    cases hr
                                                    exact ⟨_, _, rfl, rfl, gl rfl⟩
                                                · clear hr
                                                  have hr := hk
                                                  clear hk
                                                  obtain ⟨c204_2, ho⟩ : ∃ z, z = o_21 := ⟨_, rfl⟩
                                                  subst ho
                                                  rintro mm_17 t_20 ⟨rfl, g204⟩
                                                  refine wo_nil ?_
                                                  cases hr
                                                  exact ⟨_, _, rfl, rfl, gl g204⟩
                                            · clear hr
                                              have hr := hk
                                              clear hk
                                              obtain ⟨c204_1, ho⟩ : ∃ z, z = o_20 := ⟨_, rfl⟩
                                              subst ho
                                              rintro mm_18 t_21 ⟨rfl, g204⟩
                                              refine wo_nil ?_
                                              cases hr
                                              exact ⟨_, _, rfl, rfl, gl g204⟩
                                          · refine wo_skip (v := (.b false)) rfl rfl ?_
                                            refine wo_skip (v := (.b false)) rfl rfl ?_
                                            refine wo_skip (v := (.b false)) rfl rfl ?_
                                            refine wo_skip (v := und) rfl rfl ?_
                                            refine wo_skip (v := und) rfl rfl ?_
                                            refine wo_skip (v := (.b false)) rfl rfl ?_
                                            refine wo_skip (v := (.b false)) rfl rfl ?_
                                            refine wo_skip (v := und) rfl rfl ?_
                                            refine wo_skip (v := und) rfl rfl ?_
                                            refine wo_skip (v := und) rfl rfl ?_
                                            refine wo_skip (v := (.b false)) rfl rfl ?_
                                            refine wo_step (v := (.b false)) (s_pure (p_pickF rfl rfl)) ?_
                                            refine wo_nil ?_
                                            cases hr
                                            exact ⟨_, _, rfl, rfl, gl rfl⟩
                                        · clear hr
                                          have hr := hk
                                          clear hk
                                          obtain ⟨c204, ho⟩ : ∃ z, z = o_19 := ⟨_, rfl⟩
                                          subst ho
                                          rintro mm_19 t_22 ⟨rfl, g204⟩
                                          refine wo_step (v := (.b c204)) (s_pure (p_mv g204)) ?_
                                          have hq := bindO_inv hr
                                          clear hr
                                          obtain ⟨o_22, hr, hk⟩ := hq
                                          refine wo_join 2 (g13_J22  o_22) ?_ ?_
                                          · clear hk
                                            have hq := cond_inv hr
                                            clear hr
                                            rcases hq with ⟨rfl, hr⟩ | ⟨rfl, hr⟩
                                            · have hq := bindP_inv hr
                                              clear hr
                                              obtain ⟨v206, m_18, e206, hr⟩ := hq
                                              have hq := asB_inv hr
                                              clear hr
                                              obtain ⟨c206, rfl, hr⟩ := hq
                                              refine wo_take (v := (.b c206)) rfl (s_call mn (callM_le hM.call e206)) ?_
                                              refine wo_step (v := (.b c206)) (s_pure (p_pickT rfl rfl)) ?_
                                              refine wo_nil ?_
                                              cases hr
                                              exact ⟨_, _, rfl, rfl, gl rfl⟩
                                            · refine wo_skip (v := (.b false)) rfl rfl ?_
                                              refine wo_step (v := (.b false)) (s_pure (p_pickF rfl rfl)) ?_
                                              refine wo_nil ?_
                                              cases hr
                                              exact ⟨_, _, rfl, rfl, gl rfl⟩
                                          · clear hr
                                            have hr := hk
                                            clear hk
                                            obtain ⟨c207, m_17⟩ := o_22
                                            rintro mm_20 t_23 ⟨rfl, g207⟩
                                            refine wo_step (v := (.b c207)) (s_pure (p_mv g207)) ?_
                                            refine wo_nil ?_
                                            refine nx_norm ?_
                                            refine w_ret ?_
                                            refine nx_ret ?_
                                            exact qf ret_ok (rt rfl rn) hr
                          · refine w_condF rfl ?_
                            refine w_skip ?_
                            refine nx_norm ?_
                            refine w_seq ?_
                            refine w_seq ?_
                            refine w_ops ?_
                            refine wo_step (v := (.i .i64 x23)) (s_pure (p_mv g23)) ?_
                            have hq := forceB_inv hr
                            clear hr
                            obtain ⟨c209, e209, hr⟩ := hq
                            refine wo_step (v := (.b c209)) (s_pure (p_bin rfl rfl (b_eql.trans (cb e209)))) ?_
                            refine wo_step (v := (.b c209)) (s_pure (p_mv rfl)) ?_
                            have hq := bindO_inv hr
                            clear hr
                            obtain ⟨o_23, hr, hk⟩ := hq
                            refine wo_join 3 (g13_J23 x3 x4 x23 x24 x132 x133 m_15 o_23) ?_ ?_
                            · clear hk
                              have hq := cond_inv hr
                              clear hr
                              rcases hq with ⟨rfl, hr⟩ | ⟨rfl, hr⟩
                              · refine wo_take (v := (.i .i64 x24)) rfl (s_pure (p_mv g24)) ?_
                                have hq := forceB_inv hr
                                clear hr
                                obtain ⟨c212, e212, hr⟩ := hq
                                refine wo_take (v := (.b c212)) rfl (s_pure (p_bin rfl rfl (b_eql.trans (cb e212)))) ?_
                                refine wo_step (v := (.b c212)) (s_pure (p_pickT rfl rfl)) ?_
                                refine wo_nil ?_
                                cases hr
                                exact ⟨_, _, rfl, rfl, gl rfl, gl g3, gl g4, gl g23, gl g24, gl g26, gl g27⟩
                              · refine wo_skip (v := (.b false)) rfl rfl ?_
                                refine wo_skip (v := (.b false)) rfl rfl ?_
                                refine wo_step (v := (.b false)) (s_pure (p_pickF rfl rfl)) ?_
                                refine wo_nil ?_
                                cases hr
                                exact ⟨_, _, rfl, rfl, gl rfl, gl g3, gl g4, gl g23, gl g24, gl g26, gl g27⟩
                            · clear hr
                              have hr := hk
                              clear hk
                              obtain ⟨c213, ho⟩ : ∃ z, z = o_23 := ⟨_, rfl⟩
                              subst ho
                              rintro mm_21 t_24 ⟨rfl, g213, g3, g4, g23, g24, g26, g27⟩
                              refine wo_nil ?_
                              refine nx_norm ?_
                              have hq := cond_inv hr
                              clear hr
                              rcases hq with ⟨rfl, hr⟩ | ⟨rfl, hr⟩
                              · refine w_condT g213 ?_
                                refine w_seq ?_
                                refine w_ops ?_
                                refine wo_step (v := (.i .i64 x132)) (s_pure (p_mv g26)) ?_
                                refine wo_step (v := (.i .i64 x133)) (s_pure (p_mv g27)) ?_
                                have hq := forceI_inv hr
                                clear hr
                                obtain ⟨x216, e216, hr⟩ := hq
                                refine wo_step (v := (.i .i64 x216)) (s_pure (p_bin rfl rfl (b_add.trans (ci e216)))) ?_
                                have hq := forceB_inv hr
                                clear hr
                                obtain ⟨c217, e217, hr⟩ := hq
                                refine wo_step (v := (.b c217)) (s_pure (p_bin rfl rfl (b_eql.trans (cb e217)))) ?_
                                refine wo_step (v := (.b c217)) (s_pure (p_mv rfl)) ?_
                                have hq := bindO_inv hr
                                clear hr
                                obtain ⟨o_24, hr, hk⟩ := hq
                                refine wo_join 2 (g13_J24  o_24) ?_ ?_
                                · clear hk
                                  have hq := cond_inv hr
                                  clear hr
                                  rcases hq with ⟨rfl, hr⟩ | ⟨rfl, hr⟩
                                  · have hq := bindP_inv hr
                                    clear hr
                                    obtain ⟨v219, m_20, e219, hr⟩ := hq
                                    have hq := asB_inv hr
                                    clear hr
                                    obtain ⟨c219, rfl, hr⟩ := hq
                                    refine wo_take (v := (.b c219)) rfl (s_call mn (callM_le hM.call e219)) ?_
                                    refine wo_step (v := (.b c219)) (s_pure (p_pickT rfl rfl)) ?_
                                    refine wo_nil ?_
                                    cases hr
                                    exact ⟨_, _, rfl, rfl, gl rfl⟩
                                  · refine wo_skip (v := (.b false)) rfl rfl ?_
                                    refine wo_step (v := (.b false)) (s_pure (p_pickF rfl rfl)) ?_
                                    refine wo_nil ?_
                                    cases hr
                                    exact ⟨_, _, rfl, rfl, gl rfl⟩
                                · clear hr
                                  have hr := hk
                                  clear hk
                                  obtain ⟨c220, m_19⟩ := o_24
                                  rintro mm_22 t_25 ⟨rfl, g220⟩
                                  refine wo_step (v := (.b c220)) (s_pure (p_mv g220)) ?_
                                  refine wo_nil ?_
                                  refine nx_norm ?_
                                  refine w_ret ?_
                                  refine nx_ret ?_
                                  exact qf ret_ok (rt rfl rn) hr
                              · refine w_condF g213 ?_
                                refine w_skip ?_
                                refine nx_norm ?_
                                refine w_seq ?_
                                refine w_ops ?_
                                refine wo_step (v := (.i .u64 x3)) (s_pure (p_mv g3)) ?_
                                refine wo_step (v := (.i .i64 x23)) (s_pure (p_mv g23)) ?_
                                refine wo_step (v := (.i .i64 x24)) (s_pure (p_mv g24)) ?_
                                have hq := forceI_inv hr
                                clear hr
                                obtain ⟨x224, e224, hr⟩ := hq
                                refine wo_step (v := (.i .i64 x224)) (s_pure ((p_mx rfl rfl).trans (ci e224))) ?_
                                have hq := forceI_inv hr
                                clear hr
                                obtain ⟨x225, e225, hr⟩ := hq
                                refine wo_step (v := (.i .u64 x225)) (s_pure ((p_conv rfl).trans (ci e225))) ?_
                                have hq := chk_inv hr
                                clear hr
                                obtain ⟨hc226, hr⟩ := hq
                                have hq := forceI_inv hr
                                clear hr
                                obtain ⟨x226, e226, hr⟩ := hq
                                refine wo_step (v := (.i .u64 x226)) (s_pure (p_bin rfl rfl ((b_rem hc226).trans (ci e226)))) ?_
                                have hq := forceI_inv hr
                                clear hr
                                obtain ⟨x227, e227, hr⟩ := hq
                                refine wo_step (v := (.i .i64 x227)) (s_pure ((p_conv rfl).trans (ci e227))) ?_
                                have hq := forceI_inv hr
                                clear hr
                                obtain ⟨x228, e228, hr⟩ := hq
                                refine wo_step (v := (.i .i64 x228)) (s_pure (p_bin rfl rfl (b_add.trans (ci e228)))) ?_
                                refine wo_step (v := (.i .i64 x228)) (s_pure (p_mv rfl)) ?_
                                refine wo_nil ?_
                                refine nx_norm ?_
                                refine w_seq ?_
                                refine w_seq ?_
                                refine w_ops ?_
                                refine wo_step (v := (.i .u8 x4)) (s_pure (p_mv g4)) ?_
                                have hq := forceI_inv hr
                                clear hr
                                obtain ⟨x230, e230, hr⟩ := hq
                                refine wo_step (v := (.i .u8 x230)) (s_pure (p_bin rfl rfl ((b_quo rfl).trans (ci e230)))) ?_
                                have hq := forceI_inv hr
                                clear hr
                                obtain ⟨x231, e231, hr⟩ := hq
                                refine wo_step (v := (.i .u8 x231)) (s_pure (p_bin rfl rfl ((b_rem rfl).trans (ci e231)))) ?_
                                refine wo_nil ?_
                                refine nx_norm ?_
                                refine w_block ?_
                                refine w_seq ?_
                                refine w_ops ?_
                                have hq := forceB_inv hr
                                clear hr
                                obtain ⟨c238, e238, hr⟩ := hq
                                refine wo_step (v := (.b c238)) (s_pure (p_bin rfl rfl (b_eql.trans (cb e238)))) ?_
                                refine wo_step (v := (.b c238)) (s_pure (p_mv rfl)) ?_
                                refine wo_nil ?_
                                refine nx_norm ?_
                                have hq := bindO_inv hr
                                clear hr
                                obtain ⟨o_25, hr, hk⟩ := hq
                                refine jp_mono (J := g13_J25 x23 x24 m_15 o_25) ?_ ?_
                                · clear hk
                                  have hq := cond_inv hr
                                  clear hr
                                  rcases hq with ⟨rfl, hr⟩ | ⟨rfl, hr⟩
                                  · refine w_condT rfl ?_
                                    refine w_ops ?_
                                    refine wo_step (v := (.i .i64 x228)) (s_pure (p_mv rfl)) ?_
                                    refine wo_step (v := (.i .i64 x23)) (s_pure (p_mv g23)) ?_
                                    have hq := forceI_inv hr
                                    clear hr
                                    obtain ⟨x241, e241, hr⟩ := hq
                                    refine wo_step (v := (.i .i64 x241)) (s_pure ((p_mx rfl rfl).trans (ci e241))) ?_
                                    refine wo_step (v := (.i .i64 x241)) (s_pure (p_mv rfl)) ?_
                                    refine wo_step (v := (.i .i64 0)) (s_pure (p_mv rfl)) ?_
                                    refine wo_nil ?_
                                    cases hr
                                    exact ⟨_, _, rfl, rfl, rfl, gl rfl, gl rfl, gl g23, gl g24⟩
                                  · refine w_condF rfl ?_
                                    refine w_seq ?_
                                    refine w_ops ?_
                                    have hq := forceB_inv hr
                                    clear hr
                                    obtain ⟨c243, e243, hr⟩ := hq
                                    refine wo_step (v := (.b c243)) (s_pure (p_bin rfl rfl (b_eql.trans (cb e243)))) ?_
                                    refine wo_step (v := (.b c243)) (s_pure (p_mv rfl)) ?_
                                    refine wo_nil ?_
                                    refine nx_norm ?_
                                    have hq := bindO_inv hr
                                    clear hr
                                    obtain ⟨o_26, hr, hk⟩ := hq
                                    refine jp_mono (J := g13_J26 x23 x24 m_15 o_26) ?_ ?_
                                    · clear hk
                                      have hq := cond_inv hr
                                      clear hr
                                      rcases hq with ⟨rfl, hr⟩ | ⟨rfl, hr⟩
                                      · refine w_condT rfl ?_
                                        refine w_ops ?_
                                        refine wo_step (v := (.i .i64 x228)) (s_pure (p_mv rfl)) ?_
                                        refine wo_step (v := (.i .i64 x24)) (s_pure (p_mv g24)) ?_
                                        have hq := forceI_inv hr
                                        clear hr
                                        obtain ⟨x246, e246, hr⟩ := hq
                                        refine wo_step (v := (.i .i64 x246)) (s_pure ((p_mx rfl rfl).trans (ci e246))) ?_
                                        refine wo_step (v := (.i .i64 0)) (s_pure (p_mv rfl)) ?_
                                        refine wo_step (v := (.i .i64 x246)) (s_pure (p_mv rfl)) ?_
                                        refine wo_nil ?_
                                        cases hr
                                        exact ⟨_, _, rfl, rfl, rfl, gl rfl, gl rfl, gl g23, gl g24⟩
                                      · refine w_condF rfl ?_
                                        refine w_seq ?_
                                        refine w_ops ?_
                                        refine wo_step (v := (.i .i64 x228)) (s_pure (p_mv rfl)) ?_
                                        refine wo_step (v := (.i .i64 x23)) (s_pure (p_mv g23)) ?_
                                        refine wo_step (v := (.i .i64 x24)) (s_pure (p_mv g24)) ?_
                                        have hq := forceI_inv hr
                                        clear hr
                                        obtain ⟨x235, e235, hr⟩ := hq
                                        refine wo_step (v := (.i .i64 x235)) (s_pure ((p_mx3 rfl rfl rfl).trans (ci e235))) ?_
                                        refine wo_step (v := (.i .i64 x235)) (s_pure (p_mv rfl)) ?_
                                        refine wo_nil ?_
                                        refine nx_norm ?_
                                        refine w_ops ?_
                                        refine wo_step (v := (.i .i64 x235)) (s_pure (p_mv rfl)) ?_
                                        refine wo_step (v := (.i .i64 x235)) (s_pure (p_mv rfl)) ?_
                                        refine wo_nil ?_
                                        cases hr
                                        exact ⟨_, _, rfl, rfl, rfl, gl rfl, gl rfl, gl g23, gl g24⟩
                                    · clear hr
                                      have hr := hk
                                      clear hk
                                      obtain ⟨x26, x27⟩ := o_26
                                      rintro _ mm_23 t_26 ⟨rfl, rfl, g26, g27, g23, g24⟩
                                      cases hr
                                      exact ⟨_, _, rfl, rfl, rfl, gl g26, gl g27, gl g23, gl g24⟩
                                · clear hr
                                  have hr := hk
                                  clear hk
                                  obtain ⟨x26_1, x27_1⟩ := o_25
                                  rintro _ mm_26 t_27 ⟨rfl, rfl, g26, g27, g23, g24⟩
                                  refine bk_norm ?_
                                  refine nx_norm ?_
                                  refine w_seq ?_
                                  refine w_seq ?_
                                  refine w_ops ?_
                                  refine wo_step (v := (.i .i64 x26_1)) (s_pure (p_mv g26)) ?_
                                  refine wo_step (v := (.i .i64 x27_1)) (s_pure (p_mv g27)) ?_
                                  have hq := forceI_inv hr
                                  clear hr
                                  obtain ⟨x249, e249, hr⟩ := hq
                                  refine wo_step (v := (.i .i64 x249)) (s_pure (p_bin rfl rfl (b_add.trans (ci e249)))) ?_
                                  have hq := forceB_inv hr
                                  clear hr
                                  obtain ⟨c250, e250, hr⟩ := hq
                                  refine wo_step (v := (.b c250)) (s_pure (p_bin rfl rfl (b_eql.trans (cb e250)))) ?_
                                  refine wo_nil ?_
                                  refine nx_norm ?_
                                  have hq := cond_inv hr
                                  clear hr
                                  rcases hq with ⟨rfl, hr⟩ | ⟨rfl, hr⟩
                                  · refine w_condT rfl ?_
                                    refine w_seq ?_
                                    refine w_ops ?_
                                    have hq := bindP_inv hr
                                    clear hr
                                    obtain ⟨v251, m_21, e251, hr⟩ := hq
                                    have hq := asB_inv hr
                                    clear hr
                                    obtain ⟨c251, rfl, hr⟩ := hq
                                    refine wo_step (v := (.b c251)) (s_call mn (callM_le hM.call e251)) ?_
                                    refine wo_step (v := (.b c251)) (s_pure (p_mv rfl)) ?_
                                    refine wo_nil ?_
                                    refine nx_norm ?_
                                    refine w_ret ?_
                                    refine nx_ret ?_
                                    exact qf ret_ok (rt rfl rn) hr
                                  · refine w_condF rfl ?_
                                    refine w_skip ?_
                                    refine nx_norm ?_
                                    refine w_seq ?_
                                    refine w_ops ?_
                                    refine wo_step (v := (.i .i64 x23)) (s_pure (p_mv g23)) ?_
                                    refine wo_step (v := (.i .i64 x26_1)) (s_pure (p_mv g26)) ?_
                                    have hq := forceI_inv hr
                                    clear hr
                                    obtain ⟨x255, e255, hr⟩ := hq
                                    refine wo_step (v := (.i .i64 x255)) (s_pure (p_bin rfl rfl (b_sub.trans (ci e255)))) ?_
                                    refine wo_step (v := (.i .i64 x24)) (s_pure (p_mv g24)) ?_
                                    refine wo_step (v := (.i .i64 x27_1)) (s_pure (p_mv g27)) ?_
                                    have hq := forceI_inv hr
                                    clear hr
                                    obtain ⟨x258, e258, hr⟩ := hq
                                    refine wo_step (v := (.i .i64 x258)) (s_pure (p_bin rfl rfl (b_sub.trans (ci e258)))) ?_
                                    have hq := bindP_inv hr
                                    clear hr
                                    obtain ⟨v259, m_22, e259, hr⟩ := hq
                                    refine wo_step (v := v259) (s_call (mc rfl (mc rfl mn)) (callM_le hM.call e259)) ?_
                                    refine wo_step (v := v259) (s_pure (p_mv rfl)) ?_
                                    have hq := bindO_inv hr
                                    clear hr
                                    obtain ⟨v260, e260, hr⟩ := hq
                                    have hq := asB_inv hr
                                    clear hr
                                    obtain ⟨c260, rfl, hr⟩ := hq
                                    refine wo_step (v := (.b c260)) (s_pure (o_ext rfl e260)) ?_
                                    have hq := bindO_inv hr
                                    clear hr
                                    obtain ⟨v261, e261, hr⟩ := hq
                                    have hq := asI_inv hr
                                    clear hr
                                    obtain ⟨x261, rfl, hr⟩ := hq
                                    refine wo_step (v := (.i .i64 x261)) (s_pure (o_ext rfl e261)) ?_
                                    refine wo_step (v := (.b c260)) (s_pure (p_mv rfl)) ?_
                                    refine wo_step (v := (.i .i64 x261)) (s_pure (p_mv rfl)) ?_
                                    refine wo_nil ?_
                                    refine nx_norm ?_
                                    refine w_seq ?_
                                    refine w_ops ?_
                                    refine wo_step (v := (.i .i64 x261)) (s_pure (p_mv rfl)) ?_
                                    have hq := forceB_inv hr
                                    clear hr
                                    obtain ⟨c263, e263, hr⟩ := hq
                                    refine wo_step (v := (.b c263)) (s_pure (p_bin rfl rfl (b_eql.trans (cb e263)))) ?_
                                    refine wo_step (v := (.b c263)) (s_pure (p_mv rfl)) ?_
                                    have hq := bindO_inv hr
                                    clear hr
                                    obtain ⟨o_27, hr, hk⟩ := hq
                                    refine wo_join 3 (g13_J27 m_22 o_27) ?_ ?_
                                    · clear hk
                                      have hq := cond_inv hr
                                      clear hr
                                      rcases hq with ⟨rfl, hr⟩ | ⟨rfl, hr⟩
                                      · refine wo_take (v := (.b c260)) rfl (s_pure (p_mv rfl)) ?_
                                        have hq := forceB_inv hr
                                        clear hr
                                        obtain ⟨c266, e266, hr⟩ := hq
                                        refine wo_take (v := (.b c266)) rfl (s_pure ((p_not rfl).trans (cb e266))) ?_
                                        refine wo_step (v := (.b c266)) (s_pure (p_pickT rfl rfl)) ?_
                                        refine wo_nil ?_
                                        cases hr
                                        exact ⟨_, _, rfl, rfl, gl rfl⟩
                                      · refine wo_skip (v := (.b false)) rfl rfl ?_
                                        refine wo_skip (v := (.b false)) rfl rfl ?_
                                        refine wo_step (v := (.b false)) (s_pure (p_pickF rfl rfl)) ?_
                                        refine wo_nil ?_
                                        cases hr
                                        exact ⟨_, _, rfl, rfl, gl rfl⟩
                                    · clear hr
                                      have hr := hk
                                      clear hk
                                      obtain ⟨c267, ho⟩ : ∃ z, z = o_27 := ⟨_, rfl⟩
                                      subst ho
                                      rintro mm_24 t_28 ⟨rfl, g267⟩
                                      refine wo_step (v := (.b c267)) (s_pure (p_mv g267)) ?_
                                      have hq := bindO_inv hr
                                      clear hr
                                      obtain ⟨o_28, hr, hk⟩ := hq
                                      refine wo_join 2 (g13_J28  o_28) ?_ ?_
                                      · clear hk
                                        have hq := cond_inv hr
                                        clear hr
                                        rcases hq with ⟨rfl, hr⟩ | ⟨rfl, hr⟩
                                        · have hq := bindP_inv hr
                                          clear hr
                                          obtain ⟨v269, m_24, e269, hr⟩ := hq
                                          have hq := asB_inv hr
                                          clear hr
                                          obtain ⟨c269, rfl, hr⟩ := hq
                                          refine wo_take (v := (.b c269)) rfl (s_call mn (callM_le hM.call e269)) ?_
                                          refine wo_step (v := (.b c269)) (s_pure (p_pickT rfl rfl)) ?_
                                          refine wo_nil ?_
                                          cases hr
                                          exact ⟨_, _, rfl, rfl, gl rfl⟩
                                        · refine wo_skip (v := (.b false)) rfl rfl ?_
                                          refine wo_step (v := (.b false)) (s_pure (p_pickF rfl rfl)) ?_
                                          refine wo_nil ?_
                                          cases hr
                                          exact ⟨_, _, rfl, rfl, gl rfl⟩
                                      · clear hr
                                        have hr := hk
                                        clear hk
                                        obtain ⟨c270, m_23⟩ := o_28
                                        rintro mm_25 t_29 ⟨rfl, g270⟩
                                        refine wo_step (v := (.b c270)) (s_pure (p_mv g270)) ?_
                                        refine wo_nil ?_
                                        refine nx_norm ?_
                                        refine w_ret ?_
                                        exact qf ret_ok (rt rfl rn) hr
                · obtain ⟨c10, m_25⟩ := o_5
                  rintro _ mm_29 t_30 ⟨rfl, rfl, g10⟩
                  refine nx_ret ?_
                  exact qf ret_ok (rt g10 rn) hr

/- dibber/seed.Write -/

def g19 (M : Means) (ro : List ABlk) (x0 : Int) (m0 : Mm) : Option (AVal × Heap × Nat × Nat) :=
  bindP (stepM ro m0 (.bsl 3 1 [(AVal.i IntKind.i64 0)] 1 [((0, 1), .c (.i .i64 x0))])) fun v5 m_1 =>
  bindP (callM M.call m_1 51 [v5]) fun v6 m_2 =>
  asB v6 fun c6 =>
  forceB (!c6) fun c7 =>
  cond c7 (
    finM m0.h.length (tupA [(.s []), (.i .i64 4)]) m_2) (
    bindP (callM M.call m_2 52 [(.i .i64 x0)]) fun v9 m_3 =>
    asS v9 fun s9 =>
    finM m0.h.length (tupA [(.s s9), (.i .i64 0)]) m_3)

theorem g19_ok {ro : List ABlk} {O : Caller} {M : Means} (hM : M.Ok ⟨F, O⟩ ro) {x0 h r} (ho : O 19 [(.i .i64 x0)] h = none) (hr : g19 M ro x0 ⟨h, h.length, h.length⟩ = some r) : callX ⟨F, O⟩ ro 19 [(.i .i64 x0)] h = some r := by
  refine callX_of (F := ⟨F, O⟩) (fn := fn19) (g := g19 M ro x0) ho rfl rfl hr ?_
  clear ho
  clear hr
  intro m0 t0 ht hr
  have g0 : t0.get 0 = (.i .i64 x0) := ht 0
  clear ht
  unfold g19 at hr
  refine w_seq ?_
  refine w_ops ?_
  refine wo_step (v := (AVal.s [])) (s_pure (p_mv rfl)) ?_
  refine wo_step (v := (.i .i64 0)) (s_pure (p_mv rfl)) ?_
  refine wo_nil ?_
  refine nx_norm ?_
  refine w_seq ?_
  refine w_seq ?_
  refine w_ops ?_
  refine wo_step (v := (.i .i64 x0)) (s_pure (p_mv g0)) ?_
  have hq := bindP_inv hr
  clear hr
  obtain ⟨v5, m_1, e5, hr⟩ := hq
  refine wo_step (v := v5) (s_bsl (qc rfl qn) e5) ?_
  have hq := bindP_inv hr
  clear hr
  obtain ⟨v6, m_2, e6, hr⟩ := hq
  have hq := asB_inv hr
  clear hr
  obtain ⟨c6, rfl, hr⟩ := hq
  refine wo_step (v := (.b c6)) (s_call (mc rfl mn) (callM_le hM.call e6)) ?_
  have hq := forceB_inv hr
  clear hr
  obtain ⟨c7, e7, hr⟩ := hq
  refine wo_step (v := (.b c7)) (s_pure ((p_not rfl).trans (cb e7))) ?_
  refine wo_nil ?_
  refine nx_norm ?_
  have hq := cond_inv hr
  clear hr
  rcases hq with ⟨rfl, hr⟩ | ⟨rfl, hr⟩
  · refine w_condT rfl ?_
    refine w_seq ?_
    refine w_ops ?_
    refine wo_step (v := (AVal.s [])) (s_pure (p_mv rfl)) ?_
    refine wo_step (v := (.i .i64 4)) (s_pure (p_mv rfl)) ?_
    refine wo_nil ?_
    refine nx_norm ?_
    refine w_ret ?_
    refine nx_ret ?_
    exact qf ret_ok (rt rfl (rt rfl rn)) hr
  · refine w_condF rfl ?_
    refine w_skip ?_
    refine nx_norm ?_
    refine w_seq ?_
    refine w_ops ?_
    refine wo_step (v := (.i .i64 x0)) (s_pure (p_mv g0)) ?_
    have hq := bindP_inv hr
    clear hr
    obtain ⟨v9, m_3, e9, hr⟩ := hq
    have hq := asS_inv hr
    clear hr
    obtain ⟨s9, rfl, hr⟩ := hq
    refine wo_step (v := (.s s9)) (s_call (mc rfl mn) (callM_le hM.call e9)) ?_
    refine wo_step (v := (.s s9)) (s_pure (p_mv rfl)) ?_
    refine wo_step (v := (.i .i64 0)) (s_pure (p_mv rfl)) ?_
    refine wo_nil ?_
    refine nx_norm ?_
    refine w_ret ?_
    exact qf ret_ok (rt rfl (rt rfl rn)) hr

/- dibber/seed.Pair -/
abbrev g33_J0 (x0 : Int) (m0 : Mm) (o : Bool) (m1 : Mm) (t1 : Tr) : Prop :=
  match o with
  | c11 => m0 = m1 ∧ t1.get 11 = (.b c11) ∧ t1.get 0 = (.i .i64 x0)
def g33 (M : Means) (ro : List ABlk) (x0 : Int) (m0 : Mm) : Option (AVal × Heap × Nat × Nat) :=
  forceB (ltI x0 0) fun c7 =>
  bindO (cond c7 (
    some true) (
    forceB (ltI 288230376151711744 x0) fun c10 =>
    some c10)) fun c11 =>
  cond c11 (
    finM m0.h.length (tupA [(.i .i64 0), (.i .i64 0), (.i .i64 4)]) m0) (
    bindP (callM M.call m0 66 [(.i .i64 x0)]) fun v13 m_1 =>
    asI .i64 v13 fun x13 =>
    forceI (wr .i64 (x13 + x0)) fun x17 =>
    finM m0.h.length (tupA [(.i .i64 x13), (.i .i64 x17), (.i .i64 0)]) m_1)

theorem g33_ok {ro : List ABlk} {O : Caller} {M : Means} (hM : M.Ok ⟨F, O⟩ ro) {x0 h r} (ho : O 33 [(.i .i64 x0)] h = none) (hr : g33 M ro x0 ⟨h, h.length, h.length⟩ = some r) : callX ⟨F, O⟩ ro 33 [(.i .i64 x0)] h = some r := by
  refine callX_of (F := ⟨F, O⟩) (fn := fn33) (g := g33 M ro x0) ho rfl rfl hr ?_
  clear ho
  clear hr
  intro m0 t0 ht hr
  have g0 : t0.get 0 = (.i .i64 x0) := ht 0
  clear ht
  unfold g33 at hr
  refine w_seq ?_
  refine w_ops ?_
  refine wo_step (v := (.i .i64 0)) (s_pure (p_mv rfl)) ?_
  refine wo_step (v := (.i .i64 0)) (s_pure (p_mv rfl)) ?_
  refine wo_step (v := (.i .i64 0)) (s_pure (p_mv rfl)) ?_
  refine wo_nil ?_
  refine nx_norm ?_
  refine w_seq ?_
  refine w_seq ?_
  refine w_ops ?_
  refine wo_step (v := (.i .i64 x0)) (s_pure (p_mv g0)) ?_
  have hq := forceB_inv hr
  clear hr
  obtain ⟨c7, e7, hr⟩ := hq
  refine wo_step (v := (.b c7)) (s_pure (p_bin rfl rfl (b_lss.trans (cb e7)))) ?_
  refine wo_step (v := (.b c7)) (s_pure (p_mv rfl)) ?_
  have hq := bindO_inv hr
  clear hr
  obtain ⟨o, hr, hk⟩ := hq
  refine wo_join 3 (g33_J0 x0 m0 o) ?_ ?_
  · clear hk
    have hq := cond_inv hr
    clear hr
    rcases hq with ⟨rfl, hr⟩ | ⟨rfl, hr⟩
    · refine wo_skip (v := (.b true)) rfl rfl ?_
      refine wo_skip (v := (.b true)) rfl rfl ?_
      refine wo_step (v := (.b true)) (s_pure (p_pickT rfl rfl)) ?_
      refine wo_nil ?_
      cases hr
      exact ⟨_, _, rfl, rfl, gl rfl, gl g0⟩
    · refine wo_take (v := (.i .i64 x0)) rfl (s_pure (p_mv g0)) ?_
      have hq := forceB_inv hr
      clear hr
      obtain ⟨c10, e10, hr⟩ := hq
      refine wo_take (v := (.b c10)) rfl (s_pure (p_bin rfl rfl (b_gtr.trans (cb e10)))) ?_
      refine wo_step (v := (.b c10)) (s_pure (p_pickF rfl rfl)) ?_
      refine wo_nil ?_
      cases hr
      exact ⟨_, _, rfl, rfl, gl rfl, gl g0⟩
  · clear hr
    have hr := hk
    clear hk
    obtain ⟨c11, ho⟩ : ∃ z, z = o := ⟨_, rfl⟩
    subst ho
    rintro mm t_1 ⟨rfl, g11, g0⟩
    refine wo_nil ?_
    refine nx_norm ?_
    have hq := cond_inv hr
    clear hr
    rcases hq with ⟨rfl, hr⟩ | ⟨rfl, hr⟩
    · refine w_condT g11 ?_
      refine w_seq ?_
      refine w_ops ?_
      refine wo_step (v := (.i .i64 0)) (s_pure (p_mv rfl)) ?_
      refine wo_step (v := (.i .i64 0)) (s_pure (p_mv rfl)) ?_
      refine wo_step (v := (.i .i64 4)) (s_pure (p_mv rfl)) ?_
      refine wo_nil ?_
      refine nx_norm ?_
      refine w_ret ?_
      refine nx_ret ?_
      exact qf ret_ok (rt rfl (rt rfl (rt rfl rn))) hr
    · refine w_condF g11 ?_
      refine w_skip ?_
      refine nx_norm ?_
      refine w_seq ?_
      refine w_ops ?_
      refine wo_step (v := (.i .i64 x0)) (s_pure (p_mv g0)) ?_
      have hq := bindP_inv hr
      clear hr
      obtain ⟨v13, m_1, e13, hr⟩ := hq
      have hq := asI_inv hr
      clear hr
      obtain ⟨x13, rfl, hr⟩ := hq
      refine wo_step (v := (.i .i64 x13)) (s_call (mc rfl mn) (callM_le hM.call e13)) ?_
      refine wo_step (v := (.i .i64 x13)) (s_pure (p_mv rfl)) ?_
      refine wo_nil ?_
      refine nx_norm ?_
      refine w_seq ?_
      refine w_ops ?_
      refine wo_step (v := (.i .i64 x13)) (s_pure (p_mv rfl)) ?_
      refine wo_step (v := (.i .i64 x13)) (s_pure (p_mv rfl)) ?_
      refine wo_step (v := (.i .i64 x0)) (s_pure (p_mv g0)) ?_
      have hq := forceI_inv hr
      clear hr
      obtain ⟨x17, e17, hr⟩ := hq
      refine wo_step (v := (.i .i64 x17)) (s_pure (p_bin rfl rfl (b_add.trans (ci e17)))) ?_
      refine wo_step (v := (.i .i64 x13)) (s_pure (p_mv rfl)) ?_
      refine wo_step (v := (.i .i64 x17)) (s_pure (p_mv rfl)) ?_
      refine wo_step (v := (.i .i64 0)) (s_pure (p_mv rfl)) ?_
      refine wo_nil ?_
      refine nx_norm ?_
      refine w_ret ?_
      exact qf ret_ok (rt rfl (rt rfl (rt rfl rn))) hr

/- dibber/seed.Lost -/

def g35 (M : Means) (ro : List ABlk) (x0 : Int) (x1 : Int) (m0 : Mm) : Option (AVal × Heap × Nat × Nat) :=
  bindP (stepM ro m0 (.bsl 3 1 [(AVal.i IntKind.i64 0)] 2 [((0, 1), .c (.i .i64 x0)), ((1, 1), .c (.i .i64 x1))])) fun v8 m_1 =>
  bindP (callM M.call m_1 51 [v8]) fun v9 m_2 =>
  asB v9 fun c9 =>
  forceB (!c9) fun c10 =>
  cond c10 (
    finM m0.h.length (tupA [(.b false), (.i .i64 4)]) m_2) (
    bindP (callM M.call m_2 68 [(.i .i64 x0)]) fun v12 m_3 =>
    asI .i64 v12 fun x12 =>
    forceB (eqI x12 x1) fun c14 =>
    finM m0.h.length (tupA [(.b c14), (.i .i64 0)]) m_3)

theorem g35_ok {ro : List ABlk} {O : Caller} {M : Means} (hM : M.Ok ⟨F, O⟩ ro) {x0 x1 h r} (ho : O 35 [(.i .i64 x0), (.i .i64 x1)] h = none) (hr : g35 M ro x0 x1 ⟨h, h.length, h.length⟩ = some r) : callX ⟨F, O⟩ ro 35 [(.i .i64 x0), (.i .i64 x1)] h = some r := by
  refine callX_of (F := ⟨F, O⟩) (fn := fn35) (g := g35 M ro x0 x1) ho rfl rfl hr ?_
  clear ho
  clear hr
  intro m0 t0 ht hr
  have g0 : t0.get 0 = (.i .i64 x0) := ht 0
  have g1 : t0.get 1 = (.i .i64 x1) := ht 1
  clear ht
  unfold g35 at hr
  refine w_seq ?_
  refine w_ops ?_
  refine wo_step (v := (.b false)) (s_pure (p_mv rfl)) ?_
  refine wo_step (v := (.i .i64 0)) (s_pure (p_mv rfl)) ?_
  refine wo_nil ?_
  refine nx_norm ?_
  refine w_seq ?_
  refine w_seq ?_
  refine w_ops ?_
  refine wo_step (v := (.i .i64 x0)) (s_pure (p_mv g0)) ?_
  refine wo_step (v := (.i .i64 x1)) (s_pure (p_mv g1)) ?_
  have hq := bindP_inv hr
  clear hr
  obtain ⟨v8, m_1, e8, hr⟩ := hq
  refine wo_step (v := v8) (s_bsl (qc rfl (qc rfl qn)) e8) ?_
  have hq := bindP_inv hr
  clear hr
  obtain ⟨v9, m_2, e9, hr⟩ := hq
  have hq := asB_inv hr
  clear hr
  obtain ⟨c9, rfl, hr⟩ := hq
  refine wo_step (v := (.b c9)) (s_call (mc rfl mn) (callM_le hM.call e9)) ?_
  have hq := forceB_inv hr
  clear hr
  obtain ⟨c10, e10, hr⟩ := hq
  refine wo_step (v := (.b c10)) (s_pure ((p_not rfl).trans (cb e10))) ?_
  refine wo_nil ?_
  refine nx_norm ?_
  have hq := cond_inv hr
  clear hr
  rcases hq with ⟨rfl, hr⟩ | ⟨rfl, hr⟩
  · refine w_condT rfl ?_
    refine w_seq ?_
    refine w_ops ?_
    refine wo_step (v := (.b false)) (s_pure (p_mv rfl)) ?_
    refine wo_step (v := (.i .i64 4)) (s_pure (p_mv rfl)) ?_
    refine wo_nil ?_
    refine nx_norm ?_
    refine w_ret ?_
    refine nx_ret ?_
    exact qf ret_ok (rt rfl (rt rfl rn)) hr
  · refine w_condF rfl ?_
    refine w_skip ?_
    refine nx_norm ?_
    refine w_seq ?_
    refine w_ops ?_
    refine wo_step (v := (.i .i64 x0)) (s_pure (p_mv g0)) ?_
    have hq := bindP_inv hr
    clear hr
    obtain ⟨v12, m_3, e12, hr⟩ := hq
    have hq := asI_inv hr
    clear hr
    obtain ⟨x12, rfl, hr⟩ := hq
    refine wo_step (v := (.i .i64 x12)) (s_call (mc rfl mn) (callM_le hM.call e12)) ?_
    refine wo_step (v := (.i .i64 x1)) (s_pure (p_mv g1)) ?_
    have hq := forceB_inv hr
    clear hr
    obtain ⟨c14, e14, hr⟩ := hq
    refine wo_step (v := (.b c14)) (s_pure (p_bin rfl rfl (b_eql.trans (cb e14)))) ?_
    refine wo_step (v := (.b c14)) (s_pure (p_mv rfl)) ?_
    refine wo_step (v := (.i .i64 0)) (s_pure (p_mv rfl)) ?_
    refine wo_nil ?_
    refine nx_norm ?_
    refine w_ret ?_
    exact qf ret_ok (rt rfl (rt rfl rn)) hr

/- dibber/seed.Move -/
abbrev g37_J0 (x29 : Int) (x41 : Int) (m_7 : Mm) (o : Bool) (m1 : Mm) (t1 : Tr) : Prop :=
  match o with
  | c52 => m_7 = m1 ∧ t1.get 52 = (.b c52) ∧ t1.get 7 = (.i .i64 x29) ∧ t1.get 8 = (.i .i64 x41)
abbrev g37_J1 (x29 : Int) (x41 : Int) (m_7 : Mm) (o : Bool) (m1 : Mm) (t1 : Tr) : Prop :=
  match o with
  | c52_1 => m_7 = m1 ∧ t1.get 52 = (.b c52_1) ∧ t1.get 7 = (.i .i64 x29) ∧ t1.get 8 = (.i .i64 x41)
def g37 (M : Means) (ro : List ABlk) (x0 : Int) (x1 : Int) (m0 : Mm) : Option (AVal × Heap × Nat × Nat) :=
  bindP (stepM ro m0 (.bsl 3 1 [(AVal.i IntKind.i64 0)] 2 [((0, 1), .c (.i .i64 x0)), ((1, 1), .c (.i .i64 x1))])) fun v11 m_1 =>
  bindP (callM M.call m_1 51 [v11]) fun v12 m_2 =>
  asB v12 fun c12 =>
  forceB (!c12) fun c13 =>
  cond c13 (
    finM m0.h.length (tupA [(.i .i64 0), (.i .i64 0), (.i .i64 4)]) m_2) (
    bindP (callM M.call m_2 68 [(.i .i64 x0)]) fun v15 m_3 =>
    asI .i64 v15 fun x15 =>
    forceB (eqI x15 x1) fun c17 =>
    cond c17 (
      finM m0.h.length (tupA [(.i .i64 0), (.i .i64 0), (.i .i64 10)]) m_3) (
      bindP (callM M.call m_3 68 [(.i .i64 x0)]) fun v19 m_4 =>
      asI .i64 v19 fun x19 =>
      forceB (ltI x19 x1) fun c21 =>
      cond c21 (
        bindP (callM M.call m_4 68 [(.i .i64 x0)]) fun v24 m_5 =>
        asI .i64 v24 fun x24 =>
        forceI (wr .i64 (x1 - x24)) fun x25 =>
        finM m0.h.length (tupA [(.i .i64 0), (.i .i64 x25), (.i .i64 0)]) m_5) (
        bindP (callM M.call m_4 68 [(.i .i64 x1)]) fun v28 m_6 =>
        asI .i64 v28 fun x28 =>
        forceI (wr .i64 (x0 - x28)) fun x29 =>
        forceI (mxV false x0 x1) fun x32 =>
        forceI (mxV true x0 x1) fun x35 =>
        forceI (mxV false x0 x1) fun x38 =>
        forceI (wr .i64 (x35 - x38)) fun x39 =>
        bindP (callM M.call m_6 66 [(.i .i64 x39)]) fun v40 m_7 =>
        asI .i64 v40 fun x40 =>
        forceI (wr .i64 (x32 - x40)) fun x41 =>
        forceB (ltI 0 x41) fun c43 =>
        bindO (cond c43 (
          forceB (ltI x29 0) fun c46 =>
          bindO (cond c46 (
            some true) (
            forceB (ltI x41 x29) fun c50 =>
            some c50)) fun c52_1 =>
          some c52_1) (
          some false)) fun c52 =>
        cond c52 (
          finM m0.h.length (tupA [(.i .i64 x41), (.i .i64 x41), (.i .i64 0)]) m_7) (
          finM m0.h.length (tupA [(.i .i64 x29), (.i .i64 0), (.i .i64 0)]) m_7))))

theorem g37_ok {ro : List ABlk} {O : Caller} {M : Means} (hM : M.Ok ⟨F, O⟩ ro) {x0 x1 h r} (ho : O 37 [(.i .i64 x0), (.i .i64 x1)] h = none) (hr : g37 M ro x0 x1 ⟨h, h.length, h.length⟩ = some r) : callX ⟨F, O⟩ ro 37 [(.i .i64 x0), (.i .i64 x1)] h = some r := by
  refine callX_of (F := ⟨F, O⟩) (fn := fn37) (g := g37 M ro x0 x1) ho rfl rfl hr ?_
  clear ho
  clear hr
  intro m0 t0 ht hr
  have g0 : t0.get 0 = (.i .i64 x0) := ht 0
  have g1 : t0.get 1 = (.i .i64 x1) := ht 1
  clear ht
  unfold g37 at hr
  refine w_seq ?_
  refine w_ops ?_
  refine wo_step (v := (.i .i64 0)) (s_pure (p_mv rfl)) ?_
  refine wo_step (v := (.i .i64 0)) (s_pure (p_mv rfl)) ?_
  refine wo_step (v := (.i .i64 0)) (s_pure (p_mv rfl)) ?_
  refine wo_nil ?_
  refine nx_norm ?_
  refine w_seq ?_
  refine w_seq ?_
  refine w_ops ?_
  refine wo_step (v := (.i .i64 x0)) (s_pure (p_mv g0)) ?_
  refine wo_step (v := (.i .i64 x1)) (s_pure (p_mv g1)) ?_
  have hq := bindP_inv hr
  clear hr
  obtain ⟨v11, m_1, e11, hr⟩ := hq
  refine wo_step (v := v11) (s_bsl (qc rfl (qc rfl qn)) e11) ?_
  have hq := bindP_inv hr
  clear hr
  obtain ⟨v12, m_2, e12, hr⟩ := hq
  have hq := asB_inv hr
  clear hr
  obtain ⟨c12, rfl, hr⟩ := hq
  refine wo_step (v := (.b c12)) (s_call (mc rfl mn) (callM_le hM.call e12)) ?_
  have hq := forceB_inv hr
  clear hr
  obtain ⟨c13, e13, hr⟩ := hq
  refine wo_step (v := (.b c13)) (s_pure ((p_not rfl).trans (cb e13))) ?_
  refine wo_nil ?_
  refine nx_norm ?_
  have hq := cond_inv hr
  clear hr
  rcases hq with ⟨rfl, hr⟩ | ⟨rfl, hr⟩
  · refine w_condT rfl ?_
    refine w_seq ?_
    refine w_ops ?_
    refine wo_step (v := (.i .i64 0)) (s_pure (p_mv rfl)) ?_
    refine wo_step (v := (.i .i64 0)) (s_pure (p_mv rfl)) ?_
    refine wo_step (v := (.i .i64 4)) (s_pure (p_mv rfl)) ?_
    refine wo_nil ?_
    refine nx_norm ?_
    refine w_ret ?_
    refine nx_ret ?_
    exact qf ret_ok (rt rfl (rt rfl (rt rfl rn))) hr
  · refine w_condF rfl ?_
    refine w_skip ?_
    refine nx_norm ?_
    refine w_seq ?_
    refine w_seq ?_
    refine w_ops ?_
    refine wo_step (v := (.i .i64 x0)) (s_pure (p_mv g0)) ?_
    have hq := bindP_inv hr
    clear hr
    obtain ⟨v15, m_3, e15, hr⟩ := hq
    have hq := asI_inv hr
    clear hr
    obtain ⟨x15, rfl, hr⟩ := hq
    refine wo_step (v := (.i .i64 x15)) (s_call (mc rfl mn) (callM_le hM.call e15)) ?_
    refine wo_step (v := (.i .i64 x1)) (s_pure (p_mv g1)) ?_
    have hq := forceB_inv hr
    clear hr
    obtain ⟨c17, e17, hr⟩ := hq
    refine wo_step (v := (.b c17)) (s_pure (p_bin rfl rfl (b_eql.trans (cb e17)))) ?_
    refine wo_nil ?_
    refine nx_norm ?_
    have hq := cond_inv hr
    clear hr
    rcases hq with ⟨rfl, hr⟩ | ⟨rfl, hr⟩
    · refine w_condT rfl ?_
      refine w_seq ?_
      refine w_ops ?_
      refine wo_step (v := (.i .i64 0)) (s_pure (p_mv rfl)) ?_
      refine wo_step (v := (.i .i64 0)) (s_pure (p_mv rfl)) ?_
      refine wo_step (v := (.i .i64 10)) (s_pure (p_mv rfl)) ?_
      refine wo_nil ?_
      refine nx_norm ?_
      refine w_ret ?_
      refine nx_ret ?_
      exact qf ret_ok (rt rfl (rt rfl (rt rfl rn))) hr
    · refine w_condF rfl ?_
      refine w_skip ?_
      refine nx_norm ?_
      refine w_seq ?_
      refine w_seq ?_
      refine w_ops ?_
      refine wo_step (v := (.i .i64 x0)) (s_pure (p_mv g0)) ?_
      have hq := bindP_inv hr
      clear hr
      obtain ⟨v19, m_4, e19, hr⟩ := hq
      have hq := asI_inv hr
      clear hr
      obtain ⟨x19, rfl, hr⟩ := hq
      refine wo_step (v := (.i .i64 x19)) (s_call (mc rfl mn) (callM_le hM.call e19)) ?_
      refine wo_step (v := (.i .i64 x1)) (s_pure (p_mv g1)) ?_
      have hq := forceB_inv hr
      clear hr
      obtain ⟨c21, e21, hr⟩ := hq
      refine wo_step (v := (.b c21)) (s_pure (p_bin rfl rfl (b_lss.trans (cb e21)))) ?_
      refine wo_nil ?_
      refine nx_norm ?_
      have hq := cond_inv hr
      clear hr
      rcases hq with ⟨rfl, hr⟩ | ⟨rfl, hr⟩
      · refine w_condT rfl ?_
        refine w_seq ?_
        refine w_ops ?_
        refine wo_step (v := (.i .i64 x1)) (s_pure (p_mv g1)) ?_
        refine wo_step (v := (.i .i64 x0)) (s_pure (p_mv g0)) ?_
        have hq := bindP_inv hr
        clear hr
        obtain ⟨v24, m_5, e24, hr⟩ := hq
        have hq := asI_inv hr
        clear hr
        obtain ⟨x24, rfl, hr⟩ := hq
        refine wo_step (v := (.i .i64 x24)) (s_call (mc rfl mn) (callM_le hM.call e24)) ?_
        have hq := forceI_inv hr
        clear hr
        obtain ⟨x25, e25, hr⟩ := hq
        refine wo_step (v := (.i .i64 x25)) (s_pure (p_bin rfl rfl (b_sub.trans (ci e25)))) ?_
        refine wo_step (v := (.i .i64 0)) (s_pure (p_mv rfl)) ?_
        refine wo_step (v := (.i .i64 x25)) (s_pure (p_mv rfl)) ?_
        refine wo_step (v := (.i .i64 0)) (s_pure (p_mv rfl)) ?_
        refine wo_nil ?_
        refine nx_norm ?_
        refine w_ret ?_
        refine nx_ret ?_
        exact qf ret_ok (rt rfl (rt rfl (rt rfl rn))) hr
      · refine w_condF rfl ?_
        refine w_skip ?_
        refine nx_norm ?_
        refine w_seq ?_
        refine w_ops ?_
        refine wo_step (v := (.i .i64 x0)) (s_pure (p_mv g0)) ?_
        refine wo_step (v := (.i .i64 x1)) (s_pure (p_mv g1)) ?_
        have hq := bindP_inv hr
        clear hr
        obtain ⟨v28, m_6, e28, hr⟩ := hq
        have hq := asI_inv hr
        clear hr
        obtain ⟨x28, rfl, hr⟩ := hq
        refine wo_step (v := (.i .i64 x28)) (s_call (mc rfl mn) (callM_le hM.call e28)) ?_
        have hq := forceI_inv hr
        clear hr
        obtain ⟨x29, e29, hr⟩ := hq
        refine wo_step (v := (.i .i64 x29)) (s_pure (p_bin rfl rfl (b_sub.trans (ci e29)))) ?_
        refine wo_step (v := (.i .i64 x29)) (s_pure (p_mv rfl)) ?_
        refine wo_nil ?_
        refine nx_norm ?_
        refine w_seq ?_
        refine w_ops ?_
        refine wo_step (v := (.i .i64 x0)) (s_pure (p_mv g0)) ?_
        refine wo_step (v := (.i .i64 x1)) (s_pure (p_mv g1)) ?_
        have hq := forceI_inv hr
        clear hr
        obtain ⟨x32, e32, hr⟩ := hq
        refine wo_step (v := (.i .i64 x32)) (s_pure ((p_mx rfl rfl).trans (ci e32))) ?_
        refine wo_step (v := (.i .i64 x0)) (s_pure (p_mv g0)) ?_
        refine wo_step (v := (.i .i64 x1)) (s_pure (p_mv g1)) ?_
        have hq := forceI_inv hr
        clear hr
        obtain ⟨x35, e35, hr⟩ := hq
        refine wo_step (v := (.i .i64 x35)) (s_pure ((p_mx rfl rfl).trans (ci e35))) ?_
        refine wo_step (v := (.i .i64 x0)) (s_pure (p_mv g0)) ?_
        refine wo_step (v := (.i .i64 x1)) (s_pure (p_mv g1)) ?_
        have hq := forceI_inv hr
        clear hr
        obtain ⟨x38, e38, hr⟩ := hq
        refine wo_step (v := (.i .i64 x38)) (s_pure ((p_mx rfl rfl).trans (ci e38))) ?_
        have hq := forceI_inv hr
        clear hr
        obtain ⟨x39, e39, hr⟩ := hq
        refine wo_step (v := (.i .i64 x39)) (s_pure (p_bin rfl rfl (b_sub.trans (ci e39)))) ?_
        have hq := bindP_inv hr
        clear hr
        obtain ⟨v40, m_7, e40, hr⟩ := hq
        have hq := asI_inv hr
        clear hr
        obtain ⟨x40, rfl, hr⟩ := hq
        refine wo_step (v := (.i .i64 x40)) (s_call (mc rfl mn) (callM_le hM.call e40)) ?_
        have hq := forceI_inv hr
        clear hr
        obtain ⟨x41, e41, hr⟩ := hq
        refine wo_step (v := (.i .i64 x41)) (s_pure (p_bin rfl rfl (b_sub.trans (ci e41)))) ?_
        refine wo_step (v := (.i .i64 x41)) (s_pure (p_mv rfl)) ?_
        refine wo_nil ?_
        refine nx_norm ?_
        refine w_seq ?_
        refine w_seq ?_
        refine w_ops ?_
        refine wo_step (v := (.i .i64 x41)) (s_pure (p_mv rfl)) ?_
        have hq := forceB_inv hr
        clear hr
        obtain ⟨c43, e43, hr⟩ := hq
        refine wo_step (v := (.b c43)) (s_pure (p_bin rfl rfl (b_gtr.trans (cb e43)))) ?_
        refine wo_step (v := (.b c43)) (s_pure (p_mv rfl)) ?_
        have hq := bindO_inv hr
        clear hr
        obtain ⟨o, hr, hk⟩ := hq
        refine wo_join 8 (g37_J0 x29 x41 m_7 o) ?_ ?_
        · clear hk
          have hq := cond_inv hr
          clear hr
          rcases hq with ⟨rfl, hr⟩ | ⟨rfl, hr⟩
          · refine wo_take (v := (.i .i64 x29)) rfl (s_pure (p_mv rfl)) ?_
            have hq := forceB_inv hr
            clear hr
            obtain ⟨c46, e46, hr⟩ := hq
            refine wo_take (v := (.b c46)) rfl (s_pure (p_bin rfl rfl (b_lss.trans (cb e46)))) ?_
            refine wo_take (v := (.b c46)) rfl (s_pure (p_mv rfl)) ?_
            have hq := bindO_inv hr
            clear hr
            obtain ⟨o_1, hr, hk⟩ := hq
            refine wo_join 5 (g37_J1 x29 x41 m_7 o_1) ?_ ?_
            · clear hk
              have hq := cond_inv hr
              clear hr
              rcases hq with ⟨rfl, hr⟩ | ⟨rfl, hr⟩
              · refine wo_skip (v := (.b true)) rfl rfl ?_
                refine wo_skip (v := (.b true)) rfl rfl ?_
                refine wo_skip (v := (.b true)) rfl rfl ?_
                refine wo_take (v := (.b true)) rfl (s_pure (p_pickT rfl rfl)) ?_
                refine wo_step (v := (.b true)) (s_pure (p_pickT rfl rfl)) ?_
                refine wo_nil ?_
                cases hr
                exact ⟨_, _, rfl, rfl, gl rfl, gl rfl, gl rfl⟩
              · refine wo_take (v := (.i .i64 x41)) rfl (s_pure (p_mv rfl)) ?_
                refine wo_take (v := (.i .i64 x29)) rfl (s_pure (p_mv rfl)) ?_
                have hq := forceB_inv hr
                clear hr
                obtain ⟨c50, e50, hr⟩ := hq
                refine wo_take (v := (.b c50)) rfl (s_pure (p_bin rfl rfl (b_lss.trans (cb e50)))) ?_
                refine wo_take (v := (.b c50)) rfl (s_pure (p_pickF rfl rfl)) ?_
                refine wo_step (v := (.b c50)) (s_pure (p_pickT rfl rfl)) ?_
                refine wo_nil ?_
                cases hr
                exact ⟨_, _, rfl, rfl, gl rfl, gl rfl, gl rfl⟩
            · clear hr
              have hr := hk
              clear hk
              obtain ⟨c52_1, ho⟩ : ∃ z, z = o_1 := ⟨_, rfl⟩
              subst ho
              rintro mm t_1 ⟨rfl, g52, g7, g8⟩
              refine wo_nil ?_
              cases hr
              exact ⟨_, _, rfl, rfl, gl g52, gl g7, gl g8⟩
          · refine wo_skip (v := (.b false)) rfl rfl ?_
            refine wo_skip (v := (.b false)) rfl rfl ?_
            refine wo_skip (v := (.b false)) rfl rfl ?_
            refine wo_skip (v := und) rfl rfl ?_
            refine wo_skip (v := und) rfl rfl ?_
            refine wo_skip (v := und) rfl rfl ?_
            refine wo_skip (v := (.b false)) rfl rfl ?_
            refine wo_step (v := (.b false)) (s_pure (p_pickF rfl rfl)) ?_
            refine wo_nil ?_
            cases hr
            exact ⟨_, _, rfl, rfl, gl rfl, gl rfl, gl rfl⟩
        · clear hr
          have hr := hk
          clear hk
          obtain ⟨c52, ho⟩ : ∃ z, z = o := ⟨_, rfl⟩
          subst ho
          rintro mm_1 t_2 ⟨rfl, g52, g7, g8⟩
          refine wo_nil ?_
          refine nx_norm ?_
          have hq := cond_inv hr
          clear hr
          rcases hq with ⟨rfl, hr⟩ | ⟨rfl, hr⟩
          · refine w_condT g52 ?_
            refine w_seq ?_
            refine w_ops ?_
            refine wo_step (v := (.i .i64 x41)) (s_pure (p_mv g8)) ?_
            refine wo_step (v := (.i .i64 x41)) (s_pure (p_mv g8)) ?_
            refine wo_step (v := (.i .i64 x41)) (s_pure (p_mv rfl)) ?_
            refine wo_step (v := (.i .i64 x41)) (s_pure (p_mv rfl)) ?_
            refine wo_step (v := (.i .i64 0)) (s_pure (p_mv rfl)) ?_
            refine wo_nil ?_
            refine nx_norm ?_
            refine w_ret ?_
            refine nx_ret ?_
            exact qf ret_ok (rt rfl (rt rfl (rt rfl rn))) hr
          · refine w_condF g52 ?_
            refine w_skip ?_
            refine nx_norm ?_
            refine w_seq ?_
            refine w_ops ?_
            refine wo_step (v := (.i .i64 x29)) (s_pure (p_mv g7)) ?_
            refine wo_step (v := (.i .i64 x29)) (s_pure (p_mv rfl)) ?_
            refine wo_step (v := (.i .i64 0)) (s_pure (p_mv rfl)) ?_
            refine wo_step (v := (.i .i64 0)) (s_pure (p_mv rfl)) ?_
            refine wo_nil ?_
            refine nx_norm ?_
            refine w_ret ?_
            exact qf ret_ok (rt rfl (rt rfl (rt rfl rn))) hr

/- dibber/dibberlaw09.number -/

def g45 (M : Means) (ro : List ABlk) (x0 : Int) (m0 : Mm) : Option (AVal × Heap × Nat × Nat) :=
  forceI (Int.tmod x0 1152921504606846977) fun x4 =>
  forceI (wr .i64 x4) fun x5 =>
  finM m0.h.length (tupA [(.i .i64 x5)]) m0

theorem g45_ok {ro : List ABlk} {O : Caller} {M : Means} (hM : M.Ok ⟨F, O⟩ ro) {x0 h r} (ho : O 45 [(.i .u64 x0)] h = none) (hr : g45 M ro x0 ⟨h, h.length, h.length⟩ = some r) : callX ⟨F, O⟩ ro 45 [(.i .u64 x0)] h = some r := by
  refine callX_of (F := ⟨F, O⟩) (fn := fn45) (g := g45 M ro x0) ho rfl rfl hr ?_
  clear ho
  clear hr
  intro m0 t0 ht hr
  have g0 : t0.get 0 = (.i .u64 x0) := ht 0
  clear ht
  unfold g45 at hr
  refine w_seq ?_
  refine w_ops ?_
  refine wo_step (v := (.i .i64 0)) (s_pure (p_mv rfl)) ?_
  refine wo_nil ?_
  refine nx_norm ?_
  refine w_seq ?_
  refine w_ops ?_
  refine wo_step (v := (.i .u64 x0)) (s_pure (p_mv g0)) ?_
  have hq := forceI_inv hr
  clear hr
  obtain ⟨x4, e4, hr⟩ := hq
  refine wo_step (v := (.i .u64 x4)) (s_pure (p_bin rfl rfl ((b_rem rfl).trans (ci e4)))) ?_
  have hq := forceI_inv hr
  clear hr
  obtain ⟨x5, e5, hr⟩ := hq
  refine wo_step (v := (.i .i64 x5)) (s_pure ((p_conv rfl).trans (ci e5))) ?_
  refine wo_step (v := (.i .i64 x5)) (s_pure (p_mv rfl)) ?_
  refine wo_nil ?_
  refine nx_norm ?_
  refine w_ret ?_
  exact qf ret_ok (rt rfl rn) hr

/- dibber/dibberlaw09.small -/

def g47 (M : Means) (ro : List ABlk) (x0 : Int) (m0 : Mm) : Option (AVal × Heap × Nat × Nat) :=
  forceI (Int.tmod x0 33554432) fun x4 =>
  forceI (wr .i64 x4) fun x5 =>
  finM m0.h.length (tupA [(.i .i64 x5)]) m0

theorem g47_ok {ro : List ABlk} {O : Caller} {M : Means} (hM : M.Ok ⟨F, O⟩ ro) {x0 h r} (ho : O 47 [(.i .u64 x0)] h = none) (hr : g47 M ro x0 ⟨h, h.length, h.length⟩ = some r) : callX ⟨F, O⟩ ro 47 [(.i .u64 x0)] h = some r := by
  refine callX_of (F := ⟨F, O⟩) (fn := fn47) (g := g47 M ro x0) ho rfl rfl hr ?_
  clear ho
  clear hr
  intro m0 t0 ht hr
  have g0 : t0.get 0 = (.i .u64 x0) := ht 0
  clear ht
  unfold g47 at hr
  refine w_seq ?_
  refine w_ops ?_
  refine wo_step (v := (.i .i64 0)) (s_pure (p_mv rfl)) ?_
  refine wo_nil ?_
  refine nx_norm ?_
  refine w_seq ?_
  refine w_ops ?_
  refine wo_step (v := (.i .u64 x0)) (s_pure (p_mv g0)) ?_
  have hq := forceI_inv hr
  clear hr
  obtain ⟨x4, e4, hr⟩ := hq
  refine wo_step (v := (.i .u64 x4)) (s_pure (p_bin rfl rfl ((b_rem rfl).trans (ci e4)))) ?_
  have hq := forceI_inv hr
  clear hr
  obtain ⟨x5, e5, hr⟩ := hq
  refine wo_step (v := (.i .i64 x5)) (s_pure ((p_conv rfl).trans (ci e5))) ?_
  refine wo_step (v := (.i .i64 x5)) (s_pure (p_mv rfl)) ?_
  refine wo_nil ?_
  refine nx_norm ?_
  refine w_ret ?_
  exact qf ret_ok (rt rfl rn) hr

/- dibber/dibberlaw09.zeros -/
abbrev g48_I0 (s0 : List UInt8) (m0 : Mm) (s : Int) (m1 : Mm) (t1 : Tr) : Prop :=
  match s with
  | x3 => m0 = m1 ∧ t1.get 3 = (.i .i64 x3) ∧ t1.get 0 = (.s s0)
abbrev g48_J0 (s0 : List UInt8) (m0 : Mm) (o : Int) (e : AExit) (m1 : Mm) (t1 : Tr) : Prop :=
  match o with
  | y3 => e = (.exit 0) ∧ m0 = m1 ∧ t1.get 3 = (.i .i64 y3)
abbrev g48_J1 (s0 : List UInt8) (x3 : Int) (m0 : Mm) (o : Bool) (m1 : Mm) (t1 : Tr) : Prop :=
  match o with
  | c17 => m0 = m1 ∧ t1.get 17 = (.b c17) ∧ t1.get 0 = (.s s0) ∧ t1.get 3 = (.i .i64 x3)
def g48_b0 (M : Means) (ro : List ABlk) (s0 : List UInt8) (m0 : Mm) (x3 : Int) : Option ((Int) ⊕ (Int)) :=
  bindO (evP .e (.len true (.c (.s s0)))) fun v6 =>
  asI .i64 v6 fun x6 =>
  forceB (ltI x3 x6) fun c7 =>
  bindO (cond c7 (
    bindO (evP .e (.len true (.c (.s s0)))) fun v11 =>
    asI .i64 v11 fun x11 =>
    forceI (wr .i64 (x11 - 1)) fun x12 =>
    forceI (wr .i64 (x12 - x3)) fun x14 =>
    bindO (evP .e (.ixStr (.c (.s s0)) (.c (.i .i64 x14)))) fun v15 =>
    asI .u8 v15 fun x15 =>
    forceB (eqI x15 48) fun c16 =>
    some c16) (
    some false)) fun c17 =>
  cond c17 (
    forceI (wr .i64 (x3 + 1)) fun x19 =>
    some (.inl x19)) (
    some (.inr x3))
def g48 (M : Means) (ro : List ABlk) (s0 : List UInt8) (m0 : Mm) : Option (AVal × Heap × Nat × Nat) :=
  bindO (M.loop (S := Int) (R := Int) (fun s => g48_b0 M ro s0 m0 s) 0) fun x3_1 =>
  finM m0.h.length (tupA [(.i .i64 x3_1)]) m0

theorem g48_ok {ro : List ABlk} {O : Caller} {M : Means} (hM : M.Ok ⟨F, O⟩ ro) {s0 h r} (ho : O 48 [(.s s0)] h = none) (hr : g48 M ro s0 ⟨h, h.length, h.length⟩ = some r) : callX ⟨F, O⟩ ro 48 [(.s s0)] h = some r := by
  refine callX_of (F := ⟨F, O⟩) (fn := fn48) (g := g48 M ro s0) ho rfl rfl hr ?_
  clear ho
  clear hr
  intro m0 t0 ht hr
  have g0 : t0.get 0 = (.s s0) := ht 0
  clear ht
  unfold g48 at hr
  refine w_seq ?_
  refine w_ops ?_
  refine wo_step (v := (.i .i64 0)) (s_pure (p_mv rfl)) ?_
  refine wo_nil ?_
  refine nx_norm ?_
  refine w_seq ?_
  refine w_ops ?_
  refine wo_step (v := (.i .i64 0)) (s_pure (p_mv rfl)) ?_
  refine wo_nil ?_
  refine nx_norm ?_
  refine w_seq ?_
  refine w_block ?_
  have hq := bindO_inv hr
  clear hr
  obtain ⟨o_1, hl, hr⟩ := hq
  obtain ⟨n, hl⟩ := hM.loop _ _ _ hl
  refine jp_mono (w_loop _ (g48_I0 s0 m0) (g48_J0 s0 m0) ?_ n _ _ _ _ hl ⟨rfl, gl rfl, gl g0⟩) ?_
  · clear hr hl
    intro s mm_2 t_1 o hi hr
    obtain ⟨x3, hs⟩ : ∃ z, z = s := ⟨_, rfl⟩
    subst hs
    obtain ⟨rfl, g3, g0⟩ := hi
    unfold g48_b0 at hr
    refine w_seq ?_
    refine w_seq ?_
    refine w_ops ?_
    refine wo_step (v := (.i .i64 x3)) (s_pure (p_mv g3)) ?_
    refine wo_step (v := (.s s0)) (s_pure (p_mv g0)) ?_
    have hq := bindO_inv hr
    clear hr
    obtain ⟨v6, e6, hr⟩ := hq
    have hq := asI_inv hr
    clear hr
    obtain ⟨x6, rfl, hr⟩ := hq
    refine wo_step (v := (.i .i64 x6)) (s_pure (o_len rfl e6)) ?_
    have hq := forceB_inv hr
    clear hr
    obtain ⟨c7, e7, hr⟩ := hq
    refine wo_step (v := (.b c7)) (s_pure (p_bin rfl rfl (b_lss.trans (cb e7)))) ?_
    refine wo_step (v := (.b c7)) (s_pure (p_mv rfl)) ?_
    have hq := bindO_inv hr
    clear hr
    obtain ⟨o, hr, hk⟩ := hq
    refine wo_join 9 (g48_J1 s0 x3 m0 o) ?_ ?_
    · clear hk
      have hq := cond_inv hr
      clear hr
      rcases hq with ⟨rfl, hr⟩ | ⟨rfl, hr⟩
      · refine wo_take (v := (.s s0)) rfl (s_pure (p_mv g0)) ?_
        refine wo_take (v := (.s s0)) rfl (s_pure (p_mv g0)) ?_
        have hq := bindO_inv hr
        clear hr
        obtain ⟨v11, e11, hr⟩ := hq
        have hq := asI_inv hr
        clear hr
        obtain ⟨x11, rfl, hr⟩ := hq
        refine wo_take (v := (.i .i64 x11)) rfl (s_pure (o_len rfl e11)) ?_
        have hq := forceI_inv hr
        clear hr
        obtain ⟨x12, e12, hr⟩ := hq
        refine wo_take (v := (.i .i64 x12)) rfl (s_pure (p_bin rfl rfl (b_sub.trans (ci e12)))) ?_
        refine wo_take (v := (.i .i64 x3)) rfl (s_pure (p_mv g3)) ?_
        have hq := forceI_inv hr
        clear hr
        obtain ⟨x14, e14, hr⟩ := hq
        refine wo_take (v := (.i .i64 x14)) rfl (s_pure (p_bin rfl rfl (b_sub.trans (ci e14)))) ?_
        have hq := bindO_inv hr
        clear hr
        obtain ⟨v15, e15, hr⟩ := hq
        have hq := asI_inv hr
        clear hr
        obtain ⟨x15, rfl, hr⟩ := hq
        refine wo_take (v := (.i .u8 x15)) rfl (s_pure (o_ixStr rfl rfl e15)) ?_
        have hq := forceB_inv hr
        clear hr
        obtain ⟨c16, e16, hr⟩ := hq
        refine wo_take (v := (.b c16)) rfl (s_pure (p_bin rfl rfl (b_eql.trans (cb e16)))) ?_
        refine wo_step (v := (.b c16)) (s_pure (p_pickT rfl rfl)) ?_
        refine wo_nil ?_
        cases hr
        exact ⟨_, _, rfl, rfl, gl rfl, gl g0, gl g3⟩
      · refine wo_skip (v := (.b false)) rfl rfl ?_
        refine wo_skip (v := (.b false)) rfl rfl ?_
        refine wo_skip (v := (.b false)) rfl rfl ?_
        refine wo_skip (v := (.b false)) rfl rfl ?_
        refine wo_skip (v := (.b false)) rfl rfl ?_
        refine wo_skip (v := (.b false)) rfl rfl ?_
        refine wo_skip (v := (.b false)) rfl rfl ?_
        refine wo_skip (v := (.b false)) rfl rfl ?_
        refine wo_step (v := (.b false)) (s_pure (p_pickF rfl rfl)) ?_
        refine wo_nil ?_
        cases hr
        exact ⟨_, _, rfl, rfl, gl rfl, gl g0, gl g3⟩
    · clear hr
      have hr := hk
      clear hk
      obtain ⟨c17, ho⟩ : ∃ z, z = o := ⟨_, rfl⟩
      subst ho
      rintro mm t_2 ⟨rfl, g17, g0, g3⟩
      refine wo_nil ?_
      refine nx_norm ?_
      have hq := cond_inv hr
      clear hr
      rcases hq with ⟨rfl, hr⟩ | ⟨rfl, hr⟩
      · refine w_condT g17 ?_
        refine w_skip ?_
        refine nx_norm ?_
        refine w_block ?_
        refine w_ops ?_
        refine wo_step (v := (.i .i64 x3)) (s_pure (p_mv g3)) ?_
        have hq := forceI_inv hr
        clear hr
        obtain ⟨x19, e19, hr⟩ := hq
        refine wo_step (v := (.i .i64 x19)) (s_pure (p_bin rfl rfl (b_add.trans (ci e19)))) ?_
        refine wo_step (v := (.i .i64 x19)) (s_pure (p_mv rfl)) ?_
        refine wo_nil ?_
        refine bk_norm ?_
        cases hr
        exact ⟨_, _, rfl, rfl, rfl, gl rfl, gl g0⟩
      · refine w_condF g17 ?_
        refine w_exit ?_
        refine nx_exit ?_
        cases hr
        exact ⟨_, _, rfl, ne_norm_exit, rfl, rfl, gl g3⟩
  · obtain ⟨x3_1, ho⟩ : ∃ z, z = o_1 := ⟨_, rfl⟩
    subst ho
    rintro _ mm_1 t_3 ⟨rfl, rfl, g3⟩
    refine bk_hit ?_
    refine nx_norm ?_
    refine w_seq ?_
    refine w_ops ?_
    refine wo_step (v := (.i .i64 x3_1)) (s_pure (p_mv g3)) ?_
    refine wo_step (v := (.i .i64 x3_1)) (s_pure (p_mv rfl)) ?_
    refine wo_nil ?_
    refine nx_norm ?_
    refine w_ret ?_
    exact qf ret_ok (rt rfl rn) hr

/- dibber/seed.areNumbers -/
abbrev g51_I0 (v0 : AVal) (x6 : Int) (m0 : Mm) (s : Int) (m1 : Mm) (t1 : Tr) : Prop :=
  match s with
  | x7 => m0 = m1 ∧ t1.get 7 = (.i .i64 x7) ∧ t1.get 5 = v0 ∧ t1.get 6 = (.i .i64 x6)
abbrev g51_J0 (v0 : AVal) (x6 : Int) (m0 : Mm) (o : (Unit ⊕ Bool)) (e : AExit) (m1 : Mm) (t1 : Tr) : Prop :=
  match o with
  | (.inl _) => e = (.exit 0) ∧ m0 = m1
  | (.inr y2) => e = .ret ∧ m0 = m1 ∧ t1.get 2 = (.b y2)
abbrev g51_J1 (v0 : AVal) (x6 : Int) (x7 : Int) (m0 : Mm) (o : Bool) (m1 : Mm) (t1 : Tr) : Prop :=
  match o with
  | c16 => m0 = m1 ∧ t1.get 16 = (.b c16) ∧ t1.get 5 = v0 ∧ t1.get 6 = (.i .i64 x6) ∧ t1.get 7 = (.i .i64 x7)
def g51_b0 (M : Means) (ro : List ABlk) (v0 : AVal) (x6 : Int) (m0 : Mm) (x7 : Int) : Option ((Int) ⊕ ((Unit ⊕ Bool))) :=
  forceB (ltI x7 x6) fun c8 =>
  cond c8 (
    bindO (evP .e (.ixS 1 (.c v0) (.c (.i .i64 x7)))) fun v9 =>
    bindO (ldM ro m0 true 1 v9) fun v10 =>
    asI .i64 v10 fun x10 =>
    forceB (ltI x10 0) fun c12 =>
    bindO (cond c12 (
      some true) (
      forceB (ltI 1152921504606846976 x10) fun c15 =>
      some c15)) fun c16 =>
    cond c16 (
      some (.inr (.inr false))) (
      forceI (wr .i64 (x7 + 1)) fun x17 =>
      some (.inl x17))) (
    some (.inr (.inl ())))
def g51 (M : Means) (ro : List ABlk) (v0 : AVal) (m0 : Mm) : Option (AVal × Heap × Nat × Nat) :=
  bindO (evP .e (.len false (.c v0))) fun v6 =>
  asI .i64 v6 fun x6 =>
  bindO (M.loop (S := Int) (R := (Unit ⊕ Bool)) (fun s => g51_b0 M ro v0 x6 m0 s) 0) fun o_1 => match o_1 with
  | (.inl _) =>
    finM m0.h.length (tupA [(.b true)]) m0
  | (.inr c2) =>
    finM m0.h.length (tupA [(.b c2)]) m0

theorem g51_ok {ro : List ABlk} {O : Caller} {M : Means} (hM : M.Ok ⟨F, O⟩ ro) {v0 h r} (ho : O 51 [v0] h = none) (hr : g51 M ro v0 ⟨h, h.length, h.length⟩ = some r) : callX ⟨F, O⟩ ro 51 [v0] h = some r := by
  refine callX_of (F := ⟨F, O⟩) (fn := fn51) (g := g51 M ro v0) ho rfl rfl hr ?_
  clear ho
  clear hr
  intro m0 t0 ht hr
  have g0 : t0.get 0 = v0 := ht 0
  clear ht
  unfold g51 at hr
  refine w_seq ?_
  refine w_ops ?_
  refine wo_step (v := (.b false)) (s_pure (p_mv rfl)) ?_
  refine wo_nil ?_
  refine nx_norm ?_
  refine w_seq ?_
  refine w_seq ?_
  refine w_ops ?_
  refine wo_step (v := v0) (s_pure (p_mv g0)) ?_
  have hq := bindO_inv hr
  clear hr
  obtain ⟨v6, e6, hr⟩ := hq
  have hq := asI_inv hr
  clear hr
  obtain ⟨x6, rfl, hr⟩ := hq
  refine wo_step (v := (.i .i64 x6)) (s_pure (o_len rfl e6)) ?_
  refine wo_step (v := (.i .i64 0)) (s_pure (p_mv rfl)) ?_
  refine wo_nil ?_
  refine nx_norm ?_
  refine w_block ?_
  have hq := bindO_inv hr
  clear hr
  obtain ⟨o_1, hl, hr⟩ := hq
  obtain ⟨n, hl⟩ := hM.loop _ _ _ hl
  refine jp_mono (w_loop _ (g51_I0 v0 x6 m0) (g51_J0 v0 x6 m0) ?_ n _ _ _ _ hl ⟨rfl, gl rfl, gl rfl, gl rfl⟩) ?_
  · clear hr hl
    intro s mm_3 t_1 o hi hr
    obtain ⟨x7, hs⟩ : ∃ z, z = s := ⟨_, rfl⟩
    subst hs
    obtain ⟨rfl, g7, g5, g6⟩ := hi
    unfold g51_b0 at hr
    refine w_seq ?_
    refine w_ops ?_
    have hq := forceB_inv hr
    clear hr
    obtain ⟨c8, e8, hr⟩ := hq
    refine wo_step (v := (.b c8)) (s_pure (p_bin g7 g6 (b_lss.trans (cb e8)))) ?_
    refine wo_nil ?_
    refine nx_norm ?_
    refine w_seq ?_
    have hq := cond_inv hr
    clear hr
    rcases hq with ⟨rfl, hr⟩ | ⟨rfl, hr⟩
    · refine w_condT rfl ?_
      refine w_skip ?_
      refine nx_norm ?_
      refine w_seq ?_
      refine w_block ?_
      refine w_seq ?_
      refine w_ops ?_
      have hq := bindO_inv hr
      clear hr
      obtain ⟨v9, e9, hr⟩ := hq
      refine wo_step (v := v9) (s_pure (o_ixS g5 g7 e9)) ?_
      have hq := bindO_inv hr
      clear hr
      obtain ⟨v10, e10, hr⟩ := hq
      have hq := asI_inv hr
      clear hr
      obtain ⟨x10, rfl, hr⟩ := hq
      refine wo_step (v := (.i .i64 x10)) (s_ld rfl e10) ?_
      refine wo_step (v := (.i .i64 x10)) (s_pure (p_mv rfl)) ?_
      refine wo_nil ?_
      refine nx_norm ?_
      refine w_seq ?_
      refine w_ops ?_
      refine wo_step (v := (.i .i64 x10)) (s_pure (p_mv rfl)) ?_
      have hq := forceB_inv hr
      clear hr
      obtain ⟨c12, e12, hr⟩ := hq
      refine wo_step (v := (.b c12)) (s_pure (p_bin rfl rfl (b_lss.trans (cb e12)))) ?_
      refine wo_step (v := (.b c12)) (s_pure (p_mv rfl)) ?_
      have hq := bindO_inv hr
      clear hr
      obtain ⟨o, hr, hk⟩ := hq
      refine wo_join 3 (g51_J1 v0 x6 x7 m0 o) ?_ ?_
      · clear hk
        have hq := cond_inv hr
        clear hr
        rcases hq with ⟨rfl, hr⟩ | ⟨rfl, hr⟩
        · refine wo_skip (v := (.b true)) rfl rfl ?_
          refine wo_skip (v := (.b true)) rfl rfl ?_
          refine wo_step (v := (.b true)) (s_pure (p_pickT rfl rfl)) ?_
          refine wo_nil ?_
          cases hr
          exact ⟨_, _, rfl, rfl, gl rfl, gl g5, gl g6, gl g7⟩
        · refine wo_take (v := (.i .i64 x10)) rfl (s_pure (p_mv rfl)) ?_
          have hq := forceB_inv hr
          clear hr
          obtain ⟨c15, e15, hr⟩ := hq
          refine wo_take (v := (.b c15)) rfl (s_pure (p_bin rfl rfl (b_gtr.trans (cb e15)))) ?_
          refine wo_step (v := (.b c15)) (s_pure (p_pickF rfl rfl)) ?_
          refine wo_nil ?_
          cases hr
          exact ⟨_, _, rfl, rfl, gl rfl, gl g5, gl g6, gl g7⟩
      · clear hr
        have hr := hk
        clear hk
        obtain ⟨c16, ho⟩ : ∃ z, z = o := ⟨_, rfl⟩
        subst ho
        rintro mm t_2 ⟨rfl, g16, g5, g6, g7⟩
        refine wo_nil ?_
        refine nx_norm ?_
        have hq := cond_inv hr
        clear hr
        rcases hq with ⟨rfl, hr⟩ | ⟨rfl, hr⟩
        · refine w_condT g16 ?_
          refine w_seq ?_
          refine w_ops ?_
          refine wo_step (v := (.b false)) (s_pure (p_mv rfl)) ?_
          refine wo_nil ?_
          refine nx_norm ?_
          refine w_ret ?_
          refine bk_ret ?_
          refine nx_ret ?_
          cases hr
          exact ⟨_, _, rfl, ne_norm_ret, rfl, rfl, gl rfl⟩
        · refine w_condF g16 ?_
          refine w_skip ?_
          refine bk_norm ?_
          refine nx_norm ?_
          refine w_ops ?_
          have hq := forceI_inv hr
          clear hr
          obtain ⟨x17, e17, hr⟩ := hq
          refine wo_step (v := (.i .i64 x17)) (s_pure (p_bin g7 rfl (b_add.trans (ci e17)))) ?_
          refine wo_step (v := (.i .i64 x17)) (s_pure (p_mv rfl)) ?_
          refine wo_nil ?_
          cases hr
          exact ⟨_, _, rfl, rfl, rfl, gl rfl, gl g5, gl g6⟩
    · refine w_condF rfl ?_
      refine w_exit ?_
      refine nx_exit ?_
      cases hr
      exact ⟨_, _, rfl, ne_norm_exit, rfl, rfl⟩
  · rcases o_1 with o_1 | o_1
    · rintro _ mm_1 t_3 ⟨rfl, rfl⟩
      refine bk_hit ?_
      refine nx_norm ?_
      refine w_seq ?_
      refine w_ops ?_
      refine wo_step (v := (.b true)) (s_pure (p_mv rfl)) ?_
      refine wo_nil ?_
      refine nx_norm ?_
      refine w_ret ?_
      exact qf ret_ok (rt rfl rn) hr
    · obtain ⟨c2, ho⟩ : ∃ z, z = o_1 := ⟨_, rfl⟩
      subst ho
      rintro _ mm_2 t_4 ⟨rfl, rfl, g2⟩
      refine bk_ret ?_
      refine nx_ret ?_
      exact qf ret_ok (rt g2 rn) hr

/- dibber/seed.written -/
abbrev g52_I0 (x14 : Int) (v20 : AVal) (v11 : AVal) (x22 : Int) (s : Int × Mm) (m1 : Mm) (t1 : Tr) : Prop :=
  match s with
  | (x23, m_5) => m_5 = m1 ∧ t1.get 23 = (.i .i64 x23) ∧ t1.get 4 = (.i .i64 x14) ∧ t1.get 5 = v20 ∧ t1.get 21 = v11 ∧ t1.get 22 = (.i .i64 x22)
abbrev g52_J0 (x14 : Int) (v20 : AVal) (v11 : AVal) (x22 : Int) (o : Mm) (e : AExit) (m1 : Mm) (t1 : Tr) : Prop :=
  match o with
  | mo => e = (.exit 0) ∧ mo = m1 ∧ t1.get 5 = v20
def g52_b0 (M : Means) (ro : List ABlk) (x14 : Int) (v20 : AVal) (v11 : AVal) (x22 : Int) (x23 : Int) (m_5 : Mm) : Option ((Int × Mm) ⊕ (Mm)) :=
  forceB (ltI x23 x22) fun c24 =>
  cond c24 (
    bindO (evP .e (.ixS 1 (.c v11) (.c (.i .i64 x23)))) fun v25 =>
    bindO (ldM ro m_5 true 1 v25) fun v26 =>
    asI .i64 v26 fun x26 =>
    forceI (wr .i64 (x14 - x26)) fun x30 =>
    bindO (evP .e (.ixS 1 (.c v20) (.c (.i .i64 x30)))) fun v31 =>
    bindP (stepM ro m_5 (.st 1 (.c v31) (.c (.i .u8 49)))) fun vn m_6 =>
    forceI (wr .i64 (x23 + 1)) fun x32 =>
    some (.inl (x32, m_6))) (
    some (.inr m_5))
def g52 (M : Means) (ro : List ABlk) (x0 : Int) (m0 : Mm) : Option (AVal × Heap × Nat × Nat) :=
  forceB (eqI x0 0) fun c9 =>
  cond c9 (
    finM m0.h.length (tupA [(.s [48])]) m0) (
    bindP (callM M.call m0 60 [(.i .i64 x0)]) fun v11 m_1 =>
    bindO (evP .e (.ixS 1 (.c v11) (.c (.i .i64 0)))) fun v13 =>
    bindO (ldM ro m_1 true 1 v13) fun v14 =>
    asI .i64 v14 fun x14 =>
    bindP (stepM ro m_1 (.bsl 5 1 [(AVal.i IntKind.u8 0)] 1 [((0, 1), .c (.i .u8 48))])) fun v15 m_2 =>
    bindP (stepM ro m_2 (.mks (.c v15))) fun v16 m_3 =>
    forceI (wr .i64 (x14 - 2)) fun x18 =>
    forceI (wr .i64 (x18 + 1)) fun x19 =>
    bindP (callM M.call m_3 73 [v16, (.i .i64 x19)]) fun v20 m_4 =>
    bindO (evP .e (.len false (.c v11))) fun v22 =>
    asI .i64 v22 fun x22 =>
    bindO (M.loop (S := Int × Mm) (R := Mm) (fun s => g52_b0 M ro x14 v20 v11 x22 s.1 s.2) (0, m_4)) fun m_7 =>
    bindO (btsM ro m_7 v20) fun v34 =>
    asS v34 fun s34 =>
    finM m0.h.length (tupA [(.s s34)]) m_7)

theorem g52_ok {ro : List ABlk} {O : Caller} {M : Means} (hM : M.Ok ⟨F, O⟩ ro) {x0 h r} (ho : O 52 [(.i .i64 x0)] h = none) (hr : g52 M ro x0 ⟨h, h.length, h.length⟩ = some r) : callX ⟨F, O⟩ ro 52 [(.i .i64 x0)] h = some r := by
  refine callX_of (F := ⟨F, O⟩) (fn := fn52) (g := g52 M ro x0) ho rfl rfl hr ?_
  clear ho
  clear hr
  intro m0 t0 ht hr
  have g0 : t0.get 0 = (.i .i64 x0) := ht 0
  clear ht
  unfold g52 at hr
  refine w_seq ?_
  refine w_ops ?_
  refine wo_step (v := (AVal.s [])) (s_pure (p_mv rfl)) ?_
  refine wo_nil ?_
  refine nx_norm ?_
  refine w_seq ?_
  refine w_seq ?_
  refine w_ops ?_
  refine wo_step (v := (.i .i64 x0)) (s_pure (p_mv g0)) ?_
  have hq := forceB_inv hr
  clear hr
  obtain ⟨c9, e9, hr⟩ := hq
  refine wo_step (v := (.b c9)) (s_pure (p_bin rfl rfl (b_eql.trans (cb e9)))) ?_
  refine wo_nil ?_
  refine nx_norm ?_
  have hq := cond_inv hr
  clear hr
  rcases hq with ⟨rfl, hr⟩ | ⟨rfl, hr⟩
  · refine w_condT rfl ?_
    refine w_seq ?_
    refine w_ops ?_
    refine wo_step (v := (AVal.s [48])) (s_pure (p_mv rfl)) ?_
    refine wo_nil ?_
    refine nx_norm ?_
    refine w_ret ?_
    refine nx_ret ?_
    exact qf ret_ok (rt rfl rn) hr
  · refine w_condF rfl ?_
    refine w_skip ?_
    refine nx_norm ?_
    refine w_seq ?_
    refine w_ops ?_
    refine wo_step (v := (.i .i64 x0)) (s_pure (p_mv g0)) ?_
    have hq := bindP_inv hr
    clear hr
    obtain ⟨v11, m_1, e11, hr⟩ := hq
    refine wo_step (v := v11) (s_call (mc rfl mn) (callM_le hM.call e11)) ?_
    refine wo_step (v := v11) (s_pure (p_mv rfl)) ?_
    refine wo_nil ?_
    refine nx_norm ?_
    refine w_seq ?_
    refine w_ops ?_
    refine wo_step (v := v11) (s_pure (p_mv rfl)) ?_
    have hq := bindO_inv hr
    clear hr
    obtain ⟨v13, e13, hr⟩ := hq
    refine wo_step (v := v13) (s_pure (o_ixS rfl rfl e13)) ?_
    have hq := bindO_inv hr
    clear hr
    obtain ⟨v14, e14, hr⟩ := hq
    have hq := asI_inv hr
    clear hr
    obtain ⟨x14, rfl, hr⟩ := hq
    refine wo_step (v := (.i .i64 x14)) (s_ld rfl e14) ?_
    refine wo_step (v := (.i .i64 x14)) (s_pure (p_mv rfl)) ?_
    refine wo_nil ?_
    refine nx_norm ?_
    refine w_seq ?_
    refine w_ops ?_
    have hq := bindP_inv hr
    clear hr
    obtain ⟨v15, m_2, e15, hr⟩ := hq
    refine wo_step (v := v15) (s_bsl (qc rfl qn) e15) ?_
    have hq := bindP_inv hr
    clear hr
    obtain ⟨v16, m_3, e16, hr⟩ := hq
    refine wo_step (v := v16) (s_mks rfl e16) ?_
    refine wo_step (v := (.i .i64 x14)) (s_pure (p_mv rfl)) ?_
    have hq := forceI_inv hr
    clear hr
    obtain ⟨x18, e18, hr⟩ := hq
    refine wo_step (v := (.i .i64 x18)) (s_pure (p_bin rfl rfl (b_sub.trans (ci e18)))) ?_
    have hq := forceI_inv hr
    clear hr
    obtain ⟨x19, e19, hr⟩ := hq
    refine wo_step (v := (.i .i64 x19)) (s_pure (p_bin rfl rfl (b_add.trans (ci e19)))) ?_
    have hq := bindP_inv hr
    clear hr
    obtain ⟨v20, m_4, e20, hr⟩ := hq
    refine wo_step (v := v20) (s_call (mc rfl (mc rfl mn)) (callM_le hM.call e20)) ?_
    refine wo_step (v := v20) (s_pure (p_mv rfl)) ?_
    refine wo_nil ?_
    refine nx_norm ?_
    refine w_seq ?_
    refine w_seq ?_
    refine w_ops ?_
    refine wo_step (v := v11) (s_pure (p_mv rfl)) ?_
    have hq := bindO_inv hr
    clear hr
    obtain ⟨v22, e22, hr⟩ := hq
    have hq := asI_inv hr
    clear hr
    obtain ⟨x22, rfl, hr⟩ := hq
    refine wo_step (v := (.i .i64 x22)) (s_pure (o_len rfl e22)) ?_
    refine wo_step (v := (.i .i64 0)) (s_pure (p_mv rfl)) ?_
    refine wo_nil ?_
    refine nx_norm ?_
    refine w_block ?_
    have hq := bindO_inv hr
    clear hr
    obtain ⟨o, hl, hr⟩ := hq
    obtain ⟨n, hl⟩ := hM.loop _ _ _ hl
    refine jp_mono (w_loop _ (g52_I0 x14 v20 v11 x22) (g52_J0 x14 v20 v11 x22) ?_ n _ _ _ _ hl ⟨rfl, gl rfl, gl rfl, gl rfl, gl rfl, gl rfl⟩) ?_
    · clear hr hl
      intro s mm_1 t_1 o hi hr
      obtain ⟨x23, m_5⟩ := s
      obtain ⟨rfl, g23, g4, g5, g21, g22⟩ := hi
      unfold g52_b0 at hr
      refine w_seq ?_
      refine w_ops ?_
      have hq := forceB_inv hr
      clear hr
      obtain ⟨c24, e24, hr⟩ := hq
      refine wo_step (v := (.b c24)) (s_pure (p_bin g23 g22 (b_lss.trans (cb e24)))) ?_
      refine wo_nil ?_
      refine nx_norm ?_
      refine w_seq ?_
      have hq := cond_inv hr
      clear hr
      rcases hq with ⟨rfl, hr⟩ | ⟨rfl, hr⟩
      · refine w_condT rfl ?_
        refine w_skip ?_
        refine nx_norm ?_
        refine w_seq ?_
        refine w_block ?_
        refine w_seq ?_
        refine w_ops ?_
        have hq := bindO_inv hr
        clear hr
        obtain ⟨v25, e25, hr⟩ := hq
        refine wo_step (v := v25) (s_pure (o_ixS g21 g23 e25)) ?_
        have hq := bindO_inv hr
        clear hr
        obtain ⟨v26, e26, hr⟩ := hq
        have hq := asI_inv hr
        clear hr
        obtain ⟨x26, rfl, hr⟩ := hq
        refine wo_step (v := (.i .i64 x26)) (s_ld rfl e26) ?_
        refine wo_step (v := (.i .i64 x26)) (s_pure (p_mv rfl)) ?_
        refine wo_nil ?_
        refine nx_norm ?_
        refine w_ops ?_
        refine wo_step (v := v20) (s_pure (p_mv g5)) ?_
        refine wo_step (v := (.i .i64 x14)) (s_pure (p_mv g4)) ?_
        refine wo_step (v := (.i .i64 x26)) (s_pure (p_mv rfl)) ?_
        have hq := forceI_inv hr
        clear hr
        obtain ⟨x30, e30, hr⟩ := hq
        refine wo_step (v := (.i .i64 x30)) (s_pure (p_bin rfl rfl (b_sub.trans (ci e30)))) ?_
        have hq := bindO_inv hr
        clear hr
        obtain ⟨v31, e31, hr⟩ := hq
        refine wo_step (v := v31) (s_pure (o_ixS rfl rfl e31)) ?_
        have hq := bindP_inv hr
        clear hr
        obtain ⟨vn, m_6, en, hr⟩ := hq
        refine wo_stepN (s_st rfl rfl en) ?_
        refine wo_nil ?_
        refine bk_norm ?_
        refine nx_norm ?_
        refine w_ops ?_
        have hq := forceI_inv hr
        clear hr
        obtain ⟨x32, e32, hr⟩ := hq
        refine wo_step (v := (.i .i64 x32)) (s_pure (p_bin g23 rfl (b_add.trans (ci e32)))) ?_
        refine wo_step (v := (.i .i64 x32)) (s_pure (p_mv rfl)) ?_
        refine wo_nil ?_
        cases hr
        exact ⟨_, _, rfl, rfl, rfl, gl rfl, gl g4, gl g5, gl g21, gl g22⟩
      · refine w_condF rfl ?_
        refine w_exit ?_
        refine nx_exit ?_
        cases hr
        exact ⟨_, _, rfl, ne_norm_exit, rfl, rfl, gl g5⟩
    · obtain ⟨m_7, ho⟩ : ∃ z, z = o := ⟨_, rfl⟩
      subst ho
      rintro _ mm t_2 ⟨rfl, rfl, g5⟩
      refine bk_hit ?_
      refine nx_norm ?_
      refine w_seq ?_
      refine w_ops ?_
      refine wo_step (v := v20) (s_pure (p_mv g5)) ?_
      have hq := bindO_inv hr
      clear hr
      obtain ⟨v34, e34, hr⟩ := hq
      have hq := asS_inv hr
      clear hr
      obtain ⟨s34, rfl, hr⟩ := hq
      refine wo_step (v := (.s s34)) (s_bts rfl e34) ?_
      refine wo_step (v := (.s s34)) (s_pure (p_mv rfl)) ?_
      refine wo_nil ?_
      refine nx_norm ?_
      refine w_ret ?_
      exact qf ret_ok (rt rfl rn) hr

/- dibber/seed.parts -/
abbrev g60_I0  (s : Int × AVal × Int × Int × Int × Mm) (m1 : Mm) (t1 : Tr) : Prop :=
  match s with
  | (x0_1, v3, x4, x5, x6, m_3) => m_3 = m1 ∧ t1.get 0 = (.i .i64 x0_1) ∧ t1.get 3 = v3 ∧ t1.get 4 = (.i .i64 x4) ∧ t1.get 5 = (.i .i64 x5) ∧ t1.get 6 = (.i .i64 x6)
abbrev g60_J0  (o : (AVal × Mm)) (e : AExit) (m1 : Mm) (t1 : Tr) : Prop :=
  match o with
  | (y3, mo) => e = (.exit 0) ∧ mo = m1 ∧ t1.get 3 = y3
abbrev g60_J1 (x4 : Int) (x5 : Int) (x6 : Int) (o : (Int × AVal × Mm)) (e : AExit) (m1 : Mm) (t1 : Tr) : Prop :=
  match o with
  | (y0, y3, mo) => e = .norm ∧ mo = m1 ∧ t1.get 0 = (.i .i64 y0) ∧ t1.get 3 = y3 ∧ t1.get 4 = (.i .i64 x4) ∧ t1.get 5 = (.i .i64 x5) ∧ t1.get 6 = (.i .i64 x6)
def g60_b0 (M : Means) (ro : List ABlk)  (x0_1 : Int) (v3 : AVal) (x4 : Int) (x5 : Int) (x6 : Int) (m_3 : Mm) : Option ((Int × AVal × Int × Int × Int × Mm) ⊕ ((AVal × Mm))) :=
  forceB (ltI 0 x0_1) fun c10 =>
  cond c10 (
    forceB (!ltI x0_1 x4) fun c15 =>
    bindO (α := (Int × AVal × Mm)) (
      cond c15 (
        bindP (stepM ro m_3 (.bsl 3 1 [(AVal.i IntKind.i64 0)] 1 [((0, 1), .c (.i .i64 x6))])) fun v18 m_4 =>
        bindP (stepM ro m_4 (.app 3 1 8 [(AVal.i IntKind.i64 0)] (.c v3) (.c v18))) fun v19 m_5 =>
        forceI (wr .i64 (x0_1 - x4)) fun x22 =>
        some (x22, v19, m_5)) (
        some (x0_1, v3, m_3))) fun ⟨x0_2, v3_1, m_6⟩ =>
    forceI (wr .i64 (x4 - x5)) fun x26 =>
    forceI (wr .i64 (x6 - 1)) fun x12 =>
    some (.inl (x0_2, v3_1, x5, x26, x12, m_6))) (
    some (.inr (v3, m_3)))
def g60 (M : Means) (ro : List ABlk) (x0 : Int) (m0 : Mm) : Option (AVal × Heap × Nat × Nat) :=
  bindP (callM M.call m0 71 [(.i .i64 88)]) fun v7 m_1 =>
  asI .i64 v7 fun x7 =>
  bindP (callM M.call m_1 71 [(.i .i64 87)]) fun v8 m_2 =>
  asI .i64 v8 fun x8 =>
  bindO (M.loop (S := Int × AVal × Int × Int × Int × Mm) (R := (AVal × Mm)) (fun s => g60_b0 M ro  s.1 s.2.1 s.2.2.1 s.2.2.2.1 s.2.2.2.2.1 s.2.2.2.2.2) (x0, AVal.nsl, x7, x8, 88, m_2)) fun ⟨v3_2, m_7⟩ =>
  finM m0.h.length (tupA [v3_2]) m_7

theorem g60_ok {ro : List ABlk} {O : Caller} {M : Means} (hM : M.Ok ⟨F, O⟩ ro) {x0 h r} (ho : O 60 [(.i .i64 x0)] h = none) (hr : g60 M ro x0 ⟨h, h.length, h.length⟩ = some r) : callX ⟨F, O⟩ ro 60 [(.i .i64 x0)] h = some r := by
  refine callX_of (F := ⟨F, O⟩) (fn := fn60) (g := g60 M ro x0) ho rfl rfl hr ?_
  clear ho
  clear hr
  intro m0 t0 ht hr
  have g0 : t0.get 0 = (.i .i64 x0) := ht 0
  clear ht
  unfold g60 at hr
  refine w_seq ?_
  refine w_ops ?_
  refine wo_step (v := AVal.nsl) (s_pure (p_mv rfl)) ?_
  refine wo_nil ?_
  refine nx_norm ?_
  refine w_seq ?_
  refine w_ops ?_
  refine wo_step (v := AVal.nsl) (s_pure (p_mv rfl)) ?_
  refine wo_nil ?_
  refine nx_norm ?_
  refine w_seq ?_
  refine w_ops ?_
  have hq := bindP_inv hr
  clear hr
  obtain ⟨v7, m_1, e7, hr⟩ := hq
  have hq := asI_inv hr
  clear hr
  obtain ⟨x7, rfl, hr⟩ := hq
  refine wo_step (v := (.i .i64 x7)) (s_call (mc rfl mn) (callM_le hM.call e7)) ?_
  have hq := bindP_inv hr
  clear hr
  obtain ⟨v8, m_2, e8, hr⟩ := hq
  have hq := asI_inv hr
  clear hr
  obtain ⟨x8, rfl, hr⟩ := hq
  refine wo_step (v := (.i .i64 x8)) (s_call (mc rfl mn) (callM_le hM.call e8)) ?_
  refine wo_step (v := (.i .i64 x7)) (s_pure (p_mv rfl)) ?_
  refine wo_step (v := (.i .i64 x8)) (s_pure (p_mv rfl)) ?_
  refine wo_nil ?_
  refine nx_norm ?_
  refine w_seq ?_
  refine w_seq ?_
  refine w_ops ?_
  refine wo_step (v := (.i .i64 88)) (s_pure (p_mv rfl)) ?_
  refine wo_nil ?_
  refine nx_norm ?_
  refine w_block ?_
  have hq := bindO_inv hr
  clear hr
  obtain ⟨o_1, hl, hr⟩ := hq
  obtain ⟨n, hl⟩ := hM.loop _ _ _ hl
  refine jp_mono (w_loop _ (g60_I0 ) (g60_J0 ) ?_ n _ _ _ _ hl ⟨rfl, gl g0, gl rfl, gl rfl, gl rfl, gl rfl⟩) ?_
  · clear hr hl
    intro s mm_2 t_1 o hi hr
    obtain ⟨x0_1, v3, x4, x5, x6, m_3⟩ := s
    obtain ⟨rfl, g0, g3, g4, g5, g6⟩ := hi
    unfold g60_b0 at hr
    refine w_seq ?_
    refine w_seq ?_
    refine w_ops ?_
    refine wo_step (v := (.i .i64 x0_1)) (s_pure (p_mv g0)) ?_
    have hq := forceB_inv hr
    clear hr
    obtain ⟨c10, e10, hr⟩ := hq
    refine wo_step (v := (.b c10)) (s_pure (p_bin rfl rfl (b_gtr.trans (cb e10)))) ?_
    refine wo_nil ?_
    refine nx_norm ?_
    have hq := cond_inv hr
    clear hr
    rcases hq with ⟨rfl, hr⟩ | ⟨rfl, hr⟩
    · refine w_condT rfl ?_
      refine w_skip ?_
      refine nx_norm ?_
      refine w_seq ?_
      refine w_block ?_
      refine w_seq ?_
      refine w_seq ?_
      refine w_ops ?_
      refine wo_step (v := (.i .i64 x4)) (s_pure (p_mv g4)) ?_
      refine wo_step (v := (.i .i64 x0_1)) (s_pure (p_mv g0)) ?_
      have hq := forceB_inv hr
      clear hr
      obtain ⟨c15, e15, hr⟩ := hq
      refine wo_step (v := (.b c15)) (s_pure (p_bin rfl rfl (b_leq.trans (cb e15)))) ?_
      refine wo_nil ?_
      refine nx_norm ?_
      have hq := bindO_inv hr
      clear hr
      obtain ⟨o, hr, hk⟩ := hq
      refine jp_mono (J := g60_J1 x4 x5 x6 o) ?_ ?_
      · clear hk
        have hq := cond_inv hr
        clear hr
        rcases hq with ⟨rfl, hr⟩ | ⟨rfl, hr⟩
        · refine w_condT rfl ?_
          refine w_seq ?_
          refine w_ops ?_
          refine wo_step (v := v3) (s_pure (p_mv g3)) ?_
          refine wo_step (v := (.i .i64 x6)) (s_pure (p_mv g6)) ?_
          have hq := bindP_inv hr
          clear hr
          obtain ⟨v18, m_4, e18, hr⟩ := hq
          refine wo_step (v := v18) (s_bsl (qc rfl qn) e18) ?_
          have hq := bindP_inv hr
          clear hr
          obtain ⟨v19, m_5, e19, hr⟩ := hq
          refine wo_step (v := v19) (s_app rfl rfl e19) ?_
          refine wo_step (v := v19) (s_pure (p_mv rfl)) ?_
          refine wo_nil ?_
          refine nx_norm ?_
          refine w_ops ?_
          refine wo_step (v := (.i .i64 x0_1)) (s_pure (p_mv g0)) ?_
          refine wo_step (v := (.i .i64 x4)) (s_pure (p_mv g4)) ?_
          have hq := forceI_inv hr
          clear hr
          obtain ⟨x22, e22, hr⟩ := hq
          refine wo_step (v := (.i .i64 x22)) (s_pure (p_bin rfl rfl (b_sub.trans (ci e22)))) ?_
          refine wo_step (v := (.i .i64 x22)) (s_pure (p_mv rfl)) ?_
          refine wo_nil ?_
          cases hr
          exact ⟨_, _, rfl, rfl, rfl, gl rfl, gl rfl, gl g4, gl g5, gl g6⟩
        · refine w_condF rfl ?_
          refine w_skip ?_
          cases hr
          exact ⟨_, _, rfl, rfl, rfl, gl g0, gl g3, gl g4, gl g5, gl g6⟩
      · clear hr
        have hr := hk
        clear hk
        obtain ⟨x0_2, v3_1, m_6⟩ := o
        rintro _ mm t_2 ⟨rfl, rfl, g0, g3, g4, g5, g6⟩
        refine nx_norm ?_
        refine w_ops ?_
        refine wo_step (v := (.i .i64 x5)) (s_pure (p_mv g5)) ?_
        refine wo_step (v := (.i .i64 x4)) (s_pure (p_mv g4)) ?_
        refine wo_step (v := (.i .i64 x5)) (s_pure (p_mv g5)) ?_
        have hq := forceI_inv hr
        clear hr
        obtain ⟨x26, e26, hr⟩ := hq
        refine wo_step (v := (.i .i64 x26)) (s_pure (p_bin rfl rfl (b_sub.trans (ci e26)))) ?_
        refine wo_step (v := (.i .i64 x5)) (s_pure (p_mv rfl)) ?_
        refine wo_step (v := (.i .i64 x26)) (s_pure (p_mv rfl)) ?_
        refine wo_nil ?_
        refine bk_norm ?_
        refine nx_norm ?_
        refine w_ops ?_
        refine wo_step (v := (.i .i64 x6)) (s_pure (p_mv g6)) ?_
        have hq := forceI_inv hr
        clear hr
        obtain ⟨x12, e12, hr⟩ := hq
        refine wo_step (v := (.i .i64 x12)) (s_pure (p_bin rfl rfl (b_sub.trans (ci e12)))) ?_
        refine wo_step (v := (.i .i64 x12)) (s_pure (p_mv rfl)) ?_
        refine wo_nil ?_
        cases hr
        exact ⟨_, _, rfl, rfl, rfl, gl g0, gl g3, gl rfl, gl rfl, gl rfl⟩
    · refine w_condF rfl ?_
      refine w_exit ?_
      refine nx_exit ?_
      cases hr
      exact ⟨_, _, rfl, ne_norm_exit, rfl, rfl, gl g3⟩
  · obtain ⟨v3_2, m_7⟩ := o_1
    rintro _ mm_1 t_3 ⟨rfl, rfl, g3⟩
    refine bk_hit ?_
    refine nx_norm ?_
    refine w_seq ?_
    refine w_ops ?_
    refine wo_step (v := v3_2) (s_pure (p_mv g3)) ?_
    refine wo_step (v := v3_2) (s_pure (p_mv rfl)) ?_
    refine wo_nil ?_
    refine nx_norm ?_
    refine w_ret ?_
    exact qf ret_ok (rt rfl rn) hr

/- dibber/seed.shifted -/
abbrev g63_I0 (x1 : Int) (v9 : AVal) (x10 : Int) (s : Int × Int × Mm) (m1 : Mm) (t1 : Tr) : Prop :=
  match s with
  | (x5, x11, m_2) => m_2 = m1 ∧ t1.get 5 = (.i .i64 x5) ∧ t1.get 11 = (.i .i64 x11) ∧ t1.get 1 = (.i .i64 x1) ∧ t1.get 9 = v9 ∧ t1.get 10 = (.i .i64 x10)
abbrev g63_J0 (x1 : Int) (v9 : AVal) (x10 : Int) (o : (Int × Mm)) (e : AExit) (m1 : Mm) (t1 : Tr) : Prop :=
  match o with
  | (y5, mo) => e = (.exit 0) ∧ mo = m1 ∧ t1.get 5 = (.i .i64 y5)
def g63_b0 (M : Means) (ro : List ABlk) (x1 : Int) (v9 : AVal) (x10 : Int) (x5 : Int) (x11 : Int) (m_2 : Mm) : Option ((Int × Int × Mm) ⊕ ((Int × Mm))) :=
  forceB (ltI x11 x10) fun c12 =>
  cond c12 (
    bindO (evP .e (.ixS 1 (.c v9) (.c (.i .i64 x11)))) fun v13 =>
    bindO (ldM ro m_2 true 1 v13) fun v14 =>
    asI .i64 v14 fun x14 =>
    forceI (wr .i64 (x14 + x1)) fun x18 =>
    bindP (callM M.call m_2 71 [(.i .i64 x18)]) fun v19 m_3 =>
    asI .i64 v19 fun x19 =>
    forceI (wr .i64 (x5 + x19)) fun x20 =>
    forceI (mxV false x20 1152921504606846977) fun x21 =>
    forceI (wr .i64 (x11 + 1)) fun x22 =>
    some (.inl (x21, x22, m_3))) (
    some (.inr (x5, m_2)))
def g63 (M : Means) (ro : List ABlk) (x0 : Int) (x1 : Int) (m0 : Mm) : Option (AVal × Heap × Nat × Nat) :=
  bindP (callM M.call m0 60 [(.i .i64 x0)]) fun v9 m_1 =>
  bindO (evP .e (.len false (.c v9))) fun v10 =>
  asI .i64 v10 fun x10 =>
  bindO (M.loop (S := Int × Int × Mm) (R := (Int × Mm)) (fun s => g63_b0 M ro x1 v9 x10 s.1 s.2.1 s.2.2) (0, 0, m_1)) fun ⟨x5_1, m_4⟩ =>
  finM m0.h.length (tupA [(.i .i64 x5_1)]) m_4

theorem g63_ok {ro : List ABlk} {O : Caller} {M : Means} (hM : M.Ok ⟨F, O⟩ ro) {x0 x1 h r} (ho : O 63 [(.i .i64 x0), (.i .i64 x1)] h = none) (hr : g63 M ro x0 x1 ⟨h, h.length, h.length⟩ = some r) : callX ⟨F, O⟩ ro 63 [(.i .i64 x0), (.i .i64 x1)] h = some r := by
  refine callX_of (F := ⟨F, O⟩) (fn := fn63) (g := g63 M ro x0 x1) ho rfl rfl hr ?_
  clear ho
  clear hr
  intro m0 t0 ht hr
  have g0 : t0.get 0 = (.i .i64 x0) := ht 0
  have g1 : t0.get 1 = (.i .i64 x1) := ht 1
  clear ht
  unfold g63 at hr
  refine w_seq ?_
  refine w_ops ?_
  refine wo_step (v := (.i .i64 0)) (s_pure (p_mv rfl)) ?_
  refine wo_nil ?_
  refine nx_norm ?_
  refine w_seq ?_
  refine w_ops ?_
  refine wo_step (v := (.i .i64 0)) (s_pure (p_mv rfl)) ?_
  refine wo_nil ?_
  refine nx_norm ?_
  refine w_seq ?_
  refine w_seq ?_
  refine w_ops ?_
  refine wo_step (v := (.i .i64 x0)) (s_pure (p_mv g0)) ?_
  have hq := bindP_inv hr
  clear hr
  obtain ⟨v9, m_1, e9, hr⟩ := hq
  refine wo_step (v := v9) (s_call (mc rfl mn) (callM_le hM.call e9)) ?_
  have hq := bindO_inv hr
  clear hr
  obtain ⟨v10, e10, hr⟩ := hq
  have hq := asI_inv hr
  clear hr
  obtain ⟨x10, rfl, hr⟩ := hq
  refine wo_step (v := (.i .i64 x10)) (s_pure (o_len rfl e10)) ?_
  refine wo_step (v := (.i .i64 0)) (s_pure (p_mv rfl)) ?_
  refine wo_nil ?_
  refine nx_norm ?_
  refine w_block ?_
  have hq := bindO_inv hr
  clear hr
  obtain ⟨o, hl, hr⟩ := hq
  obtain ⟨n, hl⟩ := hM.loop _ _ _ hl
  refine jp_mono (w_loop _ (g63_I0 x1 v9 x10) (g63_J0 x1 v9 x10) ?_ n _ _ _ _ hl ⟨rfl, gl rfl, gl rfl, gl g1, gl rfl, gl rfl⟩) ?_
  · clear hr hl
    intro s mm_1 t_1 o hi hr
    obtain ⟨x5, x11, m_2⟩ := s
    obtain ⟨rfl, g5, g11, g1, g9, g10⟩ := hi
    unfold g63_b0 at hr
    refine w_seq ?_
    refine w_ops ?_
    have hq := forceB_inv hr
    clear hr
    obtain ⟨c12, e12, hr⟩ := hq
    refine wo_step (v := (.b c12)) (s_pure (p_bin g11 g10 (b_lss.trans (cb e12)))) ?_
    refine wo_nil ?_
    refine nx_norm ?_
    refine w_seq ?_
    have hq := cond_inv hr
    clear hr
    rcases hq with ⟨rfl, hr⟩ | ⟨rfl, hr⟩
    · refine w_condT rfl ?_
      refine w_skip ?_
      refine nx_norm ?_
      refine w_seq ?_
      refine w_block ?_
      refine w_seq ?_
      refine w_ops ?_
      have hq := bindO_inv hr
      clear hr
      obtain ⟨v13, e13, hr⟩ := hq
      refine wo_step (v := v13) (s_pure (o_ixS g9 g11 e13)) ?_
      have hq := bindO_inv hr
      clear hr
      obtain ⟨v14, e14, hr⟩ := hq
      have hq := asI_inv hr
      clear hr
      obtain ⟨x14, rfl, hr⟩ := hq
      refine wo_step (v := (.i .i64 x14)) (s_ld rfl e14) ?_
      refine wo_step (v := (.i .i64 x14)) (s_pure (p_mv rfl)) ?_
      refine wo_nil ?_
      refine nx_norm ?_
      refine w_ops ?_
      refine wo_step (v := (.i .i64 x5)) (s_pure (p_mv g5)) ?_
      refine wo_step (v := (.i .i64 x14)) (s_pure (p_mv rfl)) ?_
      refine wo_step (v := (.i .i64 x1)) (s_pure (p_mv g1)) ?_
      have hq := forceI_inv hr
      clear hr
      obtain ⟨x18, e18, hr⟩ := hq
      refine wo_step (v := (.i .i64 x18)) (s_pure (p_bin rfl rfl (b_add.trans (ci e18)))) ?_
      have hq := bindP_inv hr
      clear hr
      obtain ⟨v19, m_3, e19, hr⟩ := hq
      have hq := asI_inv hr
      clear hr
      obtain ⟨x19, rfl, hr⟩ := hq
      refine wo_step (v := (.i .i64 x19)) (s_call (mc rfl mn) (callM_le hM.call e19)) ?_
      have hq := forceI_inv hr
      clear hr
      obtain ⟨x20, e20, hr⟩ := hq
      refine wo_step (v := (.i .i64 x20)) (s_pure (p_bin rfl rfl (b_add.trans (ci e20)))) ?_
      have hq := forceI_inv hr
      clear hr
      obtain ⟨x21, e21, hr⟩ := hq
      refine wo_step (v := (.i .i64 x21)) (s_pure ((p_mx rfl rfl).trans (ci e21))) ?_
      refine wo_step (v := (.i .i64 x21)) (s_pure (p_mv rfl)) ?_
      refine wo_nil ?_
      refine bk_norm ?_
      refine nx_norm ?_
      refine w_ops ?_
      have hq := forceI_inv hr
      clear hr
      obtain ⟨x22, e22, hr⟩ := hq
      refine wo_step (v := (.i .i64 x22)) (s_pure (p_bin g11 rfl (b_add.trans (ci e22)))) ?_
      refine wo_step (v := (.i .i64 x22)) (s_pure (p_mv rfl)) ?_
      refine wo_nil ?_
      cases hr
      exact ⟨_, _, rfl, rfl, rfl, gl rfl, gl rfl, gl g1, gl g9, gl g10⟩
    · refine w_condF rfl ?_
      refine w_exit ?_
      refine nx_exit ?_
      cases hr
      exact ⟨_, _, rfl, ne_norm_exit, rfl, rfl, gl g5⟩
  · obtain ⟨x5_1, m_4⟩ := o
    rintro _ mm t_2 ⟨rfl, rfl, g5⟩
    refine bk_hit ?_
    refine nx_norm ?_
    refine w_seq ?_
    refine w_ops ?_
    refine wo_step (v := (.i .i64 x5_1)) (s_pure (p_mv g5)) ?_
    refine wo_step (v := (.i .i64 x5_1)) (s_pure (p_mv rfl)) ?_
    refine wo_nil ?_
    refine nx_norm ?_
    refine w_ret ?_
    exact qf ret_ok (rt rfl rn) hr

/- dibber/seed.smaller -/

def g66 (M : Means) (ro : List ABlk) (x0 : Int) (m0 : Mm) : Option (AVal × Heap × Nat × Nat) :=
  forceB (eqI x0 0) fun c4 =>
  cond c4 (
    finM m0.h.length (tupA [(.i .i64 0)]) m0) (
    forceI (wr .i64 (x0 - 1)) fun x6 =>
    bindP (callM M.call m0 63 [(.i .i64 x6), (.i .i64 1)]) fun v7 m_1 =>
    asI .i64 v7 fun x7 =>
    forceI (wr .i64 (x7 + 1)) fun x8 =>
    finM m0.h.length (tupA [(.i .i64 x8)]) m_1)

theorem g66_ok {ro : List ABlk} {O : Caller} {M : Means} (hM : M.Ok ⟨F, O⟩ ro) {x0 h r} (ho : O 66 [(.i .i64 x0)] h = none) (hr : g66 M ro x0 ⟨h, h.length, h.length⟩ = some r) : callX ⟨F, O⟩ ro 66 [(.i .i64 x0)] h = some r := by
  refine callX_of (F := ⟨F, O⟩) (fn := fn66) (g := g66 M ro x0) ho rfl rfl hr ?_
  clear ho
  clear hr
  intro m0 t0 ht hr
  have g0 : t0.get 0 = (.i .i64 x0) := ht 0
  clear ht
  unfold g66 at hr
  refine w_seq ?_
  refine w_ops ?_
  refine wo_step (v := (.i .i64 0)) (s_pure (p_mv rfl)) ?_
  refine wo_nil ?_
  refine nx_norm ?_
  refine w_seq ?_
  refine w_seq ?_
  refine w_ops ?_
  refine wo_step (v := (.i .i64 x0)) (s_pure (p_mv g0)) ?_
  have hq := forceB_inv hr
  clear hr
  obtain ⟨c4, e4, hr⟩ := hq
  refine wo_step (v := (.b c4)) (s_pure (p_bin rfl rfl (b_eql.trans (cb e4)))) ?_
  refine wo_nil ?_
  refine nx_norm ?_
  have hq := cond_inv hr
  clear hr
  rcases hq with ⟨rfl, hr⟩ | ⟨rfl, hr⟩
  · refine w_condT rfl ?_
    refine w_seq ?_
    refine w_ops ?_
    refine wo_step (v := (.i .i64 0)) (s_pure (p_mv rfl)) ?_
    refine wo_nil ?_
    refine nx_norm ?_
    refine w_ret ?_
    refine nx_ret ?_
    exact qf ret_ok (rt rfl rn) hr
  · refine w_condF rfl ?_
    refine w_skip ?_
    refine nx_norm ?_
    refine w_seq ?_
    refine w_ops ?_
    refine wo_step (v := (.i .i64 x0)) (s_pure (p_mv g0)) ?_
    have hq := forceI_inv hr
    clear hr
    obtain ⟨x6, e6, hr⟩ := hq
    refine wo_step (v := (.i .i64 x6)) (s_pure (p_bin rfl rfl (b_sub.trans (ci e6)))) ?_
    have hq := bindP_inv hr
    clear hr
    obtain ⟨v7, m_1, e7, hr⟩ := hq
    have hq := asI_inv hr
    clear hr
    obtain ⟨x7, rfl, hr⟩ := hq
    refine wo_step (v := (.i .i64 x7)) (s_call (mc rfl (mc rfl mn)) (callM_le hM.call e7)) ?_
    have hq := forceI_inv hr
    clear hr
    obtain ⟨x8, e8, hr⟩ := hq
    refine wo_step (v := (.i .i64 x8)) (s_pure (p_bin rfl rfl (b_add.trans (ci e8)))) ?_
    refine wo_step (v := (.i .i64 x8)) (s_pure (p_mv rfl)) ?_
    refine wo_nil ?_
    refine nx_norm ?_
    refine w_ret ?_
    exact qf ret_ok (rt rfl rn) hr

/- dibber/seed.partner -/

def g68 (M : Means) (ro : List ABlk) (x0 : Int) (m0 : Mm) : Option (AVal × Heap × Nat × Nat) :=
  forceB (eqI x0 0) fun c5 =>
  cond c5 (
    finM m0.h.length (tupA [(.i .i64 0)]) m0) (
    bindP (callM M.call m0 72 [(.i .i64 x0)]) fun v7 m_1 =>
    asI .i64 v7 fun x7 =>
    forceI (wr .i64 (x7 - 2)) fun x8 =>
    forceI (Int.tmod x8 2) fun x10 =>
    forceB (eqI x10 0) fun c11 =>
    cond c11 (
      bindP (callM M.call m_1 63 [(.i .i64 x0), (.i .i64 1)]) fun v13 m_2 =>
      asI .i64 v13 fun x13 =>
      finM m0.h.length (tupA [(.i .i64 x13)]) m_2) (
      bindP (callM M.call m_1 63 [(.i .i64 x0), (.i .i64 (-1))]) fun v15 m_3 =>
      asI .i64 v15 fun x15 =>
      finM m0.h.length (tupA [(.i .i64 x15)]) m_3))

theorem g68_ok {ro : List ABlk} {O : Caller} {M : Means} (hM : M.Ok ⟨F, O⟩ ro) {x0 h r} (ho : O 68 [(.i .i64 x0)] h = none) (hr : g68 M ro x0 ⟨h, h.length, h.length⟩ = some r) : callX ⟨F, O⟩ ro 68 [(.i .i64 x0)] h = some r := by
  refine callX_of (F := ⟨F, O⟩) (fn := fn68) (g := g68 M ro x0) ho rfl rfl hr ?_
  clear ho
  clear hr
  intro m0 t0 ht hr
  have g0 : t0.get 0 = (.i .i64 x0) := ht 0
  clear ht
  unfold g68 at hr
  refine w_seq ?_
  refine w_ops ?_
  refine wo_step (v := (.i .i64 0)) (s_pure (p_mv rfl)) ?_
  refine wo_nil ?_
  refine nx_norm ?_
  refine w_seq ?_
  refine w_seq ?_
  refine w_ops ?_
  refine wo_step (v := (.i .i64 x0)) (s_pure (p_mv g0)) ?_
  have hq := forceB_inv hr
  clear hr
  obtain ⟨c5, e5, hr⟩ := hq
  refine wo_step (v := (.b c5)) (s_pure (p_bin rfl rfl (b_eql.trans (cb e5)))) ?_
  refine wo_nil ?_
  refine nx_norm ?_
  have hq := cond_inv hr
  clear hr
  rcases hq with ⟨rfl, hr⟩ | ⟨rfl, hr⟩
  · refine w_condT rfl ?_
    refine w_seq ?_
    refine w_ops ?_
    refine wo_step (v := (.i .i64 0)) (s_pure (p_mv rfl)) ?_
    refine wo_nil ?_
    refine nx_norm ?_
    refine w_ret ?_
    refine nx_ret ?_
    exact qf ret_ok (rt rfl rn) hr
  · refine w_condF rfl ?_
    refine w_skip ?_
    refine nx_norm ?_
    refine w_seq ?_
    refine w_seq ?_
    refine w_ops ?_
    refine wo_step (v := (.i .i64 x0)) (s_pure (p_mv g0)) ?_
    have hq := bindP_inv hr
    clear hr
    obtain ⟨v7, m_1, e7, hr⟩ := hq
    have hq := asI_inv hr
    clear hr
    obtain ⟨x7, rfl, hr⟩ := hq
    refine wo_step (v := (.i .i64 x7)) (s_call (mc rfl mn) (callM_le hM.call e7)) ?_
    have hq := forceI_inv hr
    clear hr
    obtain ⟨x8, e8, hr⟩ := hq
    refine wo_step (v := (.i .i64 x8)) (s_pure (p_bin rfl rfl (b_sub.trans (ci e8)))) ?_
    refine wo_step (v := (.i .i64 x8)) (s_pure (p_mv rfl)) ?_
    refine wo_nil ?_
    refine nx_norm ?_
    refine w_seq ?_
    refine w_ops ?_
    refine wo_step (v := (.i .i64 x8)) (s_pure (p_mv rfl)) ?_
    have hq := forceI_inv hr
    clear hr
    obtain ⟨x10, e10, hr⟩ := hq
    refine wo_step (v := (.i .i64 x10)) (s_pure (p_bin rfl rfl ((b_rem rfl).trans (ci e10)))) ?_
    have hq := forceB_inv hr
    clear hr
    obtain ⟨c11, e11, hr⟩ := hq
    refine wo_step (v := (.b c11)) (s_pure (p_bin rfl rfl (b_eql.trans (cb e11)))) ?_
    refine wo_nil ?_
    refine nx_norm ?_
    have hq := cond_inv hr
    clear hr
    rcases hq with ⟨rfl, hr⟩ | ⟨rfl, hr⟩
    · refine w_condT rfl ?_
      refine w_seq ?_
      refine w_ops ?_
      refine wo_step (v := (.i .i64 x0)) (s_pure (p_mv g0)) ?_
      have hq := bindP_inv hr
      clear hr
      obtain ⟨v13, m_2, e13, hr⟩ := hq
      have hq := asI_inv hr
      clear hr
      obtain ⟨x13, rfl, hr⟩ := hq
      refine wo_step (v := (.i .i64 x13)) (s_call (mc rfl (mc rfl mn)) (callM_le hM.call e13)) ?_
      refine wo_step (v := (.i .i64 x13)) (s_pure (p_mv rfl)) ?_
      refine wo_nil ?_
      refine nx_norm ?_
      refine w_ret ?_
      refine nx_ret ?_
      exact qf ret_ok (rt rfl rn) hr
    · refine w_condF rfl ?_
      refine w_skip ?_
      refine nx_norm ?_
      refine w_seq ?_
      refine w_ops ?_
      refine wo_step (v := (.i .i64 x0)) (s_pure (p_mv g0)) ?_
      have hq := bindP_inv hr
      clear hr
      obtain ⟨v15, m_3, e15, hr⟩ := hq
      have hq := asI_inv hr
      clear hr
      obtain ⟨x15, rfl, hr⟩ := hq
      refine wo_step (v := (.i .i64 x15)) (s_call (mc rfl (mc rfl mn)) (callM_le hM.call e15)) ?_
      refine wo_step (v := (.i .i64 x15)) (s_pure (p_mv rfl)) ?_
      refine wo_nil ?_
      refine nx_norm ?_
      refine w_ret ?_
      exact qf ret_ok (rt rfl rn) hr

/- dibber/seed.fibonacci -/
abbrev g71_I0 (x0 : Int) (x6 : Int) (m0 : Mm) (s : Int × Int × Int) (m1 : Mm) (t1 : Tr) : Prop :=
  match s with
  | (x3, x4, x7) => m0 = m1 ∧ t1.get 3 = (.i .i64 x3) ∧ t1.get 4 = (.i .i64 x4) ∧ t1.get 7 = (.i .i64 x7) ∧ t1.get 0 = (.i .i64 x0) ∧ t1.get 6 = (.i .i64 x6)
abbrev g71_J0 (x0 : Int) (x6 : Int) (m0 : Mm) (o : (Int × Int)) (e : AExit) (m1 : Mm) (t1 : Tr) : Prop :=
  match o with
  | (y3, y4) => e = (.exit 0) ∧ m0 = m1 ∧ t1.get 3 = (.i .i64 y3) ∧ t1.get 4 = (.i .i64 y4) ∧ t1.get 0 = (.i .i64 x0)
def g71_b0 (M : Means) (ro : List ABlk) (x0 : Int) (x6 : Int) (m0 : Mm) (x3 : Int) (x4 : Int) (x7 : Int) : Option ((Int × Int × Int) ⊕ ((Int × Int))) :=
  forceB (ltI x7 x6) fun c8 =>
  cond c8 (
    forceI (wr .i64 (x3 + x4)) fun x12 =>
    forceI (mxV false x12 1152921504606846977) fun x13 =>
    forceI (wr .i64 (x7 + 1)) fun x14 =>
    some (.inl (x4, x13, x14))) (
    some (.inr (x3, x4)))
abbrev g71_I1 (x16 : Int) (m0 : Mm) (s : Int × Int × Int) (m1 : Mm) (t1 : Tr) : Prop :=
  match s with
  | (x3_2, x4_2, x17) => m0 = m1 ∧ t1.get 3 = (.i .i64 x3_2) ∧ t1.get 4 = (.i .i64 x4_2) ∧ t1.get 17 = (.i .i64 x17) ∧ t1.get 16 = (.i .i64 x16)
abbrev g71_J1 (x16 : Int) (m0 : Mm) (o : Int) (e : AExit) (m1 : Mm) (t1 : Tr) : Prop :=
  match o with
  | y3 => e = (.exit 2) ∧ m0 = m1 ∧ t1.get 3 = (.i .i64 y3)
def g71_b1 (M : Means) (ro : List ABlk) (x16 : Int) (m0 : Mm) (x3_2 : Int) (x4_2 : Int) (x17 : Int) : Option ((Int × Int × Int) ⊕ (Int)) :=
  forceB (ltI x17 x16) fun c18 =>
  cond c18 (
    forceI (wr .i64 (x4_2 - x3_2)) fun x21 =>
    forceI (wr .i64 (x17 + 1)) fun x23 =>
    some (.inl (x21, x3_2, x23))) (
    some (.inr x3_2))
def g71 (M : Means) (ro : List ABlk) (x0 : Int) (m0 : Mm) : Option (AVal × Heap × Nat × Nat) :=
  forceI (mxV false x0 89) fun x6 =>
  bindO (M.loop (S := Int × Int × Int) (R := (Int × Int)) (fun s => g71_b0 M ro x0 x6 m0 s.1 s.2.1 s.2.2) (0, 1, 0)) fun ⟨x3_1, x4_1⟩ =>
  forceI (wr .i64 (0 - x0)) fun x16 =>
  bindO (M.loop (S := Int × Int × Int) (R := Int) (fun s => g71_b1 M ro x16 m0 s.1 s.2.1 s.2.2) (x3_1, x4_1, 0)) fun x3_3 =>
  finM m0.h.length (tupA [(.i .i64 x3_3)]) m0

theorem g71_ok {ro : List ABlk} {O : Caller} {M : Means} (hM : M.Ok ⟨F, O⟩ ro) {x0 h r} (ho : O 71 [(.i .i64 x0)] h = none) (hr : g71 M ro x0 ⟨h, h.length, h.length⟩ = some r) : callX ⟨F, O⟩ ro 71 [(.i .i64 x0)] h = some r := by
  refine callX_of (F := ⟨F, O⟩) (fn := fn71) (g := g71 M ro x0) ho rfl rfl hr ?_
  clear ho
  clear hr
  intro m0 t0 ht hr
  have g0 : t0.get 0 = (.i .i64 x0) := ht 0
  clear ht
  unfold g71 at hr
  refine w_seq ?_
  refine w_ops ?_
  refine wo_step (v := (.i .i64 0)) (s_pure (p_mv rfl)) ?_
  refine wo_nil ?_
  refine nx_norm ?_
  refine w_seq ?_
  refine w_ops ?_
  refine wo_step (v := (.i .i64 0)) (s_pure (p_mv rfl)) ?_
  refine wo_step (v := (.i .i64 1)) (s_pure (p_mv rfl)) ?_
  refine wo_nil ?_
  refine nx_norm ?_
  refine w_seq ?_
  refine w_seq ?_
  refine w_ops ?_
  refine wo_step (v := (.i .i64 x0)) (s_pure (p_mv g0)) ?_
  have hq := forceI_inv hr
  clear hr
  obtain ⟨x6, e6, hr⟩ := hq
  refine wo_step (v := (.i .i64 x6)) (s_pure ((p_mx rfl rfl).trans (ci e6))) ?_
  refine wo_step (v := (.i .i64 0)) (s_pure (p_mv rfl)) ?_
  refine wo_nil ?_
  refine nx_norm ?_
  refine w_block ?_
  have hq := bindO_inv hr
  clear hr
  obtain ⟨o, hl_1, hr⟩ := hq
  obtain ⟨n_1, hl_1⟩ := hM.loop _ _ _ hl_1
  refine jp_mono (w_loop _ (g71_I0 x0 x6 m0) (g71_J0 x0 x6 m0) ?_ n_1 _ _ _ _ hl_1 ⟨rfl, gl rfl, gl rfl, gl rfl, gl g0, gl rfl⟩) ?_
  · clear hr hl_1
    intro s mm_3 t_1 o hi hr
    obtain ⟨x3, x4, x7⟩ := s
    obtain ⟨rfl, g3, g4, g7, g0, g6⟩ := hi
    unfold g71_b0 at hr
    refine w_seq ?_
    refine w_ops ?_
    have hq := forceB_inv hr
    clear hr
    obtain ⟨c8, e8, hr⟩ := hq
    refine wo_step (v := (.b c8)) (s_pure (p_bin g7 g6 (b_lss.trans (cb e8)))) ?_
    refine wo_nil ?_
    refine nx_norm ?_
    refine w_seq ?_
    have hq := cond_inv hr
    clear hr
    rcases hq with ⟨rfl, hr⟩ | ⟨rfl, hr⟩
    · refine w_condT rfl ?_
      refine w_skip ?_
      refine nx_norm ?_
      refine w_seq ?_
      refine w_block ?_
      refine w_ops ?_
      refine wo_step (v := (.i .i64 x4)) (s_pure (p_mv g4)) ?_
      refine wo_step (v := (.i .i64 x3)) (s_pure (p_mv g3)) ?_
      refine wo_step (v := (.i .i64 x4)) (s_pure (p_mv g4)) ?_
      have hq := forceI_inv hr
      clear hr
      obtain ⟨x12, e12, hr⟩ := hq
      refine wo_step (v := (.i .i64 x12)) (s_pure (p_bin rfl rfl (b_add.trans (ci e12)))) ?_
      have hq := forceI_inv hr
      clear hr
      obtain ⟨x13, e13, hr⟩ := hq
      refine wo_step (v := (.i .i64 x13)) (s_pure ((p_mx rfl rfl).trans (ci e13))) ?_
      refine wo_step (v := (.i .i64 x4)) (s_pure (p_mv rfl)) ?_
      refine wo_step (v := (.i .i64 x13)) (s_pure (p_mv rfl)) ?_
      refine wo_nil ?_
      refine bk_norm ?_
      refine nx_norm ?_
      refine w_ops ?_
      have hq := forceI_inv hr
      clear hr
      obtain ⟨x14, e14, hr⟩ := hq
      refine wo_step (v := (.i .i64 x14)) (s_pure (p_bin g7 rfl (b_add.trans (ci e14)))) ?_
      refine wo_step (v := (.i .i64 x14)) (s_pure (p_mv rfl)) ?_
      refine wo_nil ?_
      cases hr
      exact ⟨_, _, rfl, rfl, rfl, gl rfl, gl rfl, gl rfl, gl g0, gl g6⟩
    · refine w_condF rfl ?_
      refine w_exit ?_
      refine nx_exit ?_
      cases hr
      exact ⟨_, _, rfl, ne_norm_exit, rfl, rfl, gl g3, gl g4, gl g0⟩
  · obtain ⟨x3_1, x4_1⟩ := o
    rintro _ mm_2 t_2 ⟨rfl, rfl, g3, g4, g0⟩
    refine bk_hit ?_
    refine nx_norm ?_
    refine w_seq ?_
    refine w_seq ?_
    refine w_ops ?_
    refine wo_step (v := (.i .i64 x0)) (s_pure (p_mv g0)) ?_
    have hq := forceI_inv hr
    clear hr
    obtain ⟨x16, e16, hr⟩ := hq
    refine wo_step (v := (.i .i64 x16)) (s_pure ((p_neg rfl).trans (ci e16))) ?_
    refine wo_step (v := (.i .i64 0)) (s_pure (p_mv rfl)) ?_
    refine wo_nil ?_
    refine nx_norm ?_
    refine w_block ?_
    have hq := bindO_inv hr
    clear hr
    obtain ⟨o_1, hl, hr⟩ := hq
    obtain ⟨n, hl⟩ := hM.loop _ _ _ hl
    refine jp_mono (w_loop _ (g71_I1 x16 m0) (g71_J1 x16 m0) ?_ n _ _ _ _ hl ⟨rfl, gl g3, gl g4, gl rfl, gl rfl⟩) ?_
    · clear hr hl
      intro s mm_1 t_3 o hi hr
      obtain ⟨x3_2, x4_2, x17⟩ := s
      obtain ⟨rfl, g3, g4, g17, g16⟩ := hi
      unfold g71_b1 at hr
      refine w_seq ?_
      refine w_ops ?_
      have hq := forceB_inv hr
      clear hr
      obtain ⟨c18, e18, hr⟩ := hq
      refine wo_step (v := (.b c18)) (s_pure (p_bin g17 g16 (b_lss.trans (cb e18)))) ?_
      refine wo_nil ?_
      refine nx_norm ?_
      refine w_seq ?_
      have hq := cond_inv hr
      clear hr
      rcases hq with ⟨rfl, hr⟩ | ⟨rfl, hr⟩
      · refine w_condT rfl ?_
        refine w_skip ?_
        refine nx_norm ?_
        refine w_seq ?_
        refine w_block ?_
        refine w_ops ?_
        refine wo_step (v := (.i .i64 x4_2)) (s_pure (p_mv g4)) ?_
        refine wo_step (v := (.i .i64 x3_2)) (s_pure (p_mv g3)) ?_
        have hq := forceI_inv hr
        clear hr
        obtain ⟨x21, e21, hr⟩ := hq
        refine wo_step (v := (.i .i64 x21)) (s_pure (p_bin rfl rfl (b_sub.trans (ci e21)))) ?_
        refine wo_step (v := (.i .i64 x3_2)) (s_pure (p_mv g3)) ?_
        refine wo_step (v := (.i .i64 x21)) (s_pure (p_mv rfl)) ?_
        refine wo_step (v := (.i .i64 x3_2)) (s_pure (p_mv rfl)) ?_
        refine wo_nil ?_
        refine bk_norm ?_
        refine nx_norm ?_
        refine w_ops ?_
        have hq := forceI_inv hr
        clear hr
        obtain ⟨x23, e23, hr⟩ := hq
        refine wo_step (v := (.i .i64 x23)) (s_pure (p_bin g17 rfl (b_add.trans (ci e23)))) ?_
        refine wo_step (v := (.i .i64 x23)) (s_pure (p_mv rfl)) ?_
        refine wo_nil ?_
        cases hr
        exact ⟨_, _, rfl, rfl, rfl, gl rfl, gl rfl, gl rfl, gl g16⟩
      · refine w_condF rfl ?_
        refine w_exit ?_
        refine nx_exit ?_
        cases hr
        exact ⟨_, _, rfl, ne_norm_exit, rfl, rfl, gl g3⟩
    · obtain ⟨x3_3, ho⟩ : ∃ z, z = o_1 := ⟨_, rfl⟩
      subst ho
      rintro _ mm t_4 ⟨rfl, rfl, g3⟩
      refine bk_hit ?_
      refine nx_norm ?_
      refine w_seq ?_
      refine w_ops ?_
      refine wo_step (v := (.i .i64 x3_3)) (s_pure (p_mv g3)) ?_
      refine wo_step (v := (.i .i64 x3_3)) (s_pure (p_mv rfl)) ?_
      refine wo_nil ?_
      refine nx_norm ?_
      refine w_ret ?_
      exact qf ret_ok (rt rfl rn) hr

/- dibber/seed.leastPart -/

def g72 (M : Means) (ro : List ABlk) (x0 : Int) (m0 : Mm) : Option (AVal × Heap × Nat × Nat) :=
  bindP (callM M.call m0 60 [(.i .i64 x0)]) fun v5 m_1 =>
  bindO (evP .e (.len false (.c v5))) fun v8 =>
  asI .i64 v8 fun x8 =>
  forceI (wr .i64 (x8 - 1)) fun x9 =>
  bindO (evP .e (.ixS 1 (.c v5) (.c (.i .i64 x9)))) fun v10 =>
  bindO (ldM ro m_1 true 1 v10) fun v11 =>
  asI .i64 v11 fun x11 =>
  finM m0.h.length (tupA [(.i .i64 x11)]) m_1

theorem g72_ok {ro : List ABlk} {O : Caller} {M : Means} (hM : M.Ok ⟨F, O⟩ ro) {x0 h r} (ho : O 72 [(.i .i64 x0)] h = none) (hr : g72 M ro x0 ⟨h, h.length, h.length⟩ = some r) : callX ⟨F, O⟩ ro 72 [(.i .i64 x0)] h = some r := by
  refine callX_of (F := ⟨F, O⟩) (fn := fn72) (g := g72 M ro x0) ho rfl rfl hr ?_
  clear ho
  clear hr
  intro m0 t0 ht hr
  have g0 : t0.get 0 = (.i .i64 x0) := ht 0
  clear ht
  unfold g72 at hr
  refine w_seq ?_
  refine w_ops ?_
  refine wo_step (v := (.i .i64 0)) (s_pure (p_mv rfl)) ?_
  refine wo_nil ?_
  refine nx_norm ?_
  refine w_seq ?_
  refine w_ops ?_
  refine wo_step (v := (.i .i64 x0)) (s_pure (p_mv g0)) ?_
  have hq := bindP_inv hr
  clear hr
  obtain ⟨v5, m_1, e5, hr⟩ := hq
  refine wo_step (v := v5) (s_call (mc rfl mn) (callM_le hM.call e5)) ?_
  refine wo_step (v := v5) (s_pure (p_mv rfl)) ?_
  refine wo_nil ?_
  refine nx_norm ?_
  refine w_seq ?_
  refine w_ops ?_
  refine wo_step (v := v5) (s_pure (p_mv rfl)) ?_
  refine wo_step (v := v5) (s_pure (p_mv rfl)) ?_
  have hq := bindO_inv hr
  clear hr
  obtain ⟨v8, e8, hr⟩ := hq
  have hq := asI_inv hr
  clear hr
  obtain ⟨x8, rfl, hr⟩ := hq
  refine wo_step (v := (.i .i64 x8)) (s_pure (o_len rfl e8)) ?_
  have hq := forceI_inv hr
  clear hr
  obtain ⟨x9, e9, hr⟩ := hq
  refine wo_step (v := (.i .i64 x9)) (s_pure (p_bin rfl rfl (b_sub.trans (ci e9)))) ?_
  have hq := bindO_inv hr
  clear hr
  obtain ⟨v10, e10, hr⟩ := hq
  refine wo_step (v := v10) (s_pure (o_ixS rfl rfl e10)) ?_
  have hq := bindO_inv hr
  clear hr
  obtain ⟨v11, e11, hr⟩ := hq
  have hq := asI_inv hr
  clear hr
  obtain ⟨x11, rfl, hr⟩ := hq
  refine wo_step (v := (.i .i64 x11)) (s_ld rfl e11) ?_
  refine wo_step (v := (.i .i64 x11)) (s_pure (p_mv rfl)) ?_
  refine wo_nil ?_
  refine nx_norm ?_
  refine w_ret ?_
  exact qf ret_ok (rt rfl rn) hr

/- bytes.Repeat -/
abbrev g73_J0 (v0 : AVal) (x26 : Int) (m_2 : Mm) (o : Bool) (m1 : Mm) (t1 : Tr) : Prop :=
  match o with
  | c32 => m_2 = m1 ∧ t1.get 32 = (.b c32) ∧ t1.get 0 = v0 ∧ t1.get 6 = (.i .u64 x26)
abbrev g73_J1 (v0 : AVal) (x35 : Int) (m_2 : Mm) (o : Int) (e : AExit) (m1 : Mm) (t1 : Tr) : Prop :=
  match o with
  | y8 => e = .norm ∧ m_2 = m1 ∧ t1.get 8 = (.i .i64 y8) ∧ t1.get 0 = v0 ∧ t1.get 7 = (.i .i64 x35)
abbrev g73_J2 (v0 : AVal) (x35 : Int) (m_2 : Mm) (o : Int) (e : AExit) (m1 : Mm) (t1 : Tr) : Prop :=
  match o with
  | y8 => e = .norm ∧ m_2 = m1 ∧ t1.get 8 = (.i .i64 y8) ∧ t1.get 0 = v0 ∧ t1.get 7 = (.i .i64 x35)
abbrev g73_I3 (x35 : Int) (x8_1 : Int) (v57 : AVal) (s : Int × Mm) (m1 : Mm) (t1 : Tr) : Prop :=
  match s with
  | (x10, m_6) => m_6 = m1 ∧ t1.get 10 = (.i .i64 x10) ∧ t1.get 7 = (.i .i64 x35) ∧ t1.get 8 = (.i .i64 x8_1) ∧ t1.get 9 = v57
abbrev g73_J3 (x35 : Int) (x8_1 : Int) (v57 : AVal) (o : Mm) (e : AExit) (m1 : Mm) (t1 : Tr) : Prop :=
  match o with
  | mo => e = (.exit 0) ∧ mo = m1 ∧ t1.get 9 = v57
def g73_b3 (M : Means) (ro : List ABlk) (x35 : Int) (x8_1 : Int) (v57 : AVal) (x10 : Int) (m_6 : Mm) : Option ((Int × Mm) ⊕ (Mm)) :=
  forceB (ltI x10 x35) fun c63 =>
  cond c63 (
    forceI (mxV false x10 x8_1) fun x66 =>
    bindO (evP .e (.slS 1 (.c v57) (some (.c (.i .i64 x10))) none none)) fun v70 =>
    bindO (evP .e (.slS 1 (.c v57) none (some (.c (.i .i64 x66))) none)) fun v73 =>
    bindP (stepM ro m_6 (.cpy 1 (.c v70) (.c v73))) fun v74 m_7 =>
    asI .i64 v74 fun x74 =>
    forceI (wr .i64 (x10 + x74)) fun x75 =>
    some (.inl (x75, m_7))) (
    some (.inr m_6))
def g73 (M : Means) (ro : List ABlk) (v0 : AVal) (x1 : Int) (m0 : Mm) : Option (AVal × Heap × Nat × Nat) :=
  forceB (eqI x1 0) fun c13 =>
  cond c13 (
    bindP (stepM ro m0 (.bsl 5 1 [(AVal.i IntKind.u8 0)] 0 [])) fun v14 m_1 =>
    finM m0.h.length (tupA [v14]) m_1) (
    forceB (ltI x1 0) fun c16 =>
    cond c16 (
      none) (
      bindO (evP .e (.len false (.c v0))) fun v20 =>
      asI .i64 v20 fun x20 =>
      forceI (wr .u64 x20) fun x21 =>
      forceI (wr .u64 x1) fun x23 =>
      bindP (callM M.call m0 78 [(.i .u64 x21), (.i .u64 x23)]) fun v24 m_2 =>
      bindO (evP .e (.ext 0 (.c v24))) fun v25 =>
      asI .u64 v25 fun x25 =>
      bindO (evP .e (.ext 1 (.c v24))) fun v26 =>
      asI .u64 v26 fun x26 =>
      forceB (ltI 0 x25) fun c28 =>
      bindO (cond c28 (
        some true) (
        forceB (ltI 9223372036854775807 x26) fun c31 =>
        some c31)) fun c32 =>
      cond c32 (
        none) (
        forceI (wr .i64 x26) fun x35 =>
        bindO (evP .e (.len false (.c v0))) fun v37 =>
        asI .i64 v37 fun x37 =>
        forceB (eqI x37 0) fun c38 =>
        cond c38 (
          bindP (stepM ro m_2 (.bsl 5 1 [(AVal.i IntKind.u8 0)] 0 [])) fun v39 m_3 =>
          finM m0.h.length (tupA [v39]) m_3) (
          forceB (ltI 8192 x35) fun c42 =>
          bindO (α := Int) (
            cond c42 (
              bindO (evP .e (.len false (.c v0))) fun v44 =>
              asI .i64 v44 fun x44 =>
              chk (!eqI x44 (.ofNat 0)) <|
              forceI (wr .i64 (Int.tdiv 8192 x44)) fun x45 =>
              bindO (evP .e (.len false (.c v0))) fun v47 =>
              asI .i64 v47 fun x47 =>
              forceI (wr .i64 (x45 * x47)) fun x48 =>
              forceB (eqI x48 0) fun c50 =>
              bindO (α := Int) (
                cond c50 (
                  bindO (evP .e (.len false (.c v0))) fun v52 =>
                  asI .i64 v52 fun x52 =>
                  some x52) (
                  some x48)) fun x8 =>
              some x8) (
              some x35)) fun x8_1 =>
          bindP (stepM ro m_2 (.mnz 5 (.c (.i .i64 x35)))) fun v54 m_4 =>
          bindO (evP .e (.slS 1 (.c v54) none (some (.c (.i .i64 x35))) (some (.c (.i .i64 x35))))) fun v57 =>
          bindP (stepM ro m_4 (.cpy 1 (.c v57) (.c v0))) fun v60 m_5 =>
          asI .i64 v60 fun x60 =>
          bindO (M.loop (S := Int × Mm) (R := Mm) (fun s => g73_b3 M ro x35 x8_1 v57 s.1 s.2) (x60, m_5)) fun m_8 =>
          finM m0.h.length (tupA [v57]) m_8))))

theorem g73_ok {ro : List ABlk} {O : Caller} {M : Means} (hM : M.Ok ⟨F, O⟩ ro) {v0 x1 h r} (ho : O 73 [v0, (.i .i64 x1)] h = none) (hr : g73 M ro v0 x1 ⟨h, h.length, h.length⟩ = some r) : callX ⟨F, O⟩ ro 73 [v0, (.i .i64 x1)] h = some r := by
  refine callX_of (F := ⟨F, O⟩) (fn := fn73) (g := g73 M ro v0 x1) ho rfl rfl hr ?_
  clear ho
  clear hr
  intro m0 t0 ht hr
  have g0 : t0.get 0 = v0 := ht 0
  have g1 : t0.get 1 = (.i .i64 x1) := ht 1
  clear ht
  unfold g73 at hr
  refine w_seq ?_
  refine w_ops ?_
  refine wo_step (v := AVal.nsl) (s_pure (p_mv rfl)) ?_
  refine wo_nil ?_
  refine nx_norm ?_
  refine w_seq ?_
  refine w_seq ?_
  refine w_ops ?_
  refine wo_step (v := (.i .i64 x1)) (s_pure (p_mv g1)) ?_
  have hq := forceB_inv hr
  clear hr
  obtain ⟨c13, e13, hr⟩ := hq
  refine wo_step (v := (.b c13)) (s_pure (p_bin rfl rfl (b_eql.trans (cb e13)))) ?_
  refine wo_nil ?_
  refine nx_norm ?_
  have hq := cond_inv hr
  clear hr
  rcases hq with ⟨rfl, hr⟩ | ⟨rfl, hr⟩
  · refine w_condT rfl ?_
    refine w_seq ?_
    refine w_ops ?_
    have hq := bindP_inv hr
    clear hr
    obtain ⟨v14, m_1, e14, hr⟩ := hq
    refine wo_step (v := v14) (s_bsl qn e14) ?_
    refine wo_step (v := v14) (s_pure (p_mv rfl)) ?_
    refine wo_nil ?_
    refine nx_norm ?_
    refine w_ret ?_
    refine nx_ret ?_
    exact qf ret_ok (rt rfl rn) hr
  · refine w_condF rfl ?_
    refine w_skip ?_
    refine nx_norm ?_
    refine w_seq ?_
    refine w_seq ?_
    refine w_ops ?_
    refine wo_step (v := (.i .i64 x1)) (s_pure (p_mv g1)) ?_
    have hq := forceB_inv hr
    clear hr
    obtain ⟨c16, e16, hr⟩ := hq
    refine wo_step (v := (.b c16)) (s_pure (p_bin rfl rfl (b_lss.trans (cb e16)))) ?_
    refine wo_nil ?_
    refine nx_norm ?_
    have hq := cond_inv hr
    clear hr
    rcases hq with ⟨rfl, hr⟩ | ⟨rfl, hr⟩
    · refine w_condT rfl ?_
      cases hr
    · refine w_condF rfl ?_
      refine w_skip ?_
      refine nx_norm ?_
      refine w_seq ?_
      refine w_ops ?_
      refine wo_step (v := v0) (s_pure (p_mv g0)) ?_
      have hq := bindO_inv hr
      clear hr
      obtain ⟨v20, e20, hr⟩ := hq
      have hq := asI_inv hr
      clear hr
      obtain ⟨x20, rfl, hr⟩ := hq
      refine wo_step (v := (.i .i64 x20)) (s_pure (o_len rfl e20)) ?_
      have hq := forceI_inv hr
      clear hr
      obtain ⟨x21, e21, hr⟩ := hq
      refine wo_step (v := (.i .u64 x21)) (s_pure ((p_conv rfl).trans (ci e21))) ?_
      refine wo_step (v := (.i .i64 x1)) (s_pure (p_mv g1)) ?_
      have hq := forceI_inv hr
      clear hr
      obtain ⟨x23, e23, hr⟩ := hq
      refine wo_step (v := (.i .u64 x23)) (s_pure ((p_conv rfl).trans (ci e23))) ?_
      have hq := bindP_inv hr
      clear hr
      obtain ⟨v24, m_2, e24, hr⟩ := hq
      refine wo_step (v := v24) (s_call (mc rfl (mc rfl mn)) (callM_le hM.call e24)) ?_
      refine wo_step (v := v24) (s_pure (p_mv rfl)) ?_
      have hq := bindO_inv hr
      clear hr
      obtain ⟨v25, e25, hr⟩ := hq
      have hq := asI_inv hr
      clear hr
      obtain ⟨x25, rfl, hr⟩ := hq
      refine wo_step (v := (.i .u64 x25)) (s_pure (o_ext rfl e25)) ?_
      have hq := bindO_inv hr
      clear hr
      obtain ⟨v26, e26, hr⟩ := hq
      have hq := asI_inv hr
      clear hr
      obtain ⟨x26, rfl, hr⟩ := hq
      refine wo_step (v := (.i .u64 x26)) (s_pure (o_ext rfl e26)) ?_
      refine wo_step (v := (.i .u64 x25)) (s_pure (p_mv rfl)) ?_
      refine wo_step (v := (.i .u64 x26)) (s_pure (p_mv rfl)) ?_
      refine wo_nil ?_
      refine nx_norm ?_
      refine w_seq ?_
      refine w_seq ?_
      refine w_ops ?_
      refine wo_step (v := (.i .u64 x25)) (s_pure (p_mv rfl)) ?_
      have hq := forceB_inv hr
      clear hr
      obtain ⟨c28, e28, hr⟩ := hq
      refine wo_step (v := (.b c28)) (s_pure (p_bin rfl rfl (b_gtr.trans (cb e28)))) ?_
      refine wo_step (v := (.b c28)) (s_pure (p_mv rfl)) ?_
      have hq := bindO_inv hr
      clear hr
      obtain ⟨o, hr, hk⟩ := hq
      refine wo_join 3 (g73_J0 v0 x26 m_2 o) ?_ ?_
      · clear hk
        have hq := cond_inv hr
        clear hr
        rcases hq with ⟨rfl, hr⟩ | ⟨rfl, hr⟩
        · refine wo_skip (v := (.b true)) rfl rfl ?_
          refine wo_skip (v := (.b true)) rfl rfl ?_
          refine wo_step (v := (.b true)) (s_pure (p_pickT rfl rfl)) ?_
          refine wo_nil ?_
          cases hr
          exact ⟨_, _, rfl, rfl, gl rfl, gl g0, gl rfl⟩
        · refine wo_take (v := (.i .u64 x26)) rfl (s_pure (p_mv rfl)) ?_
          have hq := forceB_inv hr
          clear hr
          obtain ⟨c31, e31, hr⟩ := hq
          refine wo_take (v := (.b c31)) rfl (s_pure (p_bin rfl rfl (b_gtr.trans (cb e31)))) ?_
          refine wo_step (v := (.b c31)) (s_pure (p_pickF rfl rfl)) ?_
          refine wo_nil ?_
          cases hr
          exact ⟨_, _, rfl, rfl, gl rfl, gl g0, gl rfl⟩
      · clear hr
        have hr := hk
        clear hk
        obtain ⟨c32, ho⟩ : ∃ z, z = o := ⟨_, rfl⟩
        subst ho
        rintro mm t_1 ⟨rfl, g32, g0, g6⟩
        refine wo_nil ?_
        refine nx_norm ?_
        have hq := cond_inv hr
        clear hr
        rcases hq with ⟨rfl, hr⟩ | ⟨rfl, hr⟩
        · refine w_condT g32 ?_
          cases hr
        · refine w_condF g32 ?_
          refine w_skip ?_
          refine nx_norm ?_
          refine w_seq ?_
          refine w_ops ?_
          refine wo_step (v := (.i .u64 x26)) (s_pure (p_mv g6)) ?_
          have hq := forceI_inv hr
          clear hr
          obtain ⟨x35, e35, hr⟩ := hq
          refine wo_step (v := (.i .i64 x35)) (s_pure ((p_conv rfl).trans (ci e35))) ?_
          refine wo_step (v := (.i .i64 x35)) (s_pure (p_mv rfl)) ?_
          refine wo_nil ?_
          refine nx_norm ?_
          refine w_seq ?_
          refine w_seq ?_
          refine w_ops ?_
          refine wo_step (v := v0) (s_pure (p_mv g0)) ?_
          have hq := bindO_inv hr
          clear hr
          obtain ⟨v37, e37, hr⟩ := hq
          have hq := asI_inv hr
          clear hr
          obtain ⟨x37, rfl, hr⟩ := hq
          refine wo_step (v := (.i .i64 x37)) (s_pure (o_len rfl e37)) ?_
          have hq := forceB_inv hr
          clear hr
          obtain ⟨c38, e38, hr⟩ := hq
          refine wo_step (v := (.b c38)) (s_pure (p_bin rfl rfl (b_eql.trans (cb e38)))) ?_
          refine wo_nil ?_
          refine nx_norm ?_
          have hq := cond_inv hr
          clear hr
          rcases hq with ⟨rfl, hr⟩ | ⟨rfl, hr⟩
          · refine w_condT rfl ?_
            refine w_seq ?_
            refine w_ops ?_
            have hq := bindP_inv hr
            clear hr
            obtain ⟨v39, m_3, e39, hr⟩ := hq
            refine wo_step (v := v39) (s_bsl qn e39) ?_
            refine wo_step (v := v39) (s_pure (p_mv rfl)) ?_
            refine wo_nil ?_
            refine nx_norm ?_
            refine w_ret ?_
            refine nx_ret ?_
            exact qf ret_ok (rt rfl rn) hr
          · refine w_condF rfl ?_
            refine w_skip ?_
            refine nx_norm ?_
            refine w_seq ?_
            refine w_ops ?_
            refine wo_step (v := (.i .i64 x35)) (s_pure (p_mv rfl)) ?_
            refine wo_step (v := (.i .i64 x35)) (s_pure (p_mv rfl)) ?_
            refine wo_nil ?_
            refine nx_norm ?_
            refine w_seq ?_
            refine w_seq ?_
            refine w_ops ?_
            refine wo_step (v := (.i .i64 x35)) (s_pure (p_mv rfl)) ?_
            have hq := forceB_inv hr
            clear hr
            obtain ⟨c42, e42, hr⟩ := hq
            refine wo_step (v := (.b c42)) (s_pure (p_bin rfl rfl (b_gtr.trans (cb e42)))) ?_
            refine wo_nil ?_
            refine nx_norm ?_
            have hq := bindO_inv hr
            clear hr
            obtain ⟨o_1, hr, hk⟩ := hq
            refine jp_mono (J := g73_J1 v0 x35 m_2 o_1) ?_ ?_
            · clear hk
              have hq := cond_inv hr
              clear hr
              rcases hq with ⟨rfl, hr⟩ | ⟨rfl, hr⟩
              · refine w_condT rfl ?_
                refine w_seq ?_
                refine w_ops ?_
                refine wo_step (v := v0) (s_pure (p_mv g0)) ?_
                have hq := bindO_inv hr
                clear hr
                obtain ⟨v44, e44, hr⟩ := hq
                have hq := asI_inv hr
                clear hr
                obtain ⟨x44, rfl, hr⟩ := hq
                refine wo_step (v := (.i .i64 x44)) (s_pure (o_len rfl e44)) ?_
                have hq := chk_inv hr
                clear hr
                obtain ⟨hc45, hr⟩ := hq
                have hq := forceI_inv hr
                clear hr
                obtain ⟨x45, e45, hr⟩ := hq
                refine wo_step (v := (.i .i64 x45)) (s_pure (p_bin rfl rfl ((b_quo hc45).trans (ci e45)))) ?_
                refine wo_step (v := v0) (s_pure (p_mv g0)) ?_
                have hq := bindO_inv hr
                clear hr
                obtain ⟨v47, e47, hr⟩ := hq
                have hq := asI_inv hr
                clear hr
                obtain ⟨x47, rfl, hr⟩ := hq
                refine wo_step (v := (.i .i64 x47)) (s_pure (o_len rfl e47)) ?_
                have hq := forceI_inv hr
                clear hr
                obtain ⟨x48, e48, hr⟩ := hq
                refine wo_step (v := (.i .i64 x48)) (s_pure (p_bin rfl rfl (b_mul.trans (ci e48)))) ?_
                refine wo_step (v := (.i .i64 x48)) (s_pure (p_mv rfl)) ?_
                refine wo_nil ?_
                refine nx_norm ?_
                refine w_seq ?_
                refine w_ops ?_
                refine wo_step (v := (.i .i64 x48)) (s_pure (p_mv rfl)) ?_
                have hq := forceB_inv hr
                clear hr
                obtain ⟨c50, e50, hr⟩ := hq
                refine wo_step (v := (.b c50)) (s_pure (p_bin rfl rfl (b_eql.trans (cb e50)))) ?_
                refine wo_nil ?_
                refine nx_norm ?_
                have hq := bindO_inv hr
                clear hr
                obtain ⟨o_2, hr, hk⟩ := hq
                refine jp_mono (J := g73_J2 v0 x35 m_2 o_2) ?_ ?_
                · clear hk
                  have hq := cond_inv hr
                  clear hr
                  rcases hq with ⟨rfl, hr⟩ | ⟨rfl, hr⟩
                  · refine w_condT rfl ?_
                    refine w_ops ?_
                    refine wo_step (v := v0) (s_pure (p_mv g0)) ?_
                    have hq := bindO_inv hr
                    clear hr
                    obtain ⟨v52, e52, hr⟩ := hq
                    have hq := asI_inv hr
                    clear hr
                    obtain ⟨x52, rfl, hr⟩ := hq
                    refine wo_step (v := (.i .i64 x52)) (s_pure (o_len rfl e52)) ?_
                    refine wo_step (v := (.i .i64 x52)) (s_pure (p_mv rfl)) ?_
                    refine wo_nil ?_
                    cases hr
                    exact ⟨_, _, rfl, rfl, rfl, gl rfl, gl g0, gl rfl⟩
                  · refine w_condF rfl ?_
                    refine w_skip ?_
                    cases hr
                    exact ⟨_, _, rfl, rfl, rfl, gl rfl, gl g0, gl rfl⟩
                · clear hr
                  have hr := hk
                  clear hk
                  obtain ⟨x8, ho⟩ : ∃ z, z = o_2 := ⟨_, rfl⟩
                  subst ho
                  rintro _ mm_1 t_2 ⟨rfl, rfl, g8, g0, g7⟩
                  cases hr
                  exact ⟨_, _, rfl, rfl, rfl, gl g8, gl g0, gl g7⟩
              · refine w_condF rfl ?_
                refine w_skip ?_
                cases hr
                exact ⟨_, _, rfl, rfl, rfl, gl rfl, gl g0, gl rfl⟩
            · clear hr
              have hr := hk
              clear hk
              obtain ⟨x8_1, ho⟩ : ∃ z, z = o_1 := ⟨_, rfl⟩
              subst ho
              rintro _ mm_4 t_3 ⟨rfl, rfl, g8, g0, g7⟩
              refine nx_norm ?_
              refine w_seq ?_
              refine w_ops ?_
              refine wo_step (v := (.i .i64 x35)) (s_pure (p_mv g7)) ?_
              have hq := bindP_inv hr
              clear hr
              obtain ⟨v54, m_4, e54, hr⟩ := hq
              refine wo_step (v := v54) (s_mnz rfl e54) ?_
              refine wo_step (v := (.i .i64 x35)) (s_pure (p_mv g7)) ?_
              refine wo_step (v := (.i .i64 x35)) (s_pure (p_mv g7)) ?_
              have hq := bindO_inv hr
              clear hr
              obtain ⟨v57, e57, hr⟩ := hq
              refine wo_step (v := v57) (s_pure (o_slS rfl on (os rfl) (os rfl) e57)) ?_
              refine wo_step (v := v57) (s_pure (p_mv rfl)) ?_
              refine wo_nil ?_
              refine nx_norm ?_
              refine w_seq ?_
              refine w_ops ?_
              refine wo_step (v := v57) (s_pure (p_mv rfl)) ?_
              refine wo_step (v := v0) (s_pure (p_mv g0)) ?_
              have hq := bindP_inv hr
              clear hr
              obtain ⟨v60, m_5, e60, hr⟩ := hq
              have hq := asI_inv hr
              clear hr
              obtain ⟨x60, rfl, hr⟩ := hq
              refine wo_step (v := (.i .i64 x60)) (s_cpy rfl rfl e60) ?_
              refine wo_step (v := (.i .i64 x60)) (s_pure (p_mv rfl)) ?_
              refine wo_nil ?_
              refine nx_norm ?_
              refine w_seq ?_
              refine w_block ?_
              have hq := bindO_inv hr
              clear hr
              obtain ⟨o_3, hl, hr⟩ := hq
              obtain ⟨n, hl⟩ := hM.loop _ _ _ hl
              refine jp_mono (w_loop _ (g73_I3 x35 x8_1 v57) (g73_J3 x35 x8_1 v57) ?_ n _ _ _ _ hl ⟨rfl, gl rfl, gl g7, gl g8, gl rfl⟩) ?_
              · clear hr hl
                intro s mm_3 t_4 o hi hr
                obtain ⟨x10, m_6⟩ := s
                obtain ⟨rfl, g10, g7, g8, g9⟩ := hi
                unfold g73_b3 at hr
                refine w_seq ?_
                refine w_seq ?_
                refine w_ops ?_
                refine wo_step (v := (.i .i64 x10)) (s_pure (p_mv g10)) ?_
                refine wo_step (v := (.i .i64 x35)) (s_pure (p_mv g7)) ?_
                have hq := forceB_inv hr
                clear hr
                obtain ⟨c63, e63, hr⟩ := hq
                refine wo_step (v := (.b c63)) (s_pure (p_bin rfl rfl (b_lss.trans (cb e63)))) ?_
                refine wo_nil ?_
                refine nx_norm ?_
                have hq := cond_inv hr
                clear hr
                rcases hq with ⟨rfl, hr⟩ | ⟨rfl, hr⟩
                · refine w_condT rfl ?_
                  refine w_skip ?_
                  refine nx_norm ?_
                  refine w_block ?_
                  refine w_seq ?_
                  refine w_ops ?_
                  refine wo_step (v := (.i .i64 x10)) (s_pure (p_mv g10)) ?_
                  refine wo_step (v := (.i .i64 x8_1)) (s_pure (p_mv g8)) ?_
                  have hq := forceI_inv hr
                  clear hr
                  obtain ⟨x66, e66, hr⟩ := hq
                  refine wo_step (v := (.i .i64 x66)) (s_pure ((p_mx rfl rfl).trans (ci e66))) ?_
                  refine wo_step (v := (.i .i64 x66)) (s_pure (p_mv rfl)) ?_
                  refine wo_nil ?_
                  refine nx_norm ?_
                  refine w_ops ?_
                  refine wo_step (v := (.i .i64 x10)) (s_pure (p_mv g10)) ?_
                  refine wo_step (v := v57) (s_pure (p_mv g9)) ?_
                  refine wo_step (v := (.i .i64 x10)) (s_pure (p_mv g10)) ?_
                  have hq := bindO_inv hr
                  clear hr
                  obtain ⟨v70, e70, hr⟩ := hq
                  refine wo_step (v := v70) (s_pure (o_slS rfl (os rfl) on on e70)) ?_
                  refine wo_step (v := v57) (s_pure (p_mv g9)) ?_
                  refine wo_step (v := (.i .i64 x66)) (s_pure (p_mv rfl)) ?_
                  have hq := bindO_inv hr
                  clear hr
                  obtain ⟨v73, e73, hr⟩ := hq
                  refine wo_step (v := v73) (s_pure (o_slS rfl on (os rfl) on e73)) ?_
                  have hq := bindP_inv hr
                  clear hr
                  obtain ⟨v74, m_7, e74, hr⟩ := hq
                  have hq := asI_inv hr
                  clear hr
                  obtain ⟨x74, rfl, hr⟩ := hq
                  refine wo_step (v := (.i .i64 x74)) (s_cpy rfl rfl e74) ?_
                  have hq := forceI_inv hr
                  clear hr
                  obtain ⟨x75, e75, hr⟩ := hq
                  refine wo_step (v := (.i .i64 x75)) (s_pure (p_bin rfl rfl (b_add.trans (ci e75)))) ?_
                  refine wo_step (v := (.i .i64 x75)) (s_pure (p_mv rfl)) ?_
                  refine wo_nil ?_
                  refine bk_norm ?_
                  cases hr
                  exact ⟨_, _, rfl, rfl, rfl, gl rfl, gl g7, gl g8, gl g9⟩
                · refine w_condF rfl ?_
                  refine w_exit ?_
                  refine nx_exit ?_
                  cases hr
                  exact ⟨_, _, rfl, ne_norm_exit, rfl, rfl, gl g9⟩
              · obtain ⟨m_8, ho⟩ : ∃ z, z = o_3 := ⟨_, rfl⟩
                subst ho
                rintro _ mm_2 t_5 ⟨rfl, rfl, g9⟩
                refine bk_hit ?_
                refine nx_norm ?_
                refine w_seq ?_
                refine w_ops ?_
                refine wo_step (v := v57) (s_pure (p_mv g9)) ?_
                refine wo_step (v := v57) (s_pure (p_mv rfl)) ?_
                refine wo_nil ?_
                refine nx_norm ?_
                refine w_ret ?_
                exact qf ret_ok (rt rfl rn) hr

/- math/bits.Mul -/

def g78 (M : Means) (ro : List ABlk) (x0 : Int) (x1 : Int) (m0 : Mm) : Option (AVal × Heap × Nat × Nat) :=
  bindP (callM M.call m0 86 [(.i .u64 x0), (.i .u64 x1)]) fun v25 m_1 =>
  bindO (evP .e (.ext 0 (.c v25))) fun v26 =>
  asI .u64 v26 fun x26 =>
  bindO (evP .e (.ext 1 (.c v25))) fun v27 =>
  asI .u64 v27 fun x27 =>
  finM m0.h.length (tupA [(.i .u64 x26), (.i .u64 x27)]) m_1

theorem g78_ok {ro : List ABlk} {O : Caller} {M : Means} (hM : M.Ok ⟨F, O⟩ ro) {x0 x1 h r} (ho : O 78 [(.i .u64 x0), (.i .u64 x1)] h = none) (hr : g78 M ro x0 x1 ⟨h, h.length, h.length⟩ = some r) : callX ⟨F, O⟩ ro 78 [(.i .u64 x0), (.i .u64 x1)] h = some r := by
  refine callX_of (F := ⟨F, O⟩) (fn := fn78) (g := g78 M ro x0 x1) ho rfl rfl hr ?_
  clear ho
  clear hr
  intro m0 t0 ht hr
  have g0 : t0.get 0 = (.i .u64 x0) := ht 0
  have g1 : t0.get 1 = (.i .u64 x1) := ht 1
  clear ht
  unfold g78 at hr
  refine w_seq ?_
  refine w_ops ?_
  refine wo_step (v := (.i .u64 0)) (s_pure (p_mv rfl)) ?_
  refine wo_step (v := (.i .u64 0)) (s_pure (p_mv rfl)) ?_
  refine wo_nil ?_
  refine nx_norm ?_
  refine w_seq ?_
  refine w_condF rfl ?_
  refine w_skip ?_
  refine nx_norm ?_
  refine w_seq ?_
  refine w_ops ?_
  refine wo_step (v := (.i .u64 x0)) (s_pure (p_mv g0)) ?_
  refine wo_step (v := (.i .u64 x1)) (s_pure (p_mv g1)) ?_
  have hq := bindP_inv hr
  clear hr
  obtain ⟨v25, m_1, e25, hr⟩ := hq
  refine wo_step (v := v25) (s_call (mc rfl (mc rfl mn)) (callM_le hM.call e25)) ?_
  refine wo_step (v := v25) (s_pure (p_mv rfl)) ?_
  have hq := bindO_inv hr
  clear hr
  obtain ⟨v26, e26, hr⟩ := hq
  have hq := asI_inv hr
  clear hr
  obtain ⟨x26, rfl, hr⟩ := hq
  refine wo_step (v := (.i .u64 x26)) (s_pure (o_ext rfl e26)) ?_
  have hq := bindO_inv hr
  clear hr
  obtain ⟨v27, e27, hr⟩ := hq
  have hq := asI_inv hr
  clear hr
  obtain ⟨x27, rfl, hr⟩ := hq
  refine wo_step (v := (.i .u64 x27)) (s_pure (o_ext rfl e27)) ?_
  refine wo_step (v := (.i .u64 x26)) (s_pure (p_mv rfl)) ?_
  refine wo_step (v := (.i .u64 x27)) (s_pure (p_mv rfl)) ?_
  refine wo_nil ?_
  refine nx_norm ?_
  refine w_seq ?_
  refine w_ops ?_
  refine wo_step (v := (.i .u64 x26)) (s_pure (p_mv rfl)) ?_
  refine wo_step (v := (.i .u64 x27)) (s_pure (p_mv rfl)) ?_
  refine wo_step (v := (.i .u64 x26)) (s_pure (p_mv rfl)) ?_
  refine wo_step (v := (.i .u64 x27)) (s_pure (p_mv rfl)) ?_
  refine wo_nil ?_
  refine nx_norm ?_
  refine w_ret ?_
  exact qf ret_ok (rt rfl (rt rfl rn)) hr

/- math/bits.Mul64 -/

def g86 (M : Means) (ro : List ABlk) (x0 : Int) (x1 : Int) (m0 : Mm) : Option (AVal × Heap × Nat × Nat) :=
  forceI (bitV .and .u64 x0 4294967295) fun x15 =>
  forceI (shrV .u64 x0 32) fun x17 =>
  forceI (bitV .and .u64 x1 4294967295) fun x19 =>
  forceI (shrV .u64 x1 32) fun x21 =>
  forceI (wr .u64 (x15 * x19)) fun x24 =>
  forceI (wr .u64 (x17 * x19)) fun x27 =>
  forceI (shrV .u64 x24 32) fun x29 =>
  forceI (wr .u64 (x27 + x29)) fun x30 =>
  forceI (bitV .and .u64 x30 4294967295) fun x32 =>
  forceI (shrV .u64 x30 32) fun x34 =>
  forceI (wr .u64 (x15 * x21)) fun x38 =>
  forceI (wr .u64 (x32 + x38)) fun x39 =>
  forceI (wr .u64 (x17 * x21)) fun x42 =>
  forceI (wr .u64 (x42 + x34)) fun x44 =>
  forceI (shrV .u64 x39 32) fun x46 =>
  forceI (wr .u64 (x44 + x46)) fun x47 =>
  forceI (wr .u64 (x0 * x1)) fun x50 =>
  finM m0.h.length (tupA [(.i .u64 x47), (.i .u64 x50)]) m0

theorem g86_ok {ro : List ABlk} {O : Caller} {M : Means} (hM : M.Ok ⟨F, O⟩ ro) {x0 x1 h r} (ho : O 86 [(.i .u64 x0), (.i .u64 x1)] h = none) (hr : g86 M ro x0 x1 ⟨h, h.length, h.length⟩ = some r) : callX ⟨F, O⟩ ro 86 [(.i .u64 x0), (.i .u64 x1)] h = some r := by
  refine callX_of (F := ⟨F, O⟩) (fn := fn86) (g := g86 M ro x0 x1) ho rfl rfl hr ?_
  clear ho
  clear hr
  intro m0 t0 ht hr
  have g0 : t0.get 0 = (.i .u64 x0) := ht 0
  have g1 : t0.get 1 = (.i .u64 x1) := ht 1
  clear ht
  unfold g86 at hr
  refine w_seq ?_
  refine w_ops ?_
  refine wo_step (v := (.i .u64 0)) (s_pure (p_mv rfl)) ?_
  refine wo_step (v := (.i .u64 0)) (s_pure (p_mv rfl)) ?_
  refine wo_nil ?_
  refine nx_norm ?_
  refine w_seq ?_
  refine w_ops ?_
  refine wo_step (v := (.i .u64 x0)) (s_pure (p_mv g0)) ?_
  have hq := forceI_inv hr
  clear hr
  obtain ⟨x15, e15, hr⟩ := hq
  refine wo_step (v := (.i .u64 x15)) (s_pure (p_bin rfl rfl (b_and.trans (ci e15)))) ?_
  refine wo_step (v := (.i .u64 x15)) (s_pure (p_mv rfl)) ?_
  refine wo_nil ?_
  refine nx_norm ?_
  refine w_seq ?_
  refine w_ops ?_
  refine wo_step (v := (.i .u64 x0)) (s_pure (p_mv g0)) ?_
  have hq := forceI_inv hr
  clear hr
  obtain ⟨x17, e17, hr⟩ := hq
  refine wo_step (v := (.i .u64 x17)) (s_pure (p_bin rfl rfl ((b_shr rfl).trans (ci e17)))) ?_
  refine wo_step (v := (.i .u64 x17)) (s_pure (p_mv rfl)) ?_
  refine wo_nil ?_
  refine nx_norm ?_
  refine w_seq ?_
  refine w_ops ?_
  refine wo_step (v := (.i .u64 x1)) (s_pure (p_mv g1)) ?_
  have hq := forceI_inv hr
  clear hr
  obtain ⟨x19, e19, hr⟩ := hq
  refine wo_step (v := (.i .u64 x19)) (s_pure (p_bin rfl rfl (b_and.trans (ci e19)))) ?_
  refine wo_step (v := (.i .u64 x19)) (s_pure (p_mv rfl)) ?_
  refine wo_nil ?_
  refine nx_norm ?_
  refine w_seq ?_
  refine w_ops ?_
  refine wo_step (v := (.i .u64 x1)) (s_pure (p_mv g1)) ?_
  have hq := forceI_inv hr
  clear hr
  obtain ⟨x21, e21, hr⟩ := hq
  refine wo_step (v := (.i .u64 x21)) (s_pure (p_bin rfl rfl ((b_shr rfl).trans (ci e21)))) ?_
  refine wo_step (v := (.i .u64 x21)) (s_pure (p_mv rfl)) ?_
  refine wo_nil ?_
  refine nx_norm ?_
  refine w_seq ?_
  refine w_ops ?_
  refine wo_step (v := (.i .u64 x15)) (s_pure (p_mv rfl)) ?_
  refine wo_step (v := (.i .u64 x19)) (s_pure (p_mv rfl)) ?_
  have hq := forceI_inv hr
  clear hr
  obtain ⟨x24, e24, hr⟩ := hq
  refine wo_step (v := (.i .u64 x24)) (s_pure (p_bin rfl rfl (b_mul.trans (ci e24)))) ?_
  refine wo_step (v := (.i .u64 x24)) (s_pure (p_mv rfl)) ?_
  refine wo_nil ?_
  refine nx_norm ?_
  refine w_seq ?_
  refine w_ops ?_
  refine wo_step (v := (.i .u64 x17)) (s_pure (p_mv rfl)) ?_
  refine wo_step (v := (.i .u64 x19)) (s_pure (p_mv rfl)) ?_
  have hq := forceI_inv hr
  clear hr
  obtain ⟨x27, e27, hr⟩ := hq
  refine wo_step (v := (.i .u64 x27)) (s_pure (p_bin rfl rfl (b_mul.trans (ci e27)))) ?_
  refine wo_step (v := (.i .u64 x24)) (s_pure (p_mv rfl)) ?_
  have hq := forceI_inv hr
  clear hr
  obtain ⟨x29, e29, hr⟩ := hq
  refine wo_step (v := (.i .u64 x29)) (s_pure (p_bin rfl rfl ((b_shr rfl).trans (ci e29)))) ?_
  have hq := forceI_inv hr
  clear hr
  obtain ⟨x30, e30, hr⟩ := hq
  refine wo_step (v := (.i .u64 x30)) (s_pure (p_bin rfl rfl (b_add.trans (ci e30)))) ?_
  refine wo_step (v := (.i .u64 x30)) (s_pure (p_mv rfl)) ?_
  refine wo_nil ?_
  refine nx_norm ?_
  refine w_seq ?_
  refine w_ops ?_
  refine wo_step (v := (.i .u64 x30)) (s_pure (p_mv rfl)) ?_
  have hq := forceI_inv hr
  clear hr
  obtain ⟨x32, e32, hr⟩ := hq
  refine wo_step (v := (.i .u64 x32)) (s_pure (p_bin rfl rfl (b_and.trans (ci e32)))) ?_
  refine wo_step (v := (.i .u64 x32)) (s_pure (p_mv rfl)) ?_
  refine wo_nil ?_
  refine nx_norm ?_
  refine w_seq ?_
  refine w_ops ?_
  refine wo_step (v := (.i .u64 x30)) (s_pure (p_mv rfl)) ?_
  have hq := forceI_inv hr
  clear hr
  obtain ⟨x34, e34, hr⟩ := hq
  refine wo_step (v := (.i .u64 x34)) (s_pure (p_bin rfl rfl ((b_shr rfl).trans (ci e34)))) ?_
  refine wo_step (v := (.i .u64 x34)) (s_pure (p_mv rfl)) ?_
  refine wo_nil ?_
  refine nx_norm ?_
  refine w_seq ?_
  refine w_ops ?_
  refine wo_step (v := (.i .u64 x32)) (s_pure (p_mv rfl)) ?_
  refine wo_step (v := (.i .u64 x15)) (s_pure (p_mv rfl)) ?_
  refine wo_step (v := (.i .u64 x21)) (s_pure (p_mv rfl)) ?_
  have hq := forceI_inv hr
  clear hr
  obtain ⟨x38, e38, hr⟩ := hq
  refine wo_step (v := (.i .u64 x38)) (s_pure (p_bin rfl rfl (b_mul.trans (ci e38)))) ?_
  have hq := forceI_inv hr
  clear hr
  obtain ⟨x39, e39, hr⟩ := hq
  refine wo_step (v := (.i .u64 x39)) (s_pure (p_bin rfl rfl (b_add.trans (ci e39)))) ?_
  refine wo_step (v := (.i .u64 x39)) (s_pure (p_mv rfl)) ?_
  refine wo_nil ?_
  refine nx_norm ?_
  refine w_seq ?_
  refine w_ops ?_
  refine wo_step (v := (.i .u64 x17)) (s_pure (p_mv rfl)) ?_
  refine wo_step (v := (.i .u64 x21)) (s_pure (p_mv rfl)) ?_
  have hq := forceI_inv hr
  clear hr
  obtain ⟨x42, e42, hr⟩ := hq
  refine wo_step (v := (.i .u64 x42)) (s_pure (p_bin rfl rfl (b_mul.trans (ci e42)))) ?_
  refine wo_step (v := (.i .u64 x34)) (s_pure (p_mv rfl)) ?_
  have hq := forceI_inv hr
  clear hr
  obtain ⟨x44, e44, hr⟩ := hq
  refine wo_step (v := (.i .u64 x44)) (s_pure (p_bin rfl rfl (b_add.trans (ci e44)))) ?_
  refine wo_step (v := (.i .u64 x39)) (s_pure (p_mv rfl)) ?_
  have hq := forceI_inv hr
  clear hr
  obtain ⟨x46, e46, hr⟩ := hq
  refine wo_step (v := (.i .u64 x46)) (s_pure (p_bin rfl rfl ((b_shr rfl).trans (ci e46)))) ?_
  have hq := forceI_inv hr
  clear hr
  obtain ⟨x47, e47, hr⟩ := hq
  refine wo_step (v := (.i .u64 x47)) (s_pure (p_bin rfl rfl (b_add.trans (ci e47)))) ?_
  refine wo_step (v := (.i .u64 x47)) (s_pure (p_mv rfl)) ?_
  refine wo_nil ?_
  refine nx_norm ?_
  refine w_seq ?_
  refine w_ops ?_
  refine wo_step (v := (.i .u64 x0)) (s_pure (p_mv g0)) ?_
  refine wo_step (v := (.i .u64 x1)) (s_pure (p_mv g1)) ?_
  have hq := forceI_inv hr
  clear hr
  obtain ⟨x50, e50, hr⟩ := hq
  refine wo_step (v := (.i .u64 x50)) (s_pure (p_bin rfl rfl (b_mul.trans (ci e50)))) ?_
  refine wo_step (v := (.i .u64 x50)) (s_pure (p_mv rfl)) ?_
  refine wo_nil ?_
  refine nx_norm ?_
  refine w_ret ?_
  exact qf ret_ok (rt rfl (rt rfl rn)) hr

end Go.Proofs.Ytobmcofkcfifkaa.T

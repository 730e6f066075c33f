/- Plain functions, and that the small machine answers as they do. -/
import Derived.Test.YtfohppnelbbepaaVmP
import Derived.Test.YtfohppnelbbepaaVmAE
open Go.Vm
set_option linter.unusedVariables false
namespace Go.Proofs.Ytfohppnelbbepaa.T
open Go
/- dibber/dibberlaw03.VineOrders -/
abbrev g12_J0 (m_4 : Mm) (o : Bool) (m1 : Mm) (t1 : Tr) : Prop :=
 match o with
 | c47 => m_4 = m1 ∧ t1.get 47 = (.b c47)
abbrev g12_J1  (o : Bool × Mm) (m1 : Mm) (t1 : Tr) : Prop :=
 match o with
 | (c50, m_5) => m_5 = m1 ∧ t1.get 50 = (.b c50)
abbrev g12_J2 (v0 : AVal) (s1 : List UInt8) (x2 : Int) (x26 : Int) (x27 : Int) (x33 : Int) (x34 : Int) (m_4 : Mm) (o : Bool) (m1 : Mm) (t1 : Tr) : Prop :=
 match o with
 | c56 => m_4 = m1 ∧ t1.get 56 = (.b c56) ∧ t1.get 0 = v0 ∧ t1.get 1 = (.s s1) ∧ t1.get 2 = (.i .u8 x2) ∧ t1.get 7 = (.i .i64 x26) ∧ t1.get 8 = (.i .i64 x27) ∧ t1.get 10 = (.i .i64 x33) ∧ t1.get 11 = (.i .i64 x34)
abbrev g12_J3 (v0 : AVal) (s1 : List UInt8) (x2 : Int) (x26 : Int) (x27 : Int) (x33 : Int) (x34 : Int) (m_4 : Mm) (o : Bool) (m1 : Mm) (t1 : Tr) : Prop :=
 match o with
 | c63 => m_4 = m1 ∧ t1.get 63 = (.b c63) ∧ t1.get 0 = v0 ∧ t1.get 1 = (.s s1) ∧ t1.get 2 = (.i .u8 x2) ∧ t1.get 7 = (.i .i64 x26) ∧ t1.get 8 = (.i .i64 x27) ∧ t1.get 10 = (.i .i64 x33) ∧ t1.get 11 = (.i .i64 x34)
abbrev g12_J4 (v0 : AVal) (s1 : List UInt8) (x2 : Int) (x26 : Int) (x27 : Int) (x33 : Int) (x34 : Int) (m_4 : Mm) (o : Bool) (m1 : Mm) (t1 : Tr) : Prop :=
 match o with
 | c73 => m_4 = m1 ∧ t1.get 73 = (.b c73) ∧ t1.get 0 = v0 ∧ t1.get 1 = (.s s1) ∧ t1.get 2 = (.i .u8 x2) ∧ t1.get 7 = (.i .i64 x26) ∧ t1.get 8 = (.i .i64 x27) ∧ t1.get 10 = (.i .i64 x33) ∧ t1.get 11 = (.i .i64 x34)
abbrev g12_J5 (v0 : AVal) (s1 : List UInt8) (x2 : Int) (x26 : Int) (x27 : Int) (x33 : Int) (x34 : Int) (m_4 : Mm) (o : Bool) (m1 : Mm) (t1 : Tr) : Prop :=
 match o with
 | c73_1 => m_4 = m1 ∧ t1.get 73 = (.b c73_1) ∧ t1.get 0 = v0 ∧ t1.get 1 = (.s s1) ∧ t1.get 2 = (.i .u8 x2) ∧ t1.get 7 = (.i .i64 x26) ∧ t1.get 8 = (.i .i64 x27) ∧ t1.get 10 = (.i .i64 x33) ∧ t1.get 11 = (.i .i64 x34)
abbrev g12_J6 (v0 : AVal) (s1 : List UInt8) (x2 : Int) (x26 : Int) (x27 : Int) (x33 : Int) (m_4 : Mm) (o : Bool) (m1 : Mm) (t1 : Tr) : Prop :=
 match o with
 | c81 => m_4 = m1 ∧ t1.get 81 = (.b c81) ∧ t1.get 0 = v0 ∧ t1.get 1 = (.s s1) ∧ t1.get 2 = (.i .u8 x2) ∧ t1.get 7 = (.i .i64 x26) ∧ t1.get 8 = (.i .i64 x27) ∧ t1.get 10 = (.i .i64 x33)
abbrev g12_J7 (v0 : AVal) (s1 : List UInt8) (x2 : Int) (x26 : Int) (x27 : Int) (x33 : Int) (m_4 : Mm) (o : Bool) (m1 : Mm) (t1 : Tr) : Prop :=
 match o with
 | c81_1 => m_4 = m1 ∧ t1.get 81 = (.b c81_1) ∧ t1.get 0 = v0 ∧ t1.get 1 = (.s s1) ∧ t1.get 2 = (.i .u8 x2) ∧ t1.get 7 = (.i .i64 x26) ∧ t1.get 8 = (.i .i64 x27) ∧ t1.get 10 = (.i .i64 x33)
abbrev g12_J8 (v0 : AVal) (s1 : List UInt8) (x2 : Int) (x26 : Int) (x27 : Int) (x33 : Int) (m_4 : Mm) (o : Bool) (m1 : Mm) (t1 : Tr) : Prop :=
 match o with
 | c89 => m_4 = m1 ∧ t1.get 89 = (.b c89) ∧ t1.get 0 = v0 ∧ t1.get 1 = (.s s1) ∧ t1.get 2 = (.i .u8 x2) ∧ t1.get 7 = (.i .i64 x26) ∧ t1.get 8 = (.i .i64 x27) ∧ t1.get 10 = (.i .i64 x33)
abbrev g12_J9 (v0 : AVal) (s1 : List UInt8) (x2 : Int) (x26 : Int) (x27 : Int) (x33 : Int) (m_4 : Mm) (o : Bool) (m1 : Mm) (t1 : Tr) : Prop :=
 match o with
 | c89_1 => m_4 = m1 ∧ t1.get 89 = (.b c89_1) ∧ t1.get 0 = v0 ∧ t1.get 1 = (.s s1) ∧ t1.get 2 = (.i .u8 x2) ∧ t1.get 7 = (.i .i64 x26) ∧ t1.get 8 = (.i .i64 x27) ∧ t1.get 10 = (.i .i64 x33)
abbrev g12_J10 (v0 : AVal) (s1 : List UInt8) (x2 : Int) (x26 : Int) (x27 : Int) (x33 : Int) (m_4 : Mm) (o : Bool) (m1 : Mm) (t1 : Tr) : Prop :=
 match o with
 | c103 => m_4 = m1 ∧ t1.get 103 = (.b c103) ∧ t1.get 0 = v0 ∧ t1.get 1 = (.s s1) ∧ t1.get 2 = (.i .u8 x2) ∧ t1.get 7 = (.i .i64 x26) ∧ t1.get 8 = (.i .i64 x27) ∧ t1.get 10 = (.i .i64 x33)
abbrev g12_J11 (v0 : AVal) (s1 : List UInt8) (x2 : Int) (x26 : Int) (x27 : Int) (x33 : Int) (m_4 : Mm) (o : Bool) (m1 : Mm) (t1 : Tr) : Prop :=
 match o with
 | c103_1 => m_4 = m1 ∧ t1.get 103 = (.b c103_1) ∧ t1.get 0 = v0 ∧ t1.get 1 = (.s s1) ∧ t1.get 2 = (.i .u8 x2) ∧ t1.get 7 = (.i .i64 x26) ∧ t1.get 8 = (.i .i64 x27) ∧ t1.get 10 = (.i .i64 x33)
abbrev g12_J12 (v0 : AVal) (s1 : List UInt8) (x2 : Int) (x26 : Int) (x27 : Int) (x33 : Int) (m_4 : Mm) (o : Bool) (m1 : Mm) (t1 : Tr) : Prop :=
 match o with
 | c103_2 => m_4 = m1 ∧ t1.get 103 = (.b c103_2) ∧ t1.get 0 = v0 ∧ t1.get 1 = (.s s1) ∧ t1.get 2 = (.i .u8 x2) ∧ t1.get 7 = (.i .i64 x26) ∧ t1.get 8 = (.i .i64 x27) ∧ t1.get 10 = (.i .i64 x33)
abbrev g12_J13  (o : Bool × Mm) (m1 : Mm) (t1 : Tr) : Prop :=
 match o with
 | (c111, m_8) => m_8 = m1 ∧ t1.get 111 = (.b c111)
abbrev g12_J14 (m_10 : Mm) (o : Bool) (m1 : Mm) (t1 : Tr) : Prop :=
 match o with
 | c126 => m_10 = m1 ∧ t1.get 126 = (.b c126)
abbrev g12_J15  (o : Bool × Mm) (m1 : Mm) (t1 : Tr) : Prop :=
 match o with
 | (c129, m_11) => m_11 = m1 ∧ t1.get 129 = (.b c129)
abbrev g12_I16 (x27 : Int) (s : AVal × Int × Mm) (m1 : Mm) (t1 : Tr) : Prop :=
 match s with
 | (v14, x16, m_15) => m_15 = m1 ∧ t1.get 14 = v14 ∧ t1.get 16 = (.i .i64 x16) ∧ t1.get 8 = (.i .i64 x27)
abbrev g12_J16 (x27 : Int) (o : (AVal × Mm)) (e : AExit) (m1 : Mm) (t1 : Tr) : Prop :=
 match o with
 | (y14, mo) => e = (.exit 0) ∧ mo = m1 ∧ t1.get 14 = y14
def g12_b16 (M : Means) (ro : List ABlk) (x27 : Int) (v14 : AVal) (x16 : Int) (m_15 : Mm) : Option ((AVal × Int × Mm) ⊕ ((AVal × Mm))) :=
 qap (ltI x16 x27) fun c147 =>
 cond c147 (
  bindP (callM M.call m_15 45 [v14]) fun v151 m_16 =>
  qax (wr .i64 (x16 + 1)) fun x149 =>
  some (.inl (v151, x149, m_16))) (
  some (.inr (v14, m_15)))
abbrev g12_J17 (v14_1 : AVal) (m_18 : Mm) (o : Bool) (m1 : Mm) (t1 : Tr) : Prop :=
 match o with
 | c164 => m_18 = m1 ∧ t1.get 164 = (.b c164) ∧ t1.get 14 = v14_1
abbrev g12_J18 (m_18 : Mm) (o : Bool) (m1 : Mm) (t1 : Tr) : Prop :=
 match o with
 | c173 => m_18 = m1 ∧ t1.get 173 = (.b c173)
abbrev g12_J19  (o : Bool × Mm) (m1 : Mm) (t1 : Tr) : Prop :=
 match o with
 | (c176, m_19) => m_19 = m1 ∧ t1.get 176 = (.b c176)
def g12 (M : Means) (ro : List ABlk) (v0 : AVal) (s1 : List UInt8) (x2 : Int) (m0 : Mm) : Option (AVal × Heap × Nat × Nat) :=
 bindP (callM M.call m0 15 [v0, (.s s1)]) fun v19 m_1 =>
 asB v19 fun c19 =>
 qap (!c19) fun c20 =>
 cond c20 (
  bindP (callM M.call m_1 16 []) fun v21 m_2 =>
  asB v21 fun c21 =>
  finM m0.h.length (tupA [(.b c21)]) m_2) (
  bindP (callM M.call m_1 28 [v0, (.s s1)]) fun v25 m_3 =>
  bindO (evP .e (.ext 0 (.c v25))) fun v26 =>
  asI .i64 v26 fun x26 =>
  bindO (evP .e (.ext 1 (.c v25))) fun v27 =>
  asI .i64 v27 fun x27 =>
  bindO (evP .e (.ext 2 (.c v25))) fun v28 =>
  asI .i64 v28 fun x28 =>
  bindP (callM M.call m_3 26 [v0, (.s s1)]) fun v32 m_4 =>
  bindO (evP .e (.ext 0 (.c v32))) fun v33 =>
  asI .i64 v33 fun x33 =>
  bindO (evP .e (.ext 1 (.c v32))) fun v34 =>
  asI .i64 v34 fun x34 =>
  qap (!eqI x28 0) fun c36 =>
  cond c36 (
   qap (eqI x28 x34) fun c39 =>
   bindO (cond c39 (
    qax (wr .i64 (x26 + x27)) fun x43 =>
    qax (wr .i64 (x43 + x33)) fun x45 =>
    qap (eqI x45 0) fun c46 =>
    some c46) (
    some false)) fun c47 =>
   bindO (cond c47 (
    bindP (callM M.call m_4 16 []) fun v49 m_6 =>
    asB v49 fun c49 =>
    some (c49, m_6)) (
    some (false, m_4))) fun ⟨c50, m_5⟩ =>
   finM m0.h.length (tupA [(.b c50)]) m_5) (
   qap (ltI x26 0) fun c52 =>
   bindO (cond c52 (
    some true) (
    qap (ltI 3 x26) fun c55 =>
    some c55)) fun c56 =>
   bindO (cond c56 (
    some true) (
    qap (eqI x26 0) fun c59 =>
    qap (eqI x34 0) fun c61 =>
    qap (!(c59 == c61)) fun c62 =>
    some c62)) fun c63 =>
   bindO (cond c63 (
    some true) (
    qap (eqI x34 0) fun c66 =>
    bindO (cond c66 (
     bindO (evP .e (.len false (.c v0))) fun v70 =>
     asI .i64 v70 fun x70 =>
     qap (ltI x70 x33) fun c71 =>
     some c71) (
     some false)) fun c73_1 =>
    some c73_1)) fun c73 =>
   bindO (cond c73 (
    some true) (
    qap (!eqI x34 0) fun c76 =>
    bindO (cond c76 (
     qap (!eqI x34 10) fun c79 =>
     some c79) (
     some false)) fun c81_1 =>
    some c81_1)) fun c81 =>
   bindO (cond c81 (
    some true) (
    qap (!eqI x26 2) fun c84 =>
    bindO (cond c84 (
     qap (!eqI x27 0) fun c87 =>
     some c87) (
     some false)) fun c89_1 =>
    some c89_1)) fun c89 =>
   bindO (cond c89 (
    some true) (
    qap (eqI x26 2) fun c92 =>
    bindO (cond c92 (
     qap (ltI x27 1) fun c95 =>
     bindO (cond c95 (
      some true) (
      bindO (evP .e (.len false (.c v0))) fun v99 =>
      asI .i64 v99 fun x99 =>
      qap (!ltI x27 x99) fun c100 =>
      some c100)) fun c103_2 =>
     some c103_2) (
     some false)) fun c103_1 =>
    some c103_1)) fun c103 =>
   cond c103 (
    finM m0.h.length (tupA [(.b false)]) m_4) (
    qap (eqI x26 3) fun c105 =>
    cond c105 (
     bindP (callM M.call m_4 43 [v0, (.s s1)]) fun v108 m_7 =>
     asB v108 fun c108 =>
     bindO (cond c108 (
      bindP (callM M.call m_7 16 []) fun v110 m_9 =>
      asB v110 fun c110 =>
      some (c110, m_9)) (
      some (false, m_7))) fun ⟨c111, m_8⟩ =>
     finM m0.h.length (tupA [(.b c111)]) m_8) (
     qap (eqI x26 0) fun c113 =>
     cond c113 (
      bindP (callM M.call m_4 19 [v0, (.s s1), (.i .i64 x33)]) fun v118 m_10 =>
      bindO (evP .e (.ext 0 (.c v118))) fun v119 =>
      asI .i64 v119 fun x119 =>
      bindO (evP .e (.ext 1 (.c v118))) fun v120 =>
      asI .i64 v120 fun x120 =>
      qap (eqI x120 0) fun c122 =>
      bindO (cond c122 (
       qap (eqI x119 0) fun c125 =>
       some c125) (
       some false)) fun c126 =>
      bindO (cond c126 (
       bindP (callM M.call m_10 16 []) fun v128 m_12 =>
       asB v128 fun c128 =>
       some (c128, m_12)) (
       some (false, m_10))) fun ⟨c129, m_11⟩ =>
      finM m0.h.length (tupA [(.b c129)]) m_11) (
      qax (Int.tmod x2 60) fun x134 =>
      qax (wr .i64 x134) fun x135 =>
      qax (wr .i64 (6 + x135)) fun x136 =>
      qax (wr .i64 (x27 + 3)) fun x138 =>
      bindP (callM M.call m_4 44 [v0, (.s s1), (.i .i64 x136), (.i .i64 x138)]) fun v139 m_13 =>
      bindO (evP .e (.ext 0 (.c v139))) fun v140 =>
      bindO (evP .e (.ext 1 (.c v139))) fun v141 =>
      asB v141 fun c141 =>
      qap (!c141) fun c143 =>
      cond c143 (
       bindP (callM M.call m_13 16 []) fun v144 m_14 =>
       asB v144 fun c144 =>
       finM m0.h.length (tupA [(.b c144)]) m_14) (
       bindO (M.loop (S := AVal × Int × Mm) (R := (AVal × Mm)) (fun s => g12_b16 M ro x27 s.1 s.2.1 s.2.2) (v140, 0, m_13)) fun ⟨v14_1, m_17⟩ =>
       bindO (some (Mm.base m_17)) fun m_18 =>
       bindO (evP .e (.ixS 1 (.c v14_1) (.c (.i .i64 0)))) fun v153 =>
       bindO (ldM ro m_18 true 1 v153) fun v154 =>
       asI .i64 v154 fun x154 =>
       qap (ltI 0 x154) fun c155 =>
       bindO (cond c155 (
        bindO (evP .e (.ixS 1 (.c v14_1) (.c (.i .i64 0)))) fun v158 =>
        bindO (ldM ro m_18 true 1 v158) fun v159 =>
        asI .i64 v159 fun x159 =>
        bindO (evP .e (.ixS 1 (.c v14_1) (.c (.i .i64 1)))) fun v161 =>
        bindO (ldM ro m_18 true 1 v161) fun v162 =>
        asI .i64 v162 fun x162 =>
        qap (eqI x159 x162) fun c163 =>
        some c163) (
        some false)) fun c164 =>
       bindO (cond c164 (
        bindO (evP .e (.ixS 1 (.c v14_1) (.c (.i .i64 1)))) fun v167 =>
        bindO (ldM ro m_18 true 1 v167) fun v168 =>
        asI .i64 v168 fun x168 =>
        bindO (evP .e (.ixS 1 (.c v14_1) (.c (.i .i64 2)))) fun v170 =>
        bindO (ldM ro m_18 true 1 v170) fun v171 =>
        asI .i64 v171 fun x171 =>
        qap (eqI x168 x171) fun c172 =>
        some c172) (
        some false)) fun c173 =>
       bindO (cond c173 (
        bindP (callM M.call m_18 16 []) fun v175 m_20 =>
        asB v175 fun c175 =>
        some (c175, m_20)) (
        some (false, m_18))) fun ⟨c176, m_19⟩ =>
       bindO (some (Mm.join m_17 m_19)) fun m_21 =>
       finM m0.h.length (tupA [(.b c176)]) m_21))))))
theorem g12_ok {ro : List ABlk} {O : qao} {M : Means} (hM : M.Ok ⟨F, O⟩ ro) {v0 s1 x2 h r} (ho : O 12 [v0, (.s s1), (.i .u8 x2)] h = none) (hr : g12 M ro v0 s1 x2 ⟨h, h.length, h.length⟩ = some r) : callX ⟨F, O⟩ ro 12 [v0, (.s s1), (.i .u8 x2)] h = some r := by
 refine qbc (F := ⟨F, O⟩) (fn := fn12) (g := g12 M ro v0 s1 x2) ho rfl rfl hr ?_
 clear ho
 clear hr
 intro m0 t0 ht hr
 have g0 : t0.get 0 = v0 := ht 0
 have g1 : t0.get 1 = (.s s1) := ht 1
 have g2 : t0.get 2 = (.i .u8 x2) := ht 2
 clear ht
 unfold g12 at hr
 refine w_seq (w_ops (wsp (v := (.b false)) (p_mv rfl) (qac (qab (w_seq (w_seq (w_ops (wsp (p_mv g0) (wsp (p_mv g1) ?_)))))))))
 obtain ⟨v19, m_1, e19, z1⟩ := qaf hr
 obtain ⟨c19, rfl, z2⟩ := qbr z1
 refine qan (qbf (mc rfl (mc rfl mn)) (qaq hM.call e19)) ?_
 obtain ⟨c20, e20, z3⟩ := qad z2
 refine wsp ((p_not rfl).trans (cb e20)) (qac (qab ?_))
 rcases qai z3 with ⟨rfl, z4⟩ | ⟨rfl, z4⟩
 ·refine qas rfl ?_
  refine w_seq (w_ops ?_)
  obtain ⟨v21, m_2, e21, z5⟩ := qaf z4
  obtain ⟨c21, rfl, z6⟩ := qbr z5
  refine qan (qbf mn (qaq hM.call e21)) (wsp (v := (.b c21)) (p_mv rfl) (qac (qab ?_)))
  refine w_ret ?_
  refine qbm ?_
  exact qf qba (rt rfl rn) z6
 ·refine qat rfl ?_
  refine qbb (qab (w_seq (w_ops (wsp (p_mv g0) (wsp (p_mv g1) ?_)))))
  obtain ⟨v25, m_3, e25, z7⟩ := qaf z4
  refine qan (qbf (mc rfl (mc rfl mn)) (qaq hM.call e25)) (wsp (v := v25) (p_mv rfl) ?_)
  obtain ⟨v26, e26, z8⟩ := qaa z7
  obtain ⟨x26, rfl, z9⟩ := qam z8
  refine wsp (o_ext rfl e26) ?_
  obtain ⟨v27, e27, z10⟩ := qaa z9
  obtain ⟨x27, rfl, z11⟩ := qam z10
  refine wsp (o_ext rfl e27) ?_
  obtain ⟨v28, e28, z12⟩ := qaa z11
  obtain ⟨x28, rfl, z13⟩ := qam z12
  refine wsp (o_ext rfl e28) (wsp (v := (.i .i64 x26)) (p_mv rfl) (wsp (v := (.i .i64 x27)) (p_mv rfl) (wsp (v := (.i .i64 x28)) (p_mv rfl) (qac (qab (w_seq (w_ops (wsp (p_mv g0) (wsp (p_mv g1) ?_)))))))))
  obtain ⟨v32, m_4, e32, z14⟩ := qaf z13
  refine qan (qbf (mc rfl (mc rfl mn)) (qaq hM.call e32)) (wsp (v := v32) (p_mv rfl) ?_)
  obtain ⟨v33, e33, z15⟩ := qaa z14
  obtain ⟨x33, rfl, z16⟩ := qam z15
  refine wsp (o_ext rfl e33) ?_
  obtain ⟨v34, e34, z17⟩ := qaa z16
  obtain ⟨x34, rfl, z18⟩ := qam z17
  refine wsp (o_ext rfl e34) (wsp (v := (.i .i64 x33)) (p_mv rfl) (wsp (v := (.i .i64 x34)) (p_mv rfl) (qac (qab (w_seq (w_seq (w_ops (wsp (v := (.i .i64 x28)) (p_mv rfl) ?_))))))))
  obtain ⟨c36, e36, z19⟩ := qad z18
  refine wsp (p_bin rfl rfl (b_neq.trans (cb e36))) (qac (qab ?_))
  rcases qai z19 with ⟨rfl, z20⟩ | ⟨rfl, z20⟩
  ·refine qas rfl ?_
   refine w_seq (w_ops (wsp (v := (.i .i64 x28)) (p_mv rfl) (wsp (v := (.i .i64 x34)) (p_mv rfl) ?_)))
   obtain ⟨c39, e39, z21⟩ := qad z20
   refine wsp (p_bin rfl rfl (b_eql.trans (cb e39))) (wsp (v := (.b c39)) (p_mv rfl) ?_)
   obtain ⟨o, z22, hk⟩ := qaa z21
   refine qbn 7 (g12_J0 m_4 o) ?_ ?_
   ·clear hk
    rcases qai z22 with ⟨rfl, z23⟩ | ⟨rfl, z23⟩
    ·refine qah (v := (.i .i64 x26)) rfl (qag (p_mv rfl)) (qah (v := (.i .i64 x27)) rfl (qag (p_mv rfl)) ?_)
     obtain ⟨x43, e43, z24⟩ := qaj z23
     refine qah (v := (.i .i64 x43)) rfl (qag (p_bin rfl rfl (b_add.trans (ci e43)))) (qah (v := (.i .i64 x33)) rfl (qag (p_mv rfl)) ?_)
     obtain ⟨x45, e45, z25⟩ := qaj z24
     refine qah (v := (.i .i64 x45)) rfl (qag (p_bin rfl rfl (b_add.trans (ci e45)))) ?_
     obtain ⟨c46, e46, z26⟩ := qad z25
     refine qah (v := (.b c46)) rfl (qag (p_bin rfl rfl (b_eql.trans (cb e46)))) (wsp (v := (.b c46)) (qbj rfl rfl) (qac ?_))
     cases z26
     exact ⟨_, _, rfl, rfl, gl rfl⟩
    ·refine qae (v := (.b false)) rfl rfl (qae (v := (.b false)) rfl rfl (qae (v := (.b false)) rfl rfl (qae (v := (.b false)) rfl rfl (qae (v := (.b false)) rfl rfl (qae (v := (.b false)) rfl rfl (wsp (v := (.b false)) (qbd rfl rfl) (qac ?_)))))))
     cases z23
     exact ⟨_, _, rfl, rfl, gl rfl⟩
   ·clear z22
    have hr := hk
    clear hk
    obtain ⟨c47, ho⟩ : ∃ z, z = o := ⟨_, rfl⟩
    subst ho
    rintro mm t_1 ⟨rfl, g47⟩
    refine wsp (p_mv g47) ?_
    obtain ⟨o_1, z27, hk⟩ := qaa hr
    refine qbn 2 (g12_J1  o_1) ?_ ?_
    ·clear hk
     rcases qai z27 with ⟨rfl, z28⟩ | ⟨rfl, z28⟩
     ·obtain ⟨v49, m_6, e49, z29⟩ := qaf z28
      obtain ⟨c49, rfl, z30⟩ := qbr z29
      refine qah (v := (.b c49)) rfl (qbf mn (qaq hM.call e49)) (wsp (v := (.b c49)) (qbj rfl rfl) (qac ?_))
      cases z30
      exact ⟨_, _, rfl, rfl, gl rfl⟩
     ·refine qae (v := (.b false)) rfl rfl (wsp (v := (.b false)) (qbd rfl rfl) (qac ?_))
      cases z28
      exact ⟨_, _, rfl, rfl, gl rfl⟩
    ·clear z27
     have hr := hk
     clear hk
     obtain ⟨c50, m_5⟩ := o_1
     rintro mm_1 t_2 ⟨rfl, g50⟩
     refine wsp (p_mv g50) (qac (qab ?_))
     refine w_ret ?_
     refine qbm ?_
     exact qf qba (rt rfl rn) hr
  ·refine qat rfl ?_
   refine qbb (qab (w_seq (w_seq (w_ops (wsp (v := (.i .i64 x26)) (p_mv rfl) ?_)))))
   obtain ⟨c52, e52, z31⟩ := qad z20
   refine wsp (p_bin rfl rfl (b_lss.trans (cb e52))) (wsp (v := (.b c52)) (p_mv rfl) ?_)
   obtain ⟨o_2, z32, hk⟩ := qaa z31
   refine qbn 3 (g12_J2 v0 s1 x2 x26 x27 x33 x34 m_4 o_2) ?_ ?_
   ·clear hk
    rcases qai z32 with ⟨rfl, z33⟩ | ⟨rfl, z33⟩
    ·refine qae (v := (.b true)) rfl rfl (qae (v := (.b true)) rfl rfl (wsp (v := (.b true)) (qbj rfl rfl) (qac ?_)))
     cases z33
     exact ⟨_, _, rfl, rfl, gl rfl, gl g0, gl g1, gl g2, gl rfl, gl rfl, gl rfl, gl rfl⟩
    ·refine qah (v := (.i .i64 x26)) rfl (qag (p_mv rfl)) ?_
     obtain ⟨c55, e55, z34⟩ := qad z33
     refine qah (v := (.b c55)) rfl (qag (p_bin rfl rfl (b_gtr.trans (cb e55)))) (wsp (v := (.b c55)) (qbd rfl rfl) (qac ?_))
     cases z34
     exact ⟨_, _, rfl, rfl, gl rfl, gl g0, gl g1, gl g2, gl rfl, gl rfl, gl rfl, gl rfl⟩
   ·clear z32
    have hr := hk
    clear hk
    obtain ⟨c56, ho⟩ : ∃ z, z = o_2 := ⟨_, rfl⟩
    subst ho
    rintro mm_2 t_3 ⟨rfl, g56, g0, g1, g2, g7, g8, g10, g11⟩
    refine wsp (p_mv g56) ?_
    obtain ⟨o_3, z35, hk⟩ := qaa hr
    refine qbn 6 (g12_J3 v0 s1 x2 x26 x27 x33 x34 m_4 o_3) ?_ ?_
    ·clear hk
     rcases qai z35 with ⟨rfl, z36⟩ | ⟨rfl, z36⟩
     ·refine qae (v := (.b true)) rfl rfl (qae (v := (.b true)) rfl rfl (qae (v := (.b true)) rfl rfl (qae (v := (.b true)) rfl rfl (qae (v := (.b true)) rfl rfl (wsp (v := (.b true)) (qbj rfl rfl) (qac ?_))))))
      cases z36
      exact ⟨_, _, rfl, rfl, gl rfl, gl g0, gl g1, gl g2, gl g7, gl g8, gl g10, gl g11⟩
     ·refine qah (v := (.i .i64 x26)) rfl (qag (p_mv g7)) ?_
      obtain ⟨c59, e59, z37⟩ := qad z36
      refine qah (v := (.b c59)) rfl (qag (p_bin rfl rfl (b_eql.trans (cb e59)))) (qah (v := (.i .i64 x34)) rfl (qag (p_mv g11)) ?_)
      obtain ⟨c61, e61, z38⟩ := qad z37
      refine qah (v := (.b c61)) rfl (qag (p_bin rfl rfl (b_eql.trans (cb e61)))) ?_
      obtain ⟨c62, e62, z39⟩ := qad z38
      refine qah (v := (.b c62)) rfl (qag (Eq.trans (p_beq rfl rfl) (cb e62))) (wsp (v := (.b c62)) (qbd rfl rfl) (qac ?_))
      cases z39
      exact ⟨_, _, rfl, rfl, gl rfl, gl g0, gl g1, gl g2, gl g7, gl g8, gl g10, gl g11⟩
    ·clear z35
     have hr := hk
     clear hk
     obtain ⟨c63, ho⟩ : ∃ z, z = o_3 := ⟨_, rfl⟩
     subst ho
     rintro mm_3 t_4 ⟨rfl, g63, g0, g1, g2, g7, g8, g10, g11⟩
     refine wsp (p_mv g63) ?_
     obtain ⟨o_4, z40, hk⟩ := qaa hr
     refine qbn 9 (g12_J4 v0 s1 x2 x26 x27 x33 x34 m_4 o_4) ?_ ?_
     ·clear hk
      rcases qai z40 with ⟨rfl, z41⟩ | ⟨rfl, z41⟩
      ·refine qae (v := (.b true)) rfl rfl (qae (v := (.b true)) rfl rfl (qae (v := (.b true)) rfl rfl (qae (v := und) rfl rfl (qae (v := und) rfl rfl (qae (v := und) rfl rfl (qae (v := und) rfl rfl (qae (v := (.b true)) rfl rfl (wsp (v := (.b true)) (qbj rfl rfl) (qac ?_)))))))))
       cases z41
       exact ⟨_, _, rfl, rfl, gl rfl, gl g0, gl g1, gl g2, gl g7, gl g8, gl g10, gl g11⟩
      ·refine qah (v := (.i .i64 x34)) rfl (qag (p_mv g11)) ?_
       obtain ⟨c66, e66, z42⟩ := qad z41
       refine qah (v := (.b c66)) rfl (qag (p_bin rfl rfl (b_eql.trans (cb e66)))) (qah (v := (.b c66)) rfl (qag (p_mv rfl)) ?_)
       obtain ⟨o_5, z43, hk⟩ := qaa z42
       refine qbn 6 (g12_J5 v0 s1 x2 x26 x27 x33 x34 m_4 o_5) ?_ ?_
       ·clear hk
        rcases qai z43 with ⟨rfl, z44⟩ | ⟨rfl, z44⟩
        ·refine qah (v := (.i .i64 x33)) rfl (qag (p_mv g10)) (qah (v := v0) rfl (qag (p_mv g0)) ?_)
         obtain ⟨v70, e70, z45⟩ := qaa z44
         obtain ⟨x70, rfl, z46⟩ := qam z45
         refine qah (v := (.i .i64 x70)) rfl (qag (o_len rfl e70)) ?_
         obtain ⟨c71, e71, z47⟩ := qad z46
         refine qah (v := (.b c71)) rfl (qag (p_bin rfl rfl (b_gtr.trans (cb e71)))) (qah (v := (.b c71)) rfl (qag (qbj rfl rfl)) (wsp (v := (.b c71)) (qbd rfl rfl) (qac ?_)))
         cases z47
         exact ⟨_, _, rfl, rfl, gl rfl, gl g0, gl g1, gl g2, gl g7, gl g8, gl g10, gl g11⟩
        ·refine qae (v := (.b false)) rfl rfl (qae (v := (.b false)) rfl rfl (qae (v := (.b false)) rfl rfl (qae (v := (.b false)) rfl rfl (qah (v := (.b false)) rfl (qag (qbd rfl rfl)) (wsp (v := (.b false)) (qbd rfl rfl) (qac ?_))))))
         cases z44
         exact ⟨_, _, rfl, rfl, gl rfl, gl g0, gl g1, gl g2, gl g7, gl g8, gl g10, gl g11⟩
       ·clear z43
        have hr := hk
        clear hk
        obtain ⟨c73_1, ho⟩ : ∃ z, z = o_5 := ⟨_, rfl⟩
        subst ho
        rintro mm_4 t_5 ⟨rfl, g73, g0, g1, g2, g7, g8, g10, g11⟩
        refine qac ?_
        cases hr
        exact ⟨_, _, rfl, rfl, gl g73, gl g0, gl g1, gl g2, gl g7, gl g8, gl g10, gl g11⟩
     ·clear z40
      have hr := hk
      clear hk
      obtain ⟨c73, ho⟩ : ∃ z, z = o_4 := ⟨_, rfl⟩
      subst ho
      rintro mm_5 t_6 ⟨rfl, g73, g0, g1, g2, g7, g8, g10, g11⟩
      refine wsp (p_mv g73) ?_
      obtain ⟨o_6, z48, hk⟩ := qaa hr
      refine qbn 7 (g12_J6 v0 s1 x2 x26 x27 x33 m_4 o_6) ?_ ?_
      ·clear hk
       rcases qai z48 with ⟨rfl, z49⟩ | ⟨rfl, z49⟩
       ·refine qae (v := (.b true)) rfl rfl (qae (v := (.b true)) rfl rfl (qae (v := (.b true)) rfl rfl (qae (v := und) rfl rfl (qae (v := und) rfl rfl (qae (v := (.b true)) rfl rfl (wsp (v := (.b true)) (qbj rfl rfl) (qac ?_)))))))
        cases z49
        exact ⟨_, _, rfl, rfl, gl rfl, gl g0, gl g1, gl g2, gl g7, gl g8, gl g10⟩
       ·refine qah (v := (.i .i64 x34)) rfl (qag (p_mv g11)) ?_
        obtain ⟨c76, e76, z50⟩ := qad z49
        refine qah (v := (.b c76)) rfl (qag (p_bin rfl rfl (b_neq.trans (cb e76)))) (qah (v := (.b c76)) rfl (qag (p_mv rfl)) ?_)
        obtain ⟨o_7, z51, hk⟩ := qaa z50
        refine qbn 4 (g12_J7 v0 s1 x2 x26 x27 x33 m_4 o_7) ?_ ?_
        ·clear hk
         rcases qai z51 with ⟨rfl, z52⟩ | ⟨rfl, z52⟩
         ·refine qah (v := (.i .i64 x34)) rfl (qag (p_mv g11)) ?_
          obtain ⟨c79, e79, z53⟩ := qad z52
          refine qah (v := (.b c79)) rfl (qag (p_bin rfl rfl (b_neq.trans (cb e79)))) (qah (v := (.b c79)) rfl (qag (qbj rfl rfl)) (wsp (v := (.b c79)) (qbd rfl rfl) (qac ?_)))
          cases z53
          exact ⟨_, _, rfl, rfl, gl rfl, gl g0, gl g1, gl g2, gl g7, gl g8, gl g10⟩
         ·refine qae (v := (.b false)) rfl rfl (qae (v := (.b false)) rfl rfl (qah (v := (.b false)) rfl (qag (qbd rfl rfl)) (wsp (v := (.b false)) (qbd rfl rfl) (qac ?_))))
          cases z52
          exact ⟨_, _, rfl, rfl, gl rfl, gl g0, gl g1, gl g2, gl g7, gl g8, gl g10⟩
        ·clear z51
         have hr := hk
         clear hk
         obtain ⟨c81_1, ho⟩ : ∃ z, z = o_7 := ⟨_, rfl⟩
         subst ho
         rintro mm_6 t_7 ⟨rfl, g81, g0, g1, g2, g7, g8, g10⟩
         refine qac ?_
         cases hr
         exact ⟨_, _, rfl, rfl, gl g81, gl g0, gl g1, gl g2, gl g7, gl g8, gl g10⟩
      ·clear z48
       have hr := hk
       clear hk
       obtain ⟨c81, ho⟩ : ∃ z, z = o_6 := ⟨_, rfl⟩
       subst ho
       rintro mm_7 t_8 ⟨rfl, g81, g0, g1, g2, g7, g8, g10⟩
       refine wsp (p_mv g81) ?_
       obtain ⟨o_8, z54, hk⟩ := qaa hr
       refine qbn 7 (g12_J8 v0 s1 x2 x26 x27 x33 m_4 o_8) ?_ ?_
       ·clear hk
        rcases qai z54 with ⟨rfl, z55⟩ | ⟨rfl, z55⟩
        ·refine qae (v := (.b true)) rfl rfl (qae (v := (.b true)) rfl rfl (qae (v := (.b true)) rfl rfl (qae (v := und) rfl rfl (qae (v := und) rfl rfl (qae (v := (.b true)) rfl rfl (wsp (v := (.b true)) (qbj rfl rfl) (qac ?_)))))))
         cases z55
         exact ⟨_, _, rfl, rfl, gl rfl, gl g0, gl g1, gl g2, gl g7, gl g8, gl g10⟩
        ·refine qah (v := (.i .i64 x26)) rfl (qag (p_mv g7)) ?_
         obtain ⟨c84, e84, z56⟩ := qad z55
         refine qah (v := (.b c84)) rfl (qag (p_bin rfl rfl (b_neq.trans (cb e84)))) (qah (v := (.b c84)) rfl (qag (p_mv rfl)) ?_)
         obtain ⟨o_9, z57, hk⟩ := qaa z56
         refine qbn 4 (g12_J9 v0 s1 x2 x26 x27 x33 m_4 o_9) ?_ ?_
         ·clear hk
          rcases qai z57 with ⟨rfl, z58⟩ | ⟨rfl, z58⟩
          ·refine qah (v := (.i .i64 x27)) rfl (qag (p_mv g8)) ?_
           obtain ⟨c87, e87, z59⟩ := qad z58
           refine qah (v := (.b c87)) rfl (qag (p_bin rfl rfl (b_neq.trans (cb e87)))) (qah (v := (.b c87)) rfl (qag (qbj rfl rfl)) (wsp (v := (.b c87)) (qbd rfl rfl) (qac ?_)))
           cases z59
           exact ⟨_, _, rfl, rfl, gl rfl, gl g0, gl g1, gl g2, gl g7, gl g8, gl g10⟩
          ·refine qae (v := (.b false)) rfl rfl (qae (v := (.b false)) rfl rfl (qah (v := (.b false)) rfl (qag (qbd rfl rfl)) (wsp (v := (.b false)) (qbd rfl rfl) (qac ?_))))
           cases z58
           exact ⟨_, _, rfl, rfl, gl rfl, gl g0, gl g1, gl g2, gl g7, gl g8, gl g10⟩
         ·clear z57
          have hr := hk
          clear hk
          obtain ⟨c89_1, ho⟩ : ∃ z, z = o_9 := ⟨_, rfl⟩
          subst ho
          rintro mm_8 t_9 ⟨rfl, g89, g0, g1, g2, g7, g8, g10⟩
          refine qac ?_
          cases hr
          exact ⟨_, _, rfl, rfl, gl g89, gl g0, gl g1, gl g2, gl g7, gl g8, gl g10⟩
       ·clear z54
        have hr := hk
        clear hk
        obtain ⟨c89, ho⟩ : ∃ z, z = o_8 := ⟨_, rfl⟩
        subst ho
        rintro mm_9 t_10 ⟨rfl, g89, g0, g1, g2, g7, g8, g10⟩
        refine wsp (p_mv g89) ?_
        obtain ⟨o_10, z60, hk⟩ := qaa hr
        refine qbn 13 (g12_J10 v0 s1 x2 x26 x27 x33 m_4 o_10) ?_ ?_
        ·clear hk
         rcases qai z60 with ⟨rfl, z61⟩ | ⟨rfl, z61⟩
         ·refine qae (v := (.b true)) rfl rfl (qae (v := (.b true)) rfl rfl (qae (v := (.b true)) rfl rfl (qae (v := und) rfl rfl (qae (v := und) rfl rfl (qae (v := und) rfl rfl (qae (v := und) rfl rfl (qae (v := und) rfl rfl (qae (v := und) rfl rfl (qae (v := und) rfl rfl (qae (v := und) rfl rfl (qae (v := (.b true)) rfl rfl ?_)))))))))))
          refine wsp (v := (.b true)) (qbj rfl rfl) (qac ?_)
          cases z61
          exact ⟨_, _, rfl, rfl, gl rfl, gl g0, gl g1, gl g2, gl g7, gl g8, gl g10⟩
         ·refine qah (v := (.i .i64 x26)) rfl (qag (p_mv g7)) ?_
          obtain ⟨c92, e92, z62⟩ := qad z61
          refine qah (v := (.b c92)) rfl (qag (p_bin rfl rfl (b_eql.trans (cb e92)))) (qah (v := (.b c92)) rfl (qag (p_mv rfl)) ?_)
          obtain ⟨o_11, z63, hk⟩ := qaa z62
          refine qbn 10 (g12_J11 v0 s1 x2 x26 x27 x33 m_4 o_11) ?_ ?_
          ·clear hk
           rcases qai z63 with ⟨rfl, z64⟩ | ⟨rfl, z64⟩
           ·refine qah (v := (.i .i64 x27)) rfl (qag (p_mv g8)) ?_
            obtain ⟨c95, e95, z65⟩ := qad z64
            refine qah (v := (.b c95)) rfl (qag (p_bin rfl rfl (b_lss.trans (cb e95)))) (qah (v := (.b c95)) rfl (qag (p_mv rfl)) ?_)
            obtain ⟨o_12, z66, hk⟩ := qaa z65
            refine qbn 7 (g12_J12 v0 s1 x2 x26 x27 x33 m_4 o_12) ?_ ?_
            ·clear hk
             rcases qai z66 with ⟨rfl, z67⟩ | ⟨rfl, z67⟩
             ·refine qae (v := (.b true)) rfl rfl (qae (v := (.b true)) rfl rfl (qae (v := (.b true)) rfl rfl (qae (v := (.b true)) rfl rfl (qah (v := (.b true)) rfl (qag (qbj rfl rfl)) (qah (v := (.b true)) rfl (qag (qbj rfl rfl)) (wsp (v := (.b true)) (qbd rfl rfl) (qac ?_)))))))
              cases z67
              exact ⟨_, _, rfl, rfl, gl rfl, gl g0, gl g1, gl g2, gl g7, gl g8, gl g10⟩
             ·refine qah (v := (.i .i64 x27)) rfl (qag (p_mv g8)) (qah (v := v0) rfl (qag (p_mv g0)) ?_)
              obtain ⟨v99, e99, z68⟩ := qaa z67
              obtain ⟨x99, rfl, z69⟩ := qam z68
              refine qah (v := (.i .i64 x99)) rfl (qag (o_len rfl e99)) ?_
              obtain ⟨c100, e100, z70⟩ := qad z69
              refine qah (v := (.b c100)) rfl (qag (p_bin rfl rfl (b_geq.trans (cb e100)))) (qah (v := (.b c100)) rfl (qag (qbd rfl rfl)) (qah (v := (.b c100)) rfl (qag (qbj rfl rfl)) (wsp (v := (.b c100)) (qbd rfl rfl) (qac ?_))))
              cases z70
              exact ⟨_, _, rfl, rfl, gl rfl, gl g0, gl g1, gl g2, gl g7, gl g8, gl g10⟩
            ·clear z66
             have hr := hk
             clear hk
             obtain ⟨c103_2, ho⟩ : ∃ z, z = o_12 := ⟨_, rfl⟩
             subst ho
             rintro mm_10 t_11 ⟨rfl, g103, g0, g1, g2, g7, g8, g10⟩
             refine qac ?_
             cases hr
             exact ⟨_, _, rfl, rfl, gl g103, gl g0, gl g1, gl g2, gl g7, gl g8, gl g10⟩
           ·refine qae (v := (.b false)) rfl rfl (qae (v := (.b false)) rfl rfl (qae (v := (.b false)) rfl rfl (qae (v := und) rfl rfl (qae (v := und) rfl rfl (qae (v := und) rfl rfl (qae (v := und) rfl rfl (qae (v := (.b false)) rfl rfl (qah (v := (.b false)) rfl (qag (qbd rfl rfl)) (wsp (v := (.b false)) (qbd rfl rfl) (qac ?_))))))))))
            cases z64
            exact ⟨_, _, rfl, rfl, gl rfl, gl g0, gl g1, gl g2, gl g7, gl g8, gl g10⟩
          ·clear z63
           have hr := hk
           clear hk
           obtain ⟨c103_1, ho⟩ : ∃ z, z = o_11 := ⟨_, rfl⟩
           subst ho
           rintro mm_11 t_12 ⟨rfl, g103, g0, g1, g2, g7, g8, g10⟩
           refine qac ?_
           cases hr
           exact ⟨_, _, rfl, rfl, gl g103, gl g0, gl g1, gl g2, gl g7, gl g8, gl g10⟩
        ·clear z60
         have hr := hk
         clear hk
         obtain ⟨c103, ho⟩ : ∃ z, z = o_10 := ⟨_, rfl⟩
         subst ho
         rintro mm_12 t_13 ⟨rfl, g103, g0, g1, g2, g7, g8, g10⟩
         refine qac (qab ?_)
         rcases qai hr with ⟨rfl, z71⟩ | ⟨rfl, z71⟩
         ·refine qas g103 ?_
          refine w_seq (w_ops (wsp (v := (.b false)) (p_mv rfl) (qac (qab ?_))))
          refine w_ret ?_
          refine qbm ?_
          exact qf qba (rt rfl rn) z71
         ·refine qat g103 ?_
          refine qbb (qab (w_seq (w_seq (w_ops (wsp (p_mv g7) ?_)))))
          obtain ⟨c105, e105, z72⟩ := qad z71
          refine wsp (p_bin rfl rfl (b_eql.trans (cb e105))) (qac (qab ?_))
          rcases qai z72 with ⟨rfl, z73⟩ | ⟨rfl, z73⟩
          ·refine qas rfl ?_
           refine w_seq (w_ops (wsp (p_mv g0) (wsp (p_mv g1) ?_)))
           obtain ⟨v108, m_7, e108, z74⟩ := qaf z73
           obtain ⟨c108, rfl, z75⟩ := qbr z74
           refine qan (qbf (mc rfl (mc rfl mn)) (qaq hM.call e108)) (wsp (v := (.b c108)) (p_mv rfl) ?_)
           obtain ⟨o_13, z76, hk⟩ := qaa z75
           refine qbn 2 (g12_J13  o_13) ?_ ?_
           ·clear hk
            rcases qai z76 with ⟨rfl, z77⟩ | ⟨rfl, z77⟩
            ·obtain ⟨v110, m_9, e110, z78⟩ := qaf z77
             obtain ⟨c110, rfl, z79⟩ := qbr z78
             refine qah (v := (.b c110)) rfl (qbf mn (qaq hM.call e110)) (wsp (v := (.b c110)) (qbj rfl rfl) (qac ?_))
             cases z79
             exact ⟨_, _, rfl, rfl, gl rfl⟩
            ·refine qae (v := (.b false)) rfl rfl (wsp (v := (.b false)) (qbd rfl rfl) (qac ?_))
             cases z77
             exact ⟨_, _, rfl, rfl, gl rfl⟩
           ·clear z76
            have hr := hk
            clear hk
            obtain ⟨c111, m_8⟩ := o_13
            rintro mm_13 t_14 ⟨rfl, g111⟩
            refine wsp (p_mv g111) (qac (qab ?_))
            refine w_ret ?_
            refine qbm ?_
            exact qf qba (rt rfl rn) hr
          ·refine qat rfl ?_
           refine qbb (qab (w_seq (w_seq (w_ops (wsp (p_mv g7) ?_)))))
           obtain ⟨c113, e113, z80⟩ := qad z73
           refine wsp (p_bin rfl rfl (b_eql.trans (cb e113))) (qac (qab ?_))
           rcases qai z80 with ⟨rfl, z81⟩ | ⟨rfl, z81⟩
           ·refine qas rfl ?_
            refine w_seq (w_ops (wsp (p_mv g0) (wsp (p_mv g1) (wsp (p_mv g10) ?_))))
            obtain ⟨v118, m_10, e118, z82⟩ := qaf z81
            refine qan (qbf (mc rfl (mc rfl (mc rfl mn))) (qaq hM.call e118)) (wsp (v := v118) (p_mv rfl) ?_)
            obtain ⟨v119, e119, z83⟩ := qaa z82
            obtain ⟨x119, rfl, z84⟩ := qam z83
            refine wsp (o_ext rfl e119) ?_
            obtain ⟨v120, e120, z85⟩ := qaa z84
            obtain ⟨x120, rfl, z86⟩ := qam z85
            refine wsp (o_ext rfl e120) (wsp (v := (.i .i64 x119)) (p_mv rfl) (wsp (v := (.i .i64 x120)) (p_mv rfl) (qac (qab (w_seq (w_ops (wsp (v := (.i .i64 x120)) (p_mv rfl) ?_)))))))
            obtain ⟨c122, e122, z87⟩ := qad z86
            refine wsp (p_bin rfl rfl (b_eql.trans (cb e122))) (wsp (v := (.b c122)) (p_mv rfl) ?_)
            obtain ⟨o_14, z88, hk⟩ := qaa z87
            refine qbn 3 (g12_J14 m_10 o_14) ?_ ?_
            ·clear hk
             rcases qai z88 with ⟨rfl, z89⟩ | ⟨rfl, z89⟩
             ·refine qah (v := (.i .i64 x119)) rfl (qag (p_mv rfl)) ?_
              obtain ⟨c125, e125, z90⟩ := qad z89
              refine qah (v := (.b c125)) rfl (qag (p_bin rfl rfl (b_eql.trans (cb e125)))) (wsp (v := (.b c125)) (qbj rfl rfl) (qac ?_))
              cases z90
              exact ⟨_, _, rfl, rfl, gl rfl⟩
             ·refine qae (v := (.b false)) rfl rfl (qae (v := (.b false)) rfl rfl (wsp (v := (.b false)) (qbd rfl rfl) (qac ?_)))
              cases z89
              exact ⟨_, _, rfl, rfl, gl rfl⟩
            ·clear z88
             have hr := hk
             clear hk
             obtain ⟨c126, ho⟩ : ∃ z, z = o_14 := ⟨_, rfl⟩
             subst ho
             rintro mm_14 t_15 ⟨rfl, g126⟩
             refine wsp (p_mv g126) ?_
             obtain ⟨o_15, z91, hk⟩ := qaa hr
             refine qbn 2 (g12_J15  o_15) ?_ ?_
             ·clear hk
              rcases qai z91 with ⟨rfl, z92⟩ | ⟨rfl, z92⟩
              ·obtain ⟨v128, m_12, e128, z93⟩ := qaf z92
               obtain ⟨c128, rfl, z94⟩ := qbr z93
               refine qah (v := (.b c128)) rfl (qbf mn (qaq hM.call e128)) (wsp (v := (.b c128)) (qbj rfl rfl) (qac ?_))
               cases z94
               exact ⟨_, _, rfl, rfl, gl rfl⟩
              ·refine qae (v := (.b false)) rfl rfl (wsp (v := (.b false)) (qbd rfl rfl) (qac ?_))
               cases z92
               exact ⟨_, _, rfl, rfl, gl rfl⟩
             ·clear z91
              have hr := hk
              clear hk
              obtain ⟨c129, m_11⟩ := o_15
              rintro mm_15 t_16 ⟨rfl, g129⟩
              refine wsp (p_mv g129) (qac (qab ?_))
              refine w_ret ?_
              refine qbm ?_
              exact qf qba (rt rfl rn) hr
           ·refine qat rfl ?_
            refine qbb (qab (w_seq (w_ops (wsp (p_mv g0) (wsp (p_mv g1) (wsp (p_mv g2) ?_))))))
            obtain ⟨x134, e134, z95⟩ := qaj z81
            refine wsp (p_bin rfl rfl ((b_rem rfl).trans (ci e134))) ?_
            obtain ⟨x135, e135, z96⟩ := qaj z95
            refine wsp ((qkp rfl).trans (ci e135)) ?_
            obtain ⟨x136, e136, z97⟩ := qaj z96
            refine wsp (p_bin rfl rfl (b_add.trans (ci e136))) (wsp (p_mv g8) ?_)
            obtain ⟨x138, e138, z98⟩ := qaj z97
            refine wsp (p_bin rfl rfl (b_add.trans (ci e138))) ?_
            obtain ⟨v139, m_13, e139, z99⟩ := qaf z98
            refine qan (qbf (mc rfl (mc rfl (mc rfl (mc rfl mn)))) (qaq hM.call e139)) (wsp (v := v139) (p_mv rfl) ?_)
            obtain ⟨v140, e140, z100⟩ := qaa z99
            refine wsp (o_ext rfl e140) ?_
            obtain ⟨v141, e141, z101⟩ := qaa z100
            obtain ⟨c141, rfl, z102⟩ := qbr z101
            refine wsp (o_ext rfl e141) (wsp (v := v140) (p_mv rfl) (wsp (v := (.b c141)) (p_mv rfl) (qac (qab (w_seq (w_seq (w_ops (wsp (v := (.b c141)) (p_mv rfl) ?_))))))))
            obtain ⟨c143, e143, z103⟩ := qad z102
            refine wsp ((p_not rfl).trans (cb e143)) (qac (qab ?_))
            rcases qai z103 with ⟨rfl, z104⟩ | ⟨rfl, z104⟩
            ·refine qas rfl ?_
             refine w_seq (w_ops ?_)
             obtain ⟨v144, m_14, e144, z105⟩ := qaf z104
             obtain ⟨c144, rfl, z106⟩ := qbr z105
             refine qan (qbf mn (qaq hM.call e144)) (wsp (v := (.b c144)) (p_mv rfl) (qac (qab ?_)))
             refine w_ret ?_
             refine qbm ?_
             exact qf qba (rt rfl rn) z106
            ·refine qat rfl ?_
             refine qbb (qab (w_seq (w_seq (w_ops (wsp (v := (.i .i64 0)) (p_mv rfl) (qac (qab ?_)))))))
             refine qau ?_
             obtain ⟨o_16, hl, z107⟩ := qaa z104
             obtain ⟨n, hl⟩ := hM.loop _ _ _ hl
             refine qbl (qbw _ (g12_I16 x27) (g12_J16 x27) ?_ n _ _ _ _ hl ⟨rfl, gl rfl, gl rfl, gl g8⟩) ?_
             ·clear z107 hl
              intro s mm_20 t_17 o hi hr
              obtain ⟨v14, x16, m_15⟩ := s
              obtain ⟨rfl, g14, g16, g8⟩ := hi
              unfold g12_b16 at hr
              refine w_seq (w_seq (w_ops (wsp (p_mv g16) (wsp (p_mv g8) ?_))))
              obtain ⟨c147, e147, z108⟩ := qad hr
              refine wsp (p_bin rfl rfl (b_lss.trans (cb e147))) (qac (qab ?_))
              rcases qai z108 with ⟨rfl, z109⟩ | ⟨rfl, z109⟩
              ·refine qas rfl ?_
               refine qbb (qab (w_seq ?_))
               refine qau ?_
               refine w_ops (wsp (p_mv g14) ?_)
               obtain ⟨v151, m_16, e151, z110⟩ := qaf z109
               refine qan (qbf (mc rfl mn) (qaq hM.call e151)) (wsp (v := v151) (p_mv rfl) (qac ?_))
               refine qbo ?_
               refine qab (w_ops (wsp (p_mv g16) ?_))
               obtain ⟨x149, e149, z111⟩ := qaj z110
               refine wsp (p_bin rfl rfl (b_add.trans (ci e149))) (wsp (v := (.i .i64 x149)) (p_mv rfl) (qac ?_))
               cases z111
               exact ⟨_, _, rfl, rfl, rfl, gl rfl, gl rfl, gl g8⟩
              ·refine qat rfl ?_
               refine qbz ?_
               refine qbp ?_
               cases z109
               exact ⟨_, _, rfl, qar, rfl, rfl, gl g14⟩
             ·obtain ⟨v14_1, m_17⟩ := o_16
              rintro _ mm_19 t_18 ⟨rfl, rfl, g14⟩
              refine qca ?_
              refine qab (w_seq ?_)
              obtain ⟨m_18, ef, z112⟩ := qaa z107
              refine w_flt (af := false) rfl ef ?_
              refine qal (v := v14_1) (f_P rfl (qag (p_mv g14))) ?_
              obtain ⟨v153, e153, z113⟩ := qaa z112
              refine qal (v := v153) (f_P rfl (qag (o_ixS rfl rfl e153))) ?_
              obtain ⟨v154, e154, z114⟩ := qaa z113
              obtain ⟨x154, rfl, z115⟩ := qam z114
              refine qal (v := (.i .i64 x154)) (f_P rfl (s_ld rfl e154)) ?_
              obtain ⟨c155, e155, z116⟩ := qad z115
              refine qal (v := (.b c155)) (f_P rfl (qag (p_bin rfl rfl (b_gtr.trans (cb e155))))) ?_
              refine qal (v := (.b c155)) (f_P rfl (qag (p_mv rfl))) ?_
              obtain ⟨o_17, z117, hk⟩ := qaa z116
              refine wf_join 8 (g12_J17 v14_1 m_18 o_17) ?_ ?_
              ·clear hk
               rcases qai z117 with ⟨rfl, z118⟩ | ⟨rfl, z118⟩
               ·refine qcx (v := v14_1) rfl (f_P rfl (qag (p_mv g14))) ?_
                obtain ⟨v158, e158, z119⟩ := qaa z118
                refine qcx (v := v158) rfl (f_P rfl (qag (o_ixS rfl rfl e158))) ?_
                obtain ⟨v159, e159, z120⟩ := qaa z119
                obtain ⟨x159, rfl, z121⟩ := qam z120
                refine qcx (v := (.i .i64 x159)) rfl (f_P rfl (s_ld rfl e159)) ?_
                refine qcx (v := v14_1) rfl (f_P rfl (qag (p_mv g14))) ?_
                obtain ⟨v161, e161, z122⟩ := qaa z121
                refine qcx (v := v161) rfl (f_P rfl (qag (o_ixS rfl rfl e161))) ?_
                obtain ⟨v162, e162, z123⟩ := qaa z122
                obtain ⟨x162, rfl, z124⟩ := qam z123
                refine qcx (v := (.i .i64 x162)) rfl (f_P rfl (s_ld rfl e162)) ?_
                obtain ⟨c163, e163, z125⟩ := qad z124
                refine qcx (v := (.b c163)) rfl (f_P rfl (qag (p_bin rfl rfl (b_eql.trans (cb e163))))) ?_
                refine qal (v := (.b c163)) (f_P rfl (qag (qbj rfl rfl))) ?_
                refine wf_nil ?_
                cases z125
                exact ⟨_, _, rfl, rfl, gl rfl, gl g14⟩
               ·refine qcy (v := (.b false)) rfl rfl ?_
                refine qcy (v := (.b false)) rfl rfl ?_
                refine qcy (v := (.b false)) rfl rfl ?_
                refine qcy (v := (.b false)) rfl rfl ?_
                refine qcy (v := (.b false)) rfl rfl ?_
                refine qcy (v := (.b false)) rfl rfl ?_
                refine qcy (v := (.b false)) rfl rfl ?_
                refine qal (v := (.b false)) (f_P rfl (qag (qbd rfl rfl))) ?_
                refine wf_nil ?_
                cases z118
                exact ⟨_, _, rfl, rfl, gl rfl, gl g14⟩
              ·clear z117
               have hr := hk
               clear hk
               obtain ⟨c164, ho⟩ : ∃ z, z = o_17 := ⟨_, rfl⟩
               subst ho
               rintro mm_16 t_19 ⟨rfl, g164, g14⟩
               refine qal (v := (.b c164)) (f_P rfl (qag (p_mv g164))) ?_
               obtain ⟨o_18, z126, hk⟩ := qaa hr
               refine wf_join 8 (g12_J18 m_18 o_18) ?_ ?_
               ·clear hk
                rcases qai z126 with ⟨rfl, z127⟩ | ⟨rfl, z127⟩
                ·refine qcx (v := v14_1) rfl (f_P rfl (qag (p_mv g14))) ?_
                 obtain ⟨v167, e167, z128⟩ := qaa z127
                 refine qcx (v := v167) rfl (f_P rfl (qag (o_ixS rfl rfl e167))) ?_
                 obtain ⟨v168, e168, z129⟩ := qaa z128
                 obtain ⟨x168, rfl, z130⟩ := qam z129
                 refine qcx (v := (.i .i64 x168)) rfl (f_P rfl (s_ld rfl e168)) ?_
                 refine qcx (v := v14_1) rfl (f_P rfl (qag (p_mv g14))) ?_
                 obtain ⟨v170, e170, z131⟩ := qaa z130
                 refine qcx (v := v170) rfl (f_P rfl (qag (o_ixS rfl rfl e170))) ?_
                 obtain ⟨v171, e171, z132⟩ := qaa z131
                 obtain ⟨x171, rfl, z133⟩ := qam z132
                 refine qcx (v := (.i .i64 x171)) rfl (f_P rfl (s_ld rfl e171)) ?_
                 obtain ⟨c172, e172, z134⟩ := qad z133
                 refine qcx (v := (.b c172)) rfl (f_P rfl (qag (p_bin rfl rfl (b_eql.trans (cb e172))))) ?_
                 refine qal (v := (.b c172)) (f_P rfl (qag (qbj rfl rfl))) ?_
                 refine wf_nil ?_
                 cases z134
                 exact ⟨_, _, rfl, rfl, gl rfl⟩
                ·refine qcy (v := (.b false)) rfl rfl ?_
                 refine qcy (v := (.b false)) rfl rfl ?_
                 refine qcy (v := (.b false)) rfl rfl ?_
                 refine qcy (v := (.b false)) rfl rfl ?_
                 refine qcy (v := (.b false)) rfl rfl ?_
                 refine qcy (v := (.b false)) rfl rfl ?_
                 refine qcy (v := (.b false)) rfl rfl ?_
                 refine qal (v := (.b false)) (f_P rfl (qag (qbd rfl rfl))) ?_
                 refine wf_nil ?_
                 cases z127
                 exact ⟨_, _, rfl, rfl, gl rfl⟩
               ·clear z126
                have hr := hk
                clear hk
                obtain ⟨c173, ho⟩ : ∃ z, z = o_18 := ⟨_, rfl⟩
                subst ho
                rintro mm_17 t_20 ⟨rfl, g173⟩
                refine qal (v := (.b c173)) (f_P rfl (qag (p_mv g173))) ?_
                obtain ⟨o_19, z135, hk⟩ := qaa hr
                refine wf_join 2 (g12_J19  o_19) ?_ ?_
                ·clear hk
                 rcases qai z135 with ⟨rfl, z136⟩ | ⟨rfl, z136⟩
                 ·obtain ⟨v175, m_20, e175, z137⟩ := qaf z136
                  obtain ⟨c175, rfl, z138⟩ := qbr z137
                  refine qcx (v := (.b c175)) rfl (f_N (qbf mn (qaq hM.call e175))) ?_
                  refine qal (v := (.b c175)) (f_P rfl (qag (qbj rfl rfl))) ?_
                  refine wf_nil ?_
                  cases z138
                  exact ⟨_, _, rfl, rfl, gl rfl⟩
                 ·refine qcy (v := (.b false)) rfl rfl ?_
                  refine qal (v := (.b false)) (f_P rfl (qag (qbd rfl rfl))) ?_
                  refine wf_nil ?_
                  cases z136
                  exact ⟨_, _, rfl, rfl, gl rfl⟩
                ·clear z135
                 have hr := hk
                 clear hk
                 obtain ⟨c176, m_19⟩ := o_19
                 rintro mm_18 t_21 ⟨rfl, g176⟩
                 refine qal (v := (.b c176)) (f_P rfl (qag (p_mv g176))) ?_
                 obtain ⟨m_21, ef_1, z139⟩ := qaa hr
                 refine qja ef_1 ?_
                 refine qab ?_
                 refine w_ret ?_
                 exact qf qba (rt rfl rn) z139
/- dibber/dibberlaw03.few -/
abbrev g15_I0 (v0 : AVal) (s1 : List UInt8) (m0 : Mm) (s : Int) (m1 : Mm) (t1 : Tr) : Prop :=
 match s with
 | x5 => m0 = m1 ∧ t1.get 5 = (.i .i64 x5) ∧ t1.get 0 = v0 ∧ t1.get 1 = (.s s1)
abbrev g15_J0 (v0 : AVal) (s1 : List UInt8) (m0 : Mm) (o : (Unit ⊕ Bool)) (e : AExit) (m1 : Mm) (t1 : Tr) : Prop :=
 match o with
 | (.inl _) => e = (.exit 0) ∧ m0 = m1 ∧ t1.get 1 = (.s s1)
 | (.inr y4) => e = .ret ∧ m0 = m1 ∧ t1.get 4 = (.b y4)
abbrev g15_J1 (v0 : AVal) (s1 : List UInt8) (x5 : Int) (m0 : Mm) (o : Bool) (m1 : Mm) (t1 : Tr) : Prop :=
 match o with
 | c21 => m0 = m1 ∧ t1.get 21 = (.b c21) ∧ t1.get 0 = v0 ∧ t1.get 1 = (.s s1) ∧ t1.get 5 = (.i .i64 x5)
def g15_b0 (M : Means) (ro : List ABlk) (v0 : AVal) (s1 : List UInt8) (m0 : Mm) (x5 : Int) : Option ((Int) ⊕ ((Unit ⊕ Bool))) :=
 bindO (evP .e (.len false (.c v0))) fun v8 =>
 asI .i64 v8 fun x8 =>
 qap (ltI x5 x8) fun c9 =>
 cond c9 (
  qap (!ltI x5 20) fun c13 =>
  bindO (cond c13 (
   some true) (
   bindO (evP .e (.ixS 1 (.c v0) (.c (.i .i64 x5)))) fun v17 =>
   bindO (ldM ro m0 true 1 v17) fun v18 =>
   asS v18 fun s18 =>
   bindO (evP .e (.len true (.c (.s s18)))) fun v19 =>
   asI .i64 v19 fun x19 =>
   qap (ltI 50 x19) fun c20 =>
   some c20)) fun c21 =>
  cond c21 (
   some (.inr (.inr false))) (
   qax (wr .i64 (x5 + 1)) fun x11 =>
   some (.inl x11))) (
  some (.inr (.inl ())))
def g15 (M : Means) (ro : List ABlk) (v0 : AVal) (s1 : List UInt8) (m0 : Mm) : Option (AVal × Heap × Nat × Nat) :=
 bindO (M.loop (S := Int) (R := (Unit ⊕ Bool)) (fun s => g15_b0 M ro v0 s1 m0 s) 0) fun o_1 => match o_1 with
 | (.inl _) =>
  bindO (evP .e (.len true (.c (.s s1)))) fun v23 =>
  asI .i64 v23 fun x23 =>
  qap (!ltI 100 x23) fun c24 =>
  finM m0.h.length (tupA [(.b c24)]) m0
 | (.inr c4) =>
  finM m0.h.length (tupA [(.b c4)]) m0
theorem g15_ok {ro : List ABlk} {O : qao} {M : Means} (hM : M.Ok ⟨F, O⟩ ro) {v0 s1 h r} (ho : O 15 [v0, (.s s1)] h = none) (hr : g15 M ro v0 s1 ⟨h, h.length, h.length⟩ = some r) : callX ⟨F, O⟩ ro 15 [v0, (.s s1)] h = some r := by
 refine qbc (F := ⟨F, O⟩) (fn := fn15) (g := g15 M ro v0 s1) ho rfl rfl hr ?_
 clear ho
 clear hr
 intro m0 t0 ht hr
 have g0 : t0.get 0 = v0 := ht 0
 have g1 : t0.get 1 = (.s s1) := ht 1
 clear ht
 unfold g15 at hr
 refine w_seq (w_ops (wsp (v := (.b false)) (p_mv rfl) (qac (qab (w_seq (w_seq (w_ops (wsp (v := (.i .i64 0)) (p_mv rfl) (qac (qab ?_))))))))))
 refine qau ?_
 obtain ⟨o_1, hl, z1⟩ := qaa hr
 obtain ⟨n, hl⟩ := hM.loop _ _ _ hl
 refine qbl (qbw _ (g15_I0 v0 s1 m0) (g15_J0 v0 s1 m0) ?_ n _ _ _ _ hl ⟨rfl, gl rfl, gl g0, gl g1⟩) ?_
 ·clear z1 hl
  intro s mm_3 t_1 o hi hr
  obtain ⟨x5, hs⟩ : ∃ z, z = s := ⟨_, rfl⟩
  subst hs
  obtain ⟨rfl, g5, g0, g1⟩ := hi
  unfold g15_b0 at hr
  refine w_seq (w_seq (w_ops (wsp (p_mv g5) (wsp (p_mv g0) ?_))))
  obtain ⟨v8, e8, z2⟩ := qaa hr
  obtain ⟨x8, rfl, z3⟩ := qam z2
  refine wsp (o_len rfl e8) ?_
  obtain ⟨c9, e9, z4⟩ := qad z3
  refine wsp (p_bin rfl rfl (b_lss.trans (cb e9))) (qac (qab ?_))
  rcases qai z4 with ⟨rfl, z5⟩ | ⟨rfl, z5⟩
  ·refine qas rfl ?_
   refine qbb (qab (w_seq ?_))
   refine qau ?_
   refine w_seq (w_ops (wsp (p_mv g5) ?_))
   obtain ⟨c13, e13, z6⟩ := qad z5
   refine wsp (p_bin rfl rfl (b_geq.trans (cb e13))) (wsp (v := (.b c13)) (p_mv rfl) ?_)
   obtain ⟨o, z7, hk⟩ := qaa z6
   refine qbn 7 (g15_J1 v0 s1 x5 m0 o) ?_ ?_
   ·clear hk
    rcases qai z7 with ⟨rfl, z8⟩ | ⟨rfl, z8⟩
    ·refine qae (v := (.b true)) rfl rfl (qae (v := (.b true)) rfl rfl (qae (v := (.b true)) rfl rfl (qae (v := (.b true)) rfl rfl (qae (v := (.b true)) rfl rfl (qae (v := (.b true)) rfl rfl (wsp (v := (.b true)) (qbj rfl rfl) (qac ?_)))))))
     cases z8
     exact ⟨_, _, rfl, rfl, gl rfl, gl g0, gl g1, gl g5⟩
    ·refine qah (v := v0) rfl (qag (p_mv g0)) (qah (v := (.i .i64 x5)) rfl (qag (p_mv g5)) ?_)
     obtain ⟨v17, e17, z9⟩ := qaa z8
     refine qah (v := v17) rfl (qag (o_ixS rfl rfl e17)) ?_
     obtain ⟨v18, e18, z10⟩ := qaa z9
     obtain ⟨s18, rfl, z11⟩ := qck z10
     refine qah (v := (.s s18)) rfl (s_ld rfl e18) ?_
     obtain ⟨v19, e19, z12⟩ := qaa z11
     obtain ⟨x19, rfl, z13⟩ := qam z12
     refine qah (v := (.i .i64 x19)) rfl (qag (o_len rfl e19)) ?_
     obtain ⟨c20, e20, z14⟩ := qad z13
     refine qah (v := (.b c20)) rfl (qag (p_bin rfl rfl (b_gtr.trans (cb e20)))) (wsp (v := (.b c20)) (qbd rfl rfl) (qac ?_))
     cases z14
     exact ⟨_, _, rfl, rfl, gl rfl, gl g0, gl g1, gl g5⟩
   ·clear z7
    have hr := hk
    clear hk
    obtain ⟨c21, ho⟩ : ∃ z, z = o := ⟨_, rfl⟩
    subst ho
    rintro mm t_2 ⟨rfl, g21, g0, g1, g5⟩
    refine qac (qab ?_)
    rcases qai hr with ⟨rfl, z15⟩ | ⟨rfl, z15⟩
    ·refine qas g21 ?_
     refine w_seq (w_ops (wsp (v := (.b false)) (p_mv rfl) (qac (qab ?_))))
     refine w_ret ?_
     refine qco ?_
     refine qbm ?_
     cases z15
     exact ⟨_, _, rfl, qcb, rfl, rfl, gl rfl⟩
    ·refine qat g21 ?_
     refine qbb ?_
     refine qbo ?_
     refine qab (w_ops (wsp (p_mv g5) ?_))
     obtain ⟨x11, e11, z16⟩ := qaj z15
     refine wsp (p_bin rfl rfl (b_add.trans (ci e11))) (wsp (v := (.i .i64 x11)) (p_mv rfl) (qac ?_))
     cases z16
     exact ⟨_, _, rfl, rfl, rfl, gl rfl, gl g0, gl g1⟩
  ·refine qat rfl ?_
   refine qbz ?_
   refine qbp ?_
   cases z5
   exact ⟨_, _, rfl, qar, rfl, rfl, gl g1⟩
 ·rcases o_1 with o_1 | o_1
  ·rintro _ mm_1 t_3 ⟨rfl, rfl, g1⟩
   refine qca ?_
   refine qab (w_seq (w_ops (wsp (p_mv g1) ?_)))
   obtain ⟨v23, e23, z17⟩ := qaa z1
   obtain ⟨x23, rfl, z18⟩ := qam z17
   refine wsp (o_len rfl e23) ?_
   obtain ⟨c24, e24, z19⟩ := qad z18
   refine wsp (p_bin rfl rfl (b_leq.trans (cb e24))) (wsp (v := (.b c24)) (p_mv rfl) (qac (qab ?_)))
   refine w_ret ?_
   exact qf qba (rt rfl rn) z19
  ·obtain ⟨c4, ho⟩ : ∃ z, z = o_1 := ⟨_, rfl⟩
   subst ho
   rintro _ mm_2 t_4 ⟨rfl, rfl, g4⟩
   refine qco ?_
   refine qbm ?_
   exact qf qba (rt g4 rn) z1
/- dibber/vine.Long -/

def g19 (M : Means) (ro : List ABlk) (v0 : AVal) (s1 : List UInt8) (x2 : Int) (m0 : Mm) : Option (AVal × Heap × Nat × Nat) :=
 bindP (callM M.call m0 47 [v0, (.s s1), (.i .i64 x2)]) fun v15 m_1 =>
 bindO (evP .e (.ext 0 (.c v15))) fun v16 =>
 bindO (evP .e (.ext 1 (.c v15))) fun v17 =>
 asI .i64 v17 fun x17 =>
 qap (!eqI x17 0) fun c19 =>
 cond c19 (
  finM m0.h.length (tupA [(.i .i64 0), (.i .i64 x17)]) m_1) (
  bindP (callM M.call m_1 48 [v16, (.i .i64 x2)]) fun v23 m_2 =>
  bindO (evP .e (.ixS 1 (.c v23) (.c (.i .i64 x2)))) fun v25 =>
  bindO (ldM ro m_2 true 1 v25) fun v26 =>
  bindP (callM M.call m_2 49 [v26, (.s s1)]) fun v28 m_3 =>
  asI .u64 v28 fun x28 =>
  qap (ltI 1152921504606846976 x28) fun c30 =>
  cond c30 (
   finM m0.h.length (tupA [(.i .i64 0), (.i .i64 4)]) m_3) (
   qax (wr .i64 x28) fun x32 =>
   finM m0.h.length (tupA [(.i .i64 x32), (.i .i64 0)]) m_3))
theorem g19_ok {ro : List ABlk} {O : qao} {M : Means} (hM : M.Ok ⟨F, O⟩ ro) {v0 s1 x2 h r} (ho : O 19 [v0, (.s s1), (.i .i64 x2)] h = none) (hr : g19 M ro v0 s1 x2 ⟨h, h.length, h.length⟩ = some r) : callX ⟨F, O⟩ ro 19 [v0, (.s s1), (.i .i64 x2)] h = some r := by
 refine qbc (F := ⟨F, O⟩) (fn := fn19) (g := g19 M ro v0 s1 x2) ho rfl rfl hr ?_
 clear ho
 clear hr
 intro m0 t0 ht hr
 have g0 : t0.get 0 = v0 := ht 0
 have g1 : t0.get 1 = (.s s1) := ht 1
 have g2 : t0.get 2 = (.i .i64 x2) := ht 2
 clear ht
 unfold g19 at hr
 refine w_seq (w_ops (wsp (v := (.i .i64 0)) (p_mv rfl) (wsp (v := (.i .i64 0)) (p_mv rfl) (qac (qab (w_seq (w_ops (wsp (p_mv g0) (wsp (p_mv g1) (wsp (p_mv g2) ?_))))))))))
 obtain ⟨v15, m_1, e15, z1⟩ := qaf hr
 refine qan (qbf (mc rfl (mc rfl (mc rfl mn))) (qaq hM.call e15)) (wsp (v := v15) (p_mv rfl) ?_)
 obtain ⟨v16, e16, z2⟩ := qaa z1
 refine wsp (o_ext rfl e16) ?_
 obtain ⟨v17, e17, z3⟩ := qaa z2
 obtain ⟨x17, rfl, z4⟩ := qam z3
 refine wsp (o_ext rfl e17) (wsp (v := v16) (p_mv rfl) (wsp (v := (.i .i64 x17)) (p_mv rfl) (qac (qab (w_seq (w_seq (w_ops (wsp (v := (.i .i64 x17)) (p_mv rfl) ?_))))))))
 obtain ⟨c19, e19, z5⟩ := qad z4
 refine wsp (p_bin rfl rfl (b_neq.trans (cb e19))) (qac (qab ?_))
 rcases qai z5 with ⟨rfl, z6⟩ | ⟨rfl, z6⟩
 ·refine qas rfl ?_
  refine w_seq (w_ops (wsp (v := (.i .i64 x17)) (p_mv rfl) (wsp (v := (.i .i64 0)) (p_mv rfl) (wsp (v := (.i .i64 x17)) (p_mv rfl) (qac (qab ?_))))))
  refine w_ret ?_
  refine qbm ?_
  exact qf qba (rt rfl (rt rfl rn)) z6
 ·refine qat rfl ?_
  refine qbb (qab (w_seq (w_ops (wsp (v := v16) (p_mv rfl) (wsp (p_mv g2) ?_)))))
  obtain ⟨v23, m_2, e23, z7⟩ := qaf z6
  refine qan (qbf (mc rfl (mc rfl mn)) (qaq hM.call e23)) (wsp (p_mv g2) ?_)
  obtain ⟨v25, e25, z8⟩ := qaa z7
  refine wsp (o_ixS rfl rfl e25) ?_
  obtain ⟨v26, e26, z9⟩ := qaa z8
  refine qan (s_ld rfl e26) (wsp (p_mv g1) ?_)
  obtain ⟨v28, m_3, e28, z10⟩ := qaf z9
  obtain ⟨x28, rfl, z11⟩ := qam z10
  refine qan (qbf (mc rfl (mc rfl mn)) (qaq hM.call e28)) (wsp (v := (.i .u64 x28)) (p_mv rfl) (qac (qab (w_seq (w_seq (w_ops (wsp (v := (.i .u64 x28)) (p_mv rfl) ?_)))))))
  obtain ⟨c30, e30, z12⟩ := qad z11
  refine wsp (p_bin rfl rfl (b_gtr.trans (cb e30))) (qac (qab ?_))
  rcases qai z12 with ⟨rfl, z13⟩ | ⟨rfl, z13⟩
  ·refine qas rfl ?_
   refine w_seq (w_ops (wsp (v := (.i .i64 0)) (p_mv rfl) (wsp (v := (.i .i64 4)) (p_mv rfl) (qac (qab ?_)))))
   refine w_ret ?_
   refine qbm ?_
   exact qf qba (rt rfl (rt rfl rn)) z13
  ·refine qat rfl ?_
   refine qbb (qab (w_seq (w_ops (wsp (v := (.i .u64 x28)) (p_mv rfl) ?_))))
   obtain ⟨x32, e32, z14⟩ := qaj z13
   refine wsp ((qkp rfl).trans (ci e32)) (wsp (v := (.i .i64 x32)) (p_mv rfl) (wsp (v := (.i .i64 0)) (p_mv rfl) (qac (qab ?_))))
   refine w_ret ?_
   exact qf qba (rt rfl (rt rfl rn)) z14
/- dibber/vine.Parts -/
abbrev g21_I0 (s1 : List UInt8) (x2 : Int) (v22 : AVal) (v29 : AVal) (x31 : Int) (s : Int × Mm) (m1 : Mm) (t1 : Tr) : Prop :=
 match s with
 | (x32, m_3) => m_3 = m1 ∧ t1.get 32 = (.i .i64 x32) ∧ t1.get 1 = (.s s1) ∧ t1.get 2 = (.i .i64 x2) ∧ t1.get 8 = v22 ∧ t1.get 10 = v29 ∧ t1.get 31 = (.i .i64 x31)
abbrev g21_J0 (s1 : List UInt8) (x2 : Int) (v22 : AVal) (v29 : AVal) (x31 : Int) (o : Mm) (e : AExit) (m1 : Mm) (t1 : Tr) : Prop :=
 match o with
 | mo => e = (.exit 0) ∧ mo = m1 ∧ t1.get 1 = (.s s1) ∧ t1.get 2 = (.i .i64 x2) ∧ t1.get 8 = v22 ∧ t1.get 10 = v29
def g21_b0 (M : Means) (ro : List ABlk) (s1 : List UInt8) (x2 : Int) (v22 : AVal) (v29 : AVal) (x31 : Int) (x32 : Int) (m_3 : Mm) : Option ((Int × Mm) ⊕ (Mm)) :=
 qap (ltI x32 x31) fun c33 =>
 cond c33 (
  bindP (stepM ro m_3 (.bsl 61 1 [(AVal.i IntKind.u64 0)] 1 [((0, 1), .c (.i .u64 0))])) fun v37 m_4 =>
  bindO (evP .e (.ixS 1 (.c v29) (.c (.i .i64 x32)))) fun v38 =>
  bindP (stepM ro m_4 (.st 1 (.c v38) (.c v37))) fun vn m_5 =>
  qax (wr .i64 (x32 + 1)) fun x39 =>
  some (.inl (x39, m_5))) (
  some (.inr m_3))
abbrev g21_I1 (s1 : List UInt8) (x2 : Int) (v22 : AVal) (v29 : AVal) (x41 : Int) (s : Int × Mm) (m1 : Mm) (t1 : Tr) : Prop :=
 match s with
 | (x42, m_7) => m_7 = m1 ∧ t1.get 42 = (.i .i64 x42) ∧ t1.get 1 = (.s s1) ∧ t1.get 2 = (.i .i64 x2) ∧ t1.get 8 = v22 ∧ t1.get 10 = v29 ∧ t1.get 41 = (.i .i64 x41)
abbrev g21_J1 (s1 : List UInt8) (x2 : Int) (v22 : AVal) (v29 : AVal) (x41 : Int) (o : Mm) (e : AExit) (m1 : Mm) (t1 : Tr) : Prop :=
 match o with
 | mo => e = (.exit 2) ∧ mo = m1 ∧ t1.get 2 = (.i .i64 x2) ∧ t1.get 8 = v22 ∧ t1.get 10 = v29
def g21_b1 (M : Means) (ro : List ABlk) (s1 : List UInt8) (x2 : Int) (v22 : AVal) (v29 : AVal) (x41 : Int) (x42 : Int) (m_7 : Mm) : Option ((Int × Mm) ⊕ (Mm)) :=
 qap (ltI x42 x41) fun c43 =>
 cond c43 (
  bindO (evP .e (.ixStr (.c (.s s1)) (.c (.i .i64 x42)))) fun v48 =>
  asI .u8 v48 fun x48 =>
  bindP (callM M.call m_7 54 [(.i .u8 x48)]) fun v49 m_8 =>
  asI .i64 v49 fun x49 =>
  bindO (evP .e (.ixS 1 (.c v29) (.c (.i .i64 x49)))) fun v50 =>
  bindO (ldM ro m_8 true 1 v50) fun v51 =>
  bindO (evP .e (.ixS 1 (.c v51) (.c (.i .i64 0)))) fun v52 =>
  bindO (ldM ro m_8 true 1 v52) fun v53 =>
  asI .u64 v53 fun x53 =>
  qax (wr .u64 (x53 + 1)) fun x54 =>
  bindO (evP .e (.ixS 1 (.c v51) (.c (.i .i64 0)))) fun v55 =>
  bindP (stepM ro m_8 (.st 1 (.c v55) (.c (.i .u64 x54)))) fun vn_1 m_9 =>
  qax (wr .i64 (x42 + 1)) fun x56 =>
  some (.inl (x56, m_9))) (
  some (.inr m_7))
abbrev g21_I2 (v22 : AVal) (v58 : AVal) (x2 : Int) (s : AVal × Int × Mm) (m1 : Mm) (t1 : Tr) : Prop :=
 match s with
 | (v10, x60, m_12) => m_12 = m1 ∧ t1.get 10 = v10 ∧ t1.get 60 = (.i .i64 x60) ∧ t1.get 8 = v22 ∧ t1.get 13 = v58 ∧ t1.get 59 = (.i .i64 x2)
abbrev g21_J2 (v22 : AVal) (v58 : AVal) (x2 : Int) (o : (AVal × Mm)) (e : AExit) (m1 : Mm) (t1 : Tr) : Prop :=
 match o with
 | (y10, mo) => e = (.exit 4) ∧ mo = m1 ∧ t1.get 10 = y10 ∧ t1.get 8 = v22
def g21_b2 (M : Means) (ro : List ABlk) (v22 : AVal) (v58 : AVal) (x2 : Int) (v10 : AVal) (x60 : Int) (m_12 : Mm) : Option ((AVal × Int × Mm) ⊕ ((AVal × Mm))) :=
 qap (ltI x60 x2) fun c61 =>
 cond c61 (
  bindP (callM M.call m_12 57 [v58, v10]) fun v64 m_13 =>
  qax (wr .i64 (x60 + 1)) fun x65 =>
  some (.inl (v64, x65, m_13))) (
  some (.inr (v10, m_12)))
abbrev g21_I3 (v68 : AVal) (v10_1 : AVal) (x70 : Int) (s : Int × Mm) (m1 : Mm) (t1 : Tr) : Prop :=
 match s with
 | (x71, m_16) => m_16 = m1 ∧ t1.get 71 = (.i .i64 x71) ∧ t1.get 14 = v68 ∧ t1.get 69 = v10_1 ∧ t1.get 70 = (.i .i64 x70)
abbrev g21_J3 (v68 : AVal) (v10_1 : AVal) (x70 : Int) (o : (Mm ⊕ (AVal × Int × Mm))) (e : AExit) (m1 : Mm) (t1 : Tr) : Prop :=
 match o with
 | (.inl mo) => e = (.exit 6) ∧ mo = m1 ∧ t1.get 14 = v68
 | (.inr (y6, y7, mo)) => e = .ret ∧ mo = m1 ∧ t1.get 6 = y6 ∧ t1.get 7 = (.i .i64 y7)
def g21_b3 (M : Means) (ro : List ABlk) (v68 : AVal) (v10_1 : AVal) (x70 : Int) (x71 : Int) (m_16 : Mm) : Option ((Int × Mm) ⊕ ((Mm ⊕ (AVal × Int × Mm)))) :=
 qap (ltI x71 x70) fun c72 =>
 cond c72 (
  bindO (evP .e (.ixS 1 (.c v10_1) (.c (.i .i64 x71)))) fun v74 =>
  bindO (ldM ro m_16 true 1 v74) fun v75 =>
  bindO (evP .e (.ixS 1 (.c v75) (.c (.i .i64 0)))) fun v77 =>
  bindO (ldM ro m_16 true 1 v77) fun v78 =>
  asI .u64 v78 fun x78 =>
  qap (ltI 1152921504606846976 x78) fun c79 =>
  cond c79 (
   some (.inr (.inr (AVal.nsl, 4, m_16)))) (
   bindO (evP .e (.ixS 1 (.c v75) (.c (.i .i64 0)))) fun v83 =>
   bindO (ldM ro m_16 true 1 v83) fun v84 =>
   asI .u64 v84 fun x84 =>
   qax (wr .i64 x84) fun x85 =>
   bindO (evP .e (.ixS 1 (.c v68) (.c (.i .i64 x71)))) fun v86 =>
   bindP (stepM ro m_16 (.st 1 (.c v86) (.c (.i .i64 x85)))) fun vn_2 m_17 =>
   qax (wr .i64 (x71 + 1)) fun x87 =>
   some (.inl (x87, m_17)))) (
  some (.inr (.inl m_16)))
def g21 (M : Means) (ro : List ABlk) (v0 : AVal) (s1 : List UInt8) (x2 : Int) (m0 : Mm) : Option (AVal × Heap × Nat × Nat) :=
 bindP (callM M.call m0 47 [v0, (.s s1), (.i .i64 x2)]) fun v21 m_1 =>
 bindO (evP .e (.ext 0 (.c v21))) fun v22 =>
 bindO (evP .e (.ext 1 (.c v21))) fun v23 =>
 asI .i64 v23 fun x23 =>
 qap (!eqI x23 0) fun c25 =>
 cond c25 (
  finM m0.h.length (tupA [AVal.nsl, (.i .i64 x23)]) m_1) (
  bindO (evP .e (.len false (.c v22))) fun v28 =>
  asI .i64 v28 fun x28 =>
  bindP (stepM ro m_1 (.mk 63 1 24 [AVal.nsl] (.c (.i .i64 x28)) (.c (.i .i64 x28)))) fun v29 m_2 =>
  bindO (evP .e (.len false (.c v29))) fun v31 =>
  asI .i64 v31 fun x31 =>
  bindO (M.loop (S := Int × Mm) (R := Mm) (fun s => g21_b0 M ro s1 x2 v22 v29 x31 s.1 s.2) (0, m_2)) fun m_6 =>
  bindO (evP .e (.len true (.c (.s s1)))) fun v41 =>
  asI .i64 v41 fun x41 =>
  bindO (M.loop (S := Int × Mm) (R := Mm) (fun s => g21_b1 M ro s1 x2 v22 v29 x41 s.1 s.2) (0, m_6)) fun m_10 =>
  bindP (callM M.call m_10 55 [v22, (AVal.fn 56 [] [])]) fun v58 m_11 =>
  bindO (M.loop (S := AVal × Int × Mm) (R := (AVal × Mm)) (fun s => g21_b2 M ro v22 v58 x2 s.1 s.2.1 s.2.2) (v29, 0, m_11)) fun ⟨v10_1, m_14⟩ =>
  bindO (evP .e (.len false (.c v22))) fun v67 =>
  asI .i64 v67 fun x67 =>
  bindP (stepM ro m_14 (.mk 3 1 8 [(AVal.i IntKind.i64 0)] (.c (.i .i64 x67)) (.c (.i .i64 x67)))) fun v68 m_15 =>
  bindO (evP .e (.len false (.c v10_1))) fun v70 =>
  asI .i64 v70 fun x70 =>
  bindO (M.loop (S := Int × Mm) (R := (Mm ⊕ (AVal × Int × Mm))) (fun s => g21_b3 M ro v68 v10_1 x70 s.1 s.2) (0, m_15)) fun o_3 => match o_3 with
  | (.inl m_18) =>
   finM m0.h.length (tupA [v68, (.i .i64 0)]) m_18
  | (.inr (v6, x7, m_19)) =>
   finM m0.h.length (tupA [v6, (.i .i64 x7)]) m_19)
theorem g21_ok {ro : List ABlk} {O : qao} {M : Means} (hM : M.Ok ⟨F, O⟩ ro) {v0 s1 x2 h r} (ho : O 21 [v0, (.s s1), (.i .i64 x2)] h = none) (hr : g21 M ro v0 s1 x2 ⟨h, h.length, h.length⟩ = some r) : callX ⟨F, O⟩ ro 21 [v0, (.s s1), (.i .i64 x2)] h = some r := by
 refine qbc (F := ⟨F, O⟩) (fn := fn21) (g := g21 M ro v0 s1 x2) ho rfl rfl hr ?_
 clear ho
 clear hr
 intro m0 t0 ht hr
 have g0 : t0.get 0 = v0 := ht 0
 have g1 : t0.get 1 = (.s s1) := ht 1
 have g2 : t0.get 2 = (.i .i64 x2) := ht 2
 clear ht
 unfold g21 at hr
 refine w_seq (w_ops (wsp (v := AVal.nsl) (p_mv rfl) (wsp (v := (.i .i64 0)) (p_mv rfl) (qac (qab (w_seq (w_ops (wsp (p_mv g0) (wsp (p_mv g1) (wsp (p_mv g2) ?_))))))))))
 obtain ⟨v21, m_1, e21, z1⟩ := qaf hr
 refine qan (qbf (mc rfl (mc rfl (mc rfl mn))) (qaq hM.call e21)) (wsp (v := v21) (p_mv rfl) ?_)
 obtain ⟨v22, e22, z2⟩ := qaa z1
 refine wsp (o_ext rfl e22) ?_
 obtain ⟨v23, e23, z3⟩ := qaa z2
 obtain ⟨x23, rfl, z4⟩ := qam z3
 refine wsp (o_ext rfl e23) (wsp (v := v22) (p_mv rfl) (wsp (v := (.i .i64 x23)) (p_mv rfl) (qac (qab (w_seq (w_seq (w_ops (wsp (v := (.i .i64 x23)) (p_mv rfl) ?_))))))))
 obtain ⟨c25, e25, z5⟩ := qad z4
 refine wsp (p_bin rfl rfl (b_neq.trans (cb e25))) (qac (qab ?_))
 rcases qai z5 with ⟨rfl, z6⟩ | ⟨rfl, z6⟩
 ·refine qas rfl ?_
  refine w_seq (w_ops (wsp (v := (.i .i64 x23)) (p_mv rfl) (wsp (v := AVal.nsl) (p_mv rfl) (wsp (v := (.i .i64 x23)) (p_mv rfl) (qac (qab ?_))))))
  refine w_ret ?_
  refine qbm ?_
  exact qf qba (rt rfl (rt rfl rn)) z6
 ·refine qat rfl ?_
  refine qbb (qab (w_seq (w_ops (wsp (v := v22) (p_mv rfl) ?_))))
  obtain ⟨v28, e28, z7⟩ := qaa z6
  obtain ⟨x28, rfl, z8⟩ := qam z7
  refine wsp (o_len rfl e28) ?_
  obtain ⟨v29, m_2, e29, z9⟩ := qaf z8
  refine qan (s_mk rfl rfl e29) (wsp (v := v29) (p_mv rfl) (qac (qab (w_seq (w_seq (w_ops (wsp (v := v29) (p_mv rfl) ?_)))))))
  obtain ⟨v31, e31, z10⟩ := qaa z9
  obtain ⟨x31, rfl, z11⟩ := qam z10
  refine wsp (o_len rfl e31) (wsp (v := (.i .i64 0)) (p_mv rfl) (qac (qab ?_)))
  refine qau ?_
  obtain ⟨o, hl_3, z12⟩ := qaa z11
  obtain ⟨n_3, hl_3⟩ := hM.loop _ _ _ hl_3
  refine qbl (qbw _ (g21_I0 s1 x2 v22 v29 x31) (g21_J0 s1 x2 v22 v29 x31) ?_ n_3 _ _ _ _ hl_3 ⟨rfl, gl rfl, gl g1, gl g2, gl rfl, gl rfl, gl rfl⟩) ?_
  ·clear z12 hl_3
   intro s mm_8 t_1 o hi hr
   obtain ⟨x32, m_3⟩ := s
   obtain ⟨rfl, g32, g1, g2, g8, g10, g31⟩ := hi
   unfold g21_b0 at hr
   refine w_seq (w_ops ?_)
   obtain ⟨c33, e33, z13⟩ := qad hr
   refine wsp (p_bin g32 g31 (b_lss.trans (cb e33))) (qac (qab (w_seq ?_)))
   rcases qai z13 with ⟨rfl, z14⟩ | ⟨rfl, z14⟩
   ·refine qas rfl ?_
    refine qbb (qab (w_seq ?_))
    refine qau ?_
    refine w_seq (w_ops (wsp (p_mv g32) (wsp (v := (.i .i64 x32)) (p_mv rfl) (qac (qab (w_ops (wsp (p_mv g10) (wsp (v := (.i .i64 x32)) (p_mv rfl) ?_))))))))
    obtain ⟨v37, m_4, e37, z15⟩ := qaf z14
    refine qan (s_bsl (qc rfl qn) e37) ?_
    obtain ⟨v38, e38, z16⟩ := qaa z15
    refine wsp (o_ixS rfl rfl e38) ?_
    obtain ⟨vn, m_5, en, z17⟩ := qaf z16
    refine qdq (s_st rfl rfl en) ?_
    refine qac ?_
    refine qbo ?_
    refine qab (w_ops ?_)
    obtain ⟨x39, e39, z18⟩ := qaj z17
    refine wsp (p_bin g32 rfl (b_add.trans (ci e39))) (wsp (v := (.i .i64 x39)) (p_mv rfl) (qac ?_))
    cases z18
    exact ⟨_, _, rfl, rfl, rfl, gl rfl, gl g1, gl g2, gl g8, gl g10, gl g31⟩
   ·refine qat rfl ?_
    refine qbz ?_
    refine qbp ?_
    cases z14
    exact ⟨_, _, rfl, qar, rfl, rfl, gl g1, gl g2, gl g8, gl g10⟩
  ·obtain ⟨m_6, ho⟩ : ∃ z, z = o := ⟨_, rfl⟩
   subst ho
   rintro _ mm_7 t_2 ⟨rfl, rfl, g1, g2, g8, g10⟩
   refine qca ?_
   refine qab (w_seq (w_seq (w_ops (wsp (p_mv g1) ?_))))
   obtain ⟨v41, e41, z19⟩ := qaa z12
   obtain ⟨x41, rfl, z20⟩ := qam z19
   refine wsp (o_len rfl e41) (wsp (v := (.i .i64 0)) (p_mv rfl) (qac (qab ?_)))
   refine qau ?_
   obtain ⟨o_1, hl_2, z21⟩ := qaa z20
   obtain ⟨n_2, hl_2⟩ := hM.loop _ _ _ hl_2
   refine qbl (qbw _ (g21_I1 s1 x2 v22 v29 x41) (g21_J1 s1 x2 v22 v29 x41) ?_ n_2 _ _ _ _ hl_2 ⟨rfl, gl rfl, gl g1, gl g2, gl g8, gl g10, gl rfl⟩) ?_
   ·clear z21 hl_2
    intro s mm_6 t_3 o hi hr
    obtain ⟨x42, m_7⟩ := s
    obtain ⟨rfl, g42, g1, g2, g8, g10, g41⟩ := hi
    unfold g21_b1 at hr
    refine w_seq (w_ops ?_)
    obtain ⟨c43, e43, z22⟩ := qad hr
    refine wsp (p_bin g42 g41 (b_lss.trans (cb e43))) (qac (qab (w_seq ?_)))
    rcases qai z22 with ⟨rfl, z23⟩ | ⟨rfl, z23⟩
    ·refine qas rfl ?_
     refine qbb (qab (w_seq ?_))
     refine qau ?_
     refine w_seq (w_ops (wsp (p_mv g42) (wsp (v := (.i .i64 x42)) (p_mv rfl) (qac (qab (w_ops (wsp (p_mv g10) (wsp (p_mv g1) (wsp (v := (.i .i64 x42)) (p_mv rfl) ?_)))))))))
     obtain ⟨v48, e48, z24⟩ := qaa z23
     obtain ⟨x48, rfl, z25⟩ := qam z24
     refine wsp (qhg rfl rfl e48) ?_
     obtain ⟨v49, m_8, e49, z26⟩ := qaf z25
     obtain ⟨x49, rfl, z27⟩ := qam z26
     refine qan (qbf (mc rfl mn) (qaq hM.call e49)) ?_
     obtain ⟨v50, e50, z28⟩ := qaa z27
     refine wsp (o_ixS rfl rfl e50) ?_
     obtain ⟨v51, e51, z29⟩ := qaa z28
     refine qan (s_ld rfl e51) ?_
     obtain ⟨v52, e52, z30⟩ := qaa z29
     refine wsp (o_ixS rfl rfl e52) ?_
     obtain ⟨v53, e53, z31⟩ := qaa z30
     obtain ⟨x53, rfl, z32⟩ := qam z31
     refine qan (s_ld rfl e53) ?_
     obtain ⟨x54, e54, z33⟩ := qaj z32
     refine wsp (p_bin rfl rfl (b_add.trans (ci e54))) ?_
     obtain ⟨v55, e55, z34⟩ := qaa z33
     refine wsp (o_ixS rfl rfl e55) ?_
     obtain ⟨vn_1, m_9, en_1, z35⟩ := qaf z34
     refine qdq (s_st rfl rfl en_1) ?_
     refine qac ?_
     refine qbo ?_
     refine qab (w_ops ?_)
     obtain ⟨x56, e56, z36⟩ := qaj z35
     refine wsp (p_bin g42 rfl (b_add.trans (ci e56))) (wsp (v := (.i .i64 x56)) (p_mv rfl) (qac ?_))
     cases z36
     exact ⟨_, _, rfl, rfl, rfl, gl rfl, gl g1, gl g2, gl g8, gl g10, gl g41⟩
    ·refine qat rfl ?_
     refine qbz ?_
     refine qbp ?_
     cases z23
     exact ⟨_, _, rfl, qar, rfl, rfl, gl g2, gl g8, gl g10⟩
   ·obtain ⟨m_10, ho⟩ : ∃ z, z = o_1 := ⟨_, rfl⟩
    subst ho
    rintro _ mm_5 t_4 ⟨rfl, rfl, g2, g8, g10⟩
    refine qca ?_
    refine qab (w_seq (w_ops (wsp (p_mv g8) ?_)))
    obtain ⟨v58, m_11, e58, z37⟩ := qaf z21
    refine qan (qbf (mc rfl (mc rfl mn)) (qaq hM.call e58)) (wsp (v := v58) (p_mv rfl) (qac (qab (w_seq (w_seq (w_ops (wsp (p_mv g2) (wsp (v := (.i .i64 0)) (p_mv rfl) (qac (qab ?_))))))))))
    refine qau ?_
    obtain ⟨o_2, hl_1, z38⟩ := qaa z37
    obtain ⟨n_1, hl_1⟩ := hM.loop _ _ _ hl_1
    refine qbl (qbw _ (g21_I2 v22 v58 x2) (g21_J2 v22 v58 x2) ?_ n_1 _ _ _ _ hl_1 ⟨rfl, gl g10, gl rfl, gl g8, gl rfl, gl rfl⟩) ?_
    ·clear z38 hl_1
     intro s mm_4 t_5 o hi hr
     obtain ⟨v10, x60, m_12⟩ := s
     obtain ⟨rfl, g10, g60, g8, g13, g59⟩ := hi
     unfold g21_b2 at hr
     refine w_seq (w_ops ?_)
     obtain ⟨c61, e61, z39⟩ := qad hr
     refine wsp (p_bin g60 g59 (b_lss.trans (cb e61))) (qac (qab (w_seq ?_)))
     rcases qai z39 with ⟨rfl, z40⟩ | ⟨rfl, z40⟩
     ·refine qas rfl ?_
      refine qbb (qab (w_seq ?_))
      refine qau ?_
      refine w_ops (wsp (p_mv g13) (wsp (p_mv g10) ?_))
      obtain ⟨v64, m_13, e64, z41⟩ := qaf z40
      refine qan (qbf (mc rfl (mc rfl mn)) (qaq hM.call e64)) (wsp (v := v64) (p_mv rfl) (qac ?_))
      refine qbo ?_
      refine qab (w_ops ?_)
      obtain ⟨x65, e65, z42⟩ := qaj z41
      refine wsp (p_bin g60 rfl (b_add.trans (ci e65))) (wsp (v := (.i .i64 x65)) (p_mv rfl) (qac ?_))
      cases z42
      exact ⟨_, _, rfl, rfl, rfl, gl rfl, gl rfl, gl g8, gl g13, gl g59⟩
     ·refine qat rfl ?_
      refine qbz ?_
      refine qbp ?_
      cases z40
      exact ⟨_, _, rfl, qar, rfl, rfl, gl g10, gl g8⟩
    ·obtain ⟨v10_1, m_14⟩ := o_2
     rintro _ mm_3 t_6 ⟨rfl, rfl, g10, g8⟩
     refine qca ?_
     refine qab (w_seq (w_ops (wsp (p_mv g8) ?_)))
     obtain ⟨v67, e67, z43⟩ := qaa z38
     obtain ⟨x67, rfl, z44⟩ := qam z43
     refine wsp (o_len rfl e67) ?_
     obtain ⟨v68, m_15, e68, z45⟩ := qaf z44
     refine qan (s_mk rfl rfl e68) (wsp (v := v68) (p_mv rfl) (qac (qab (w_seq (w_seq (w_ops (wsp (p_mv g10) ?_)))))))
     obtain ⟨v70, e70, z46⟩ := qaa z45
     obtain ⟨x70, rfl, z47⟩ := qam z46
     refine wsp (o_len rfl e70) (wsp (v := (.i .i64 0)) (p_mv rfl) (qac (qab ?_)))
     refine qau ?_
     obtain ⟨o_3, hl, z48⟩ := qaa z47
     obtain ⟨n, hl⟩ := hM.loop _ _ _ hl
     refine qbl (qbw _ (g21_I3 v68 v10_1 x70) (g21_J3 v68 v10_1 x70) ?_ n _ _ _ _ hl ⟨rfl, gl rfl, gl rfl, gl rfl, gl rfl⟩) ?_
     ·clear z48 hl
      intro s mm_2 t_7 o hi hr
      obtain ⟨x71, m_16⟩ := s
      obtain ⟨rfl, g71, g14, g69, g70⟩ := hi
      unfold g21_b3 at hr
      refine w_seq (w_ops ?_)
      obtain ⟨c72, e72, z49⟩ := qad hr
      refine wsp (p_bin g71 g70 (b_lss.trans (cb e72))) (qac (qab (w_seq ?_)))
      rcases qai z49 with ⟨rfl, z50⟩ | ⟨rfl, z50⟩
      ·refine qas rfl ?_
       refine qbb (qab (w_seq ?_))
       refine qau ?_
       refine w_seq (w_ops (wsp (p_mv g71) ?_))
       obtain ⟨v74, e74, z51⟩ := qaa z50
       refine wsp (o_ixS g69 g71 e74) ?_
       obtain ⟨v75, e75, z52⟩ := qaa z51
       refine qan (s_ld rfl e75) (wsp (v := (.i .i64 x71)) (p_mv rfl) (wsp (v := v75) (p_mv rfl) (qac (qab (w_seq (w_seq (w_ops (wsp (v := v75) (p_mv rfl) ?_))))))))
       obtain ⟨v77, e77, z53⟩ := qaa z52
       refine wsp (o_ixS rfl rfl e77) ?_
       obtain ⟨v78, e78, z54⟩ := qaa z53
       obtain ⟨x78, rfl, z55⟩ := qam z54
       refine qan (s_ld rfl e78) ?_
       obtain ⟨c79, e79, z56⟩ := qad z55
       refine wsp (p_bin rfl rfl (b_gtr.trans (cb e79))) (qac (qab ?_))
       rcases qai z56 with ⟨rfl, z57⟩ | ⟨rfl, z57⟩
       ·refine qas rfl ?_
        refine w_seq (w_ops (wsp (v := AVal.nsl) (p_mv rfl) (wsp (v := (.i .i64 4)) (p_mv rfl) (qac (qab ?_)))))
        refine w_ret ?_
        refine qbm ?_
        refine qco ?_
        refine qbm ?_
        cases z57
        exact ⟨_, _, rfl, qcb, rfl, rfl, gl rfl, gl rfl⟩
       ·refine qat rfl ?_
        refine qbb (qab (w_ops (wsp (p_mv g14) (wsp (v := (.i .i64 x71)) (p_mv rfl) (wsp (v := v75) (p_mv rfl) ?_)))))
        obtain ⟨v83, e83, z58⟩ := qaa z57
        refine wsp (o_ixS rfl rfl e83) ?_
        obtain ⟨v84, e84, z59⟩ := qaa z58
        obtain ⟨x84, rfl, z60⟩ := qam z59
        refine qan (s_ld rfl e84) ?_
        obtain ⟨x85, e85, z61⟩ := qaj z60
        refine wsp ((qkp rfl).trans (ci e85)) ?_
        obtain ⟨v86, e86, z62⟩ := qaa z61
        refine wsp (o_ixS rfl rfl e86) ?_
        obtain ⟨vn_2, m_17, en_2, z63⟩ := qaf z62
        refine qdq (s_st rfl rfl en_2) ?_
        refine qac ?_
        refine qbo ?_
        refine qab (w_ops ?_)
        obtain ⟨x87, e87, z64⟩ := qaj z63
        refine wsp (p_bin g71 rfl (b_add.trans (ci e87))) (wsp (v := (.i .i64 x87)) (p_mv rfl) (qac ?_))
        cases z64
        exact ⟨_, _, rfl, rfl, rfl, gl rfl, gl g14, gl g69, gl g70⟩
      ·refine qat rfl ?_
       refine qbz ?_
       refine qbp ?_
       cases z50
       exact ⟨_, _, rfl, qar, rfl, rfl, gl g14⟩
     ·rcases o_3 with o_3 | o_3
      ·obtain ⟨m_18, ho⟩ : ∃ z, z = o_3 := ⟨_, rfl⟩
       subst ho
       rintro _ mm t_8 ⟨rfl, rfl, g14⟩
       refine qca ?_
       refine qab (w_seq (w_ops (wsp (p_mv g14) (wsp (v := v68) (p_mv rfl) (wsp (v := (.i .i64 0)) (p_mv rfl) (qac (qab ?_)))))))
       refine w_ret ?_
       exact qf qba (rt rfl (rt rfl rn)) z48
      ·obtain ⟨v6, x7, m_19⟩ := o_3
       rintro _ mm_1 t_9 ⟨rfl, rfl, g6, g7⟩
       refine qco ?_
       refine qbm ?_
       exact qf qba (rt g6 (rt g7 rn)) z48
/- dibber/vine.Dies -/

def g26 (M : Means) (ro : List ABlk) (v0 : AVal) (s1 : List UInt8) (m0 : Mm) : Option (AVal × Heap × Nat × Nat) :=
 bindP (callM M.call m0 60 [v0, (.s s1)]) fun v13 m_1 =>
 bindO (evP .e (.ext 0 (.c v13))) fun v14 =>
 bindO (evP .e (.ext 1 (.c v13))) fun v15 =>
 asI .i64 v15 fun x15 =>
 qap (!eqI x15 0) fun c17 =>
 cond c17 (
  finM m0.h.length (tupA [(.i .i64 0), (.i .i64 x15)]) m_1) (
  bindP (callM M.call m_1 61 [v14, (.s s1)]) fun v22 m_2 =>
  bindO (evP .e (.ext 0 (.c v22))) fun v23 =>
  asI .i64 v23 fun x23 =>
  bindO (evP .e (.ext 1 (.c v22))) fun v24 =>
  asB v24 fun c24 =>
  qap (!c24) fun c26 =>
  cond c26 (
   finM m0.h.length (tupA [(.i .i64 0), (.i .i64 10)]) m_2) (
   finM m0.h.length (tupA [(.i .i64 x23), (.i .i64 0)]) m_2))
theorem g26_ok {ro : List ABlk} {O : qao} {M : Means} (hM : M.Ok ⟨F, O⟩ ro) {v0 s1 h r} (ho : O 26 [v0, (.s s1)] h = none) (hr : g26 M ro v0 s1 ⟨h, h.length, h.length⟩ = some r) : callX ⟨F, O⟩ ro 26 [v0, (.s s1)] h = some r := by
 refine qbc (F := ⟨F, O⟩) (fn := fn26) (g := g26 M ro v0 s1) ho rfl rfl hr ?_
 clear ho
 clear hr
 intro m0 t0 ht hr
 have g0 : t0.get 0 = v0 := ht 0
 have g1 : t0.get 1 = (.s s1) := ht 1
 clear ht
 unfold g26 at hr
 refine w_seq (w_ops (wsp (v := (.i .i64 0)) (p_mv rfl) (wsp (v := (.i .i64 0)) (p_mv rfl) (qac (qab (w_seq (w_ops (wsp (p_mv g0) (wsp (p_mv g1) ?_)))))))))
 obtain ⟨v13, m_1, e13, z1⟩ := qaf hr
 refine qan (qbf (mc rfl (mc rfl mn)) (qaq hM.call e13)) (wsp (v := v13) (p_mv rfl) ?_)
 obtain ⟨v14, e14, z2⟩ := qaa z1
 refine wsp (o_ext rfl e14) ?_
 obtain ⟨v15, e15, z3⟩ := qaa z2
 obtain ⟨x15, rfl, z4⟩ := qam z3
 refine wsp (o_ext rfl e15) (wsp (v := v14) (p_mv rfl) (wsp (v := (.i .i64 x15)) (p_mv rfl) (qac (qab (w_seq (w_seq (w_ops (wsp (v := (.i .i64 x15)) (p_mv rfl) ?_))))))))
 obtain ⟨c17, e17, z5⟩ := qad z4
 refine wsp (p_bin rfl rfl (b_neq.trans (cb e17))) (qac (qab ?_))
 rcases qai z5 with ⟨rfl, z6⟩ | ⟨rfl, z6⟩
 ·refine qas rfl ?_
  refine w_seq (w_ops (wsp (v := (.i .i64 x15)) (p_mv rfl) (wsp (v := (.i .i64 0)) (p_mv rfl) (wsp (v := (.i .i64 x15)) (p_mv rfl) (qac (qab ?_))))))
  refine w_ret ?_
  refine qbm ?_
  exact qf qba (rt rfl (rt rfl rn)) z6
 ·refine qat rfl ?_
  refine qbb (qab (w_seq (w_ops (wsp (v := v14) (p_mv rfl) (wsp (p_mv g1) ?_)))))
  obtain ⟨v22, m_2, e22, z7⟩ := qaf z6
  refine qan (qbf (mc rfl (mc rfl mn)) (qaq hM.call e22)) (wsp (v := v22) (p_mv rfl) ?_)
  obtain ⟨v23, e23, z8⟩ := qaa z7
  obtain ⟨x23, rfl, z9⟩ := qam z8
  refine wsp (o_ext rfl e23) ?_
  obtain ⟨v24, e24, z10⟩ := qaa z9
  obtain ⟨c24, rfl, z11⟩ := qbr z10
  refine wsp (o_ext rfl e24) (wsp (v := (.i .i64 x23)) (p_mv rfl) (wsp (v := (.b c24)) (p_mv rfl) (qac (qab (w_seq (w_seq (w_ops (wsp (v := (.b c24)) (p_mv rfl) ?_))))))))
  obtain ⟨c26, e26, z12⟩ := qad z11
  refine wsp ((p_not rfl).trans (cb e26)) (qac (qab ?_))
  rcases qai z12 with ⟨rfl, z13⟩ | ⟨rfl, z13⟩
  ·refine qas rfl ?_
   refine w_seq (w_ops (wsp (v := (.i .i64 0)) (p_mv rfl) (wsp (v := (.i .i64 10)) (p_mv rfl) (qac (qab ?_)))))
   refine w_ret ?_
   refine qbm ?_
   exact qf qba (rt rfl (rt rfl rn)) z13
  ·refine qat rfl ?_
   refine qbb (qab (w_seq (w_ops (wsp (v := (.i .i64 x23)) (p_mv rfl) (wsp (v := (.i .i64 x23)) (p_mv rfl) (wsp (v := (.i .i64 0)) (p_mv rfl) (qac (qab ?_))))))))
   refine w_ret ?_
   exact qf qba (rt rfl (rt rfl rn)) z13
/- dibber/vine.Kind -/
abbrev g28_I0 (s1 : List UInt8) (v9 : AVal) (x27 : Int) (s : Int × Int × Mm) (m1 : Mm) (t1 : Tr) : Prop :=
 match s with
 | (x10, x28, m_5) => m_5 = m1 ∧ t1.get 10 = (.i .i64 x10) ∧ t1.get 28 = (.i .i64 x28) ∧ t1.get 1 = (.s s1) ∧ t1.get 9 = v9 ∧ t1.get 27 = (.i .i64 x27)
abbrev g28_J0 (s1 : List UInt8) (v9 : AVal) (x27 : Int) (o : ((Int × Mm) ⊕ (Int × Int × Int × Mm))) (e : AExit) (m1 : Mm) (t1 : Tr) : Prop :=
 match o with
 | (.inl (y10, mo)) => e = (.exit 0) ∧ mo = m1 ∧ t1.get 10 = (.i .i64 y10)
 | (.inr (y4, y5, y6, mo)) => e = .ret ∧ mo = m1 ∧ t1.get 4 = (.i .i64 y4) ∧ t1.get 5 = (.i .i64 y5) ∧ t1.get 6 = (.i .i64 y6)
def g28_b0 (M : Means) (ro : List ABlk) (s1 : List UInt8) (v9 : AVal) (x27 : Int) (x10 : Int) (x28 : Int) (m_5 : Mm) : Option ((Int × Int × Mm) ⊕ (((Int × Mm) ⊕ (Int × Int × Int × Mm)))) :=
 qap (ltI x28 x27) fun c29 =>
 cond c29 (
  bindO (evP .e (.ixStr (.c (.s s1)) (.c (.i .i64 x28)))) fun v33 =>
  asI .u8 v33 fun x33 =>
  bindP (callM M.call m_5 54 [(.i .u8 x33)]) fun v34 m_6 =>
  asI .i64 v34 fun x34 =>
  bindO (ldM ro m_6 false 2 v9) fun v35 =>
  bindP (callM M.call m_6 64 [v35, (.i .i64 x34)]) fun v37 m_7 =>
  asB v37 fun c37 =>
  cond c37 (
   some (.inr (.inr (3, 0, 0, m_7)))) (
   bindO (ldM ro m_7 false 2 v9) fun v39 =>
   bindP (callM M.call m_7 65 [v39, (.i .i64 x34)]) fun v41 m_8 =>
   asI .i64 v41 fun x41 =>
   qax (mxV true x10 x41) fun x42 =>
   qax (wr .i64 (x28 + 1)) fun x43 =>
   some (.inl (x42, x43, m_8)))) (
  some (.inr (.inl (x10, m_5))))
def g28 (M : Means) (ro : List ABlk) (v0 : AVal) (s1 : List UInt8) (m0 : Mm) : Option (AVal × Heap × Nat × Nat) :=
 bindP (callM M.call m0 60 [v0, (.s s1)]) fun v16 m_1 =>
 bindO (evP .e (.ext 0 (.c v16))) fun v17 =>
 bindO (evP .e (.ext 1 (.c v16))) fun v18 =>
 asI .i64 v18 fun x18 =>
 qap (!eqI x18 0) fun c20 =>
 cond c20 (
  finM m0.h.length (tupA [(.i .i64 0), (.i .i64 0), (.i .i64 x18)]) m_1) (
  bindP (callM M.call m_1 63 [v17]) fun v24 m_2 =>
  bindO ((fillA [AVal.nsl, AVal.nsl] [((0, 1), v17), ((1, 1), v24)]).map AVal.agg) fun v25 =>
  bindP (stepM ro m_2 (.al 85 [AVal.nsl, AVal.nsl])) fun v9 m_3 =>
  bindP (stepM ro m_3 (.st 2 (.c v9) (.c v25))) fun vn m_4 =>
  bindO (evP .e (.len true (.c (.s s1)))) fun v27 =>
  asI .i64 v27 fun x27 =>
  bindO (M.loop (S := Int × Int × Mm) (R := ((Int × Mm) ⊕ (Int × Int × Int × Mm))) (fun s => g28_b0 M ro s1 v9 x27 s.1 s.2.1 s.2.2) (0, 0, m_4)) fun o => match o with
  | (.inl (x10_1, m_9)) =>
   qap (ltI x10_1 2) fun c45 =>
   cond c45 (
    finM m0.h.length (tupA [(.i .i64 x10_1), (.i .i64 0), (.i .i64 0)]) m_9) (
    qax (wr .i64 (x10_1 - 1)) fun x48 =>
    finM m0.h.length (tupA [(.i .i64 2), (.i .i64 x48), (.i .i64 0)]) m_9)
  | (.inr (x4, x5, x6, m_10)) =>
   finM m0.h.length (tupA [(.i .i64 x4), (.i .i64 x5), (.i .i64 x6)]) m_10)
theorem g28_ok {ro : List ABlk} {O : qao} {M : Means} (hM : M.Ok ⟨F, O⟩ ro) {v0 s1 h r} (ho : O 28 [v0, (.s s1)] h = none) (hr : g28 M ro v0 s1 ⟨h, h.length, h.length⟩ = some r) : callX ⟨F, O⟩ ro 28 [v0, (.s s1)] h = some r := by
 refine qbc (F := ⟨F, O⟩) (fn := fn28) (g := g28 M ro v0 s1) ho rfl rfl hr ?_
 clear ho
 clear hr
 intro m0 t0 ht hr
 have g0 : t0.get 0 = v0 := ht 0
 have g1 : t0.get 1 = (.s s1) := ht 1
 clear ht
 unfold g28 at hr
 refine w_seq (w_ops (wsp (v := (.i .i64 0)) (p_mv rfl) (wsp (v := (.i .i64 0)) (p_mv rfl) (wsp (v := (.i .i64 0)) (p_mv rfl) (qac (qab (w_seq (w_ops (wsp (p_mv g0) (wsp (p_mv g1) ?_))))))))))
 obtain ⟨v16, m_1, e16, z1⟩ := qaf hr
 refine qan (qbf (mc rfl (mc rfl mn)) (qaq hM.call e16)) (wsp (v := v16) (p_mv rfl) ?_)
 obtain ⟨v17, e17, z2⟩ := qaa z1
 refine wsp (o_ext rfl e17) ?_
 obtain ⟨v18, e18, z3⟩ := qaa z2
 obtain ⟨x18, rfl, z4⟩ := qam z3
 refine wsp (o_ext rfl e18) (wsp (v := v17) (p_mv rfl) (wsp (v := (.i .i64 x18)) (p_mv rfl) (qac (qab (w_seq (w_seq (w_ops (wsp (v := (.i .i64 x18)) (p_mv rfl) ?_))))))))
 obtain ⟨c20, e20, z5⟩ := qad z4
 refine wsp (p_bin rfl rfl (b_neq.trans (cb e20))) (qac (qab ?_))
 rcases qai z5 with ⟨rfl, z6⟩ | ⟨rfl, z6⟩
 ·refine qas rfl ?_
  refine w_seq (w_ops (wsp (v := (.i .i64 x18)) (p_mv rfl) (wsp (v := (.i .i64 0)) (p_mv rfl) (wsp (v := (.i .i64 0)) (p_mv rfl) (wsp (v := (.i .i64 x18)) (p_mv rfl) (qac (qab ?_)))))))
  refine w_ret ?_
  refine qbm ?_
  exact qf qba (rt rfl (rt rfl (rt rfl rn))) z6
 ·refine qat rfl ?_
  refine qbb (qab (w_seq (w_ops (wsp (v := v17) (p_mv rfl) (wsp (v := v17) (p_mv rfl) ?_)))))
  obtain ⟨v24, m_2, e24, z7⟩ := qaf z6
  refine qan (qbf (mc rfl mn) (qaq hM.call e24)) ?_
  obtain ⟨v25, e25, z8⟩ := qaa z7
  refine wsp (o_build (qc rfl (qc rfl qn)) e25) ?_
  obtain ⟨v9, m_3, e9, z9⟩ := qaf z8
  refine qan (s_al e9) ?_
  obtain ⟨vn, m_4, en, z10⟩ := qaf z9
  refine qdq (s_st rfl rfl en) ?_
  refine qac (qab (w_seq (w_ops (wsp (v := (.i .i64 0)) (p_mv rfl) (qac (qab (w_seq (w_seq (w_ops (wsp (p_mv g1) ?_))))))))))
  obtain ⟨v27, e27, z11⟩ := qaa z10
  obtain ⟨x27, rfl, z12⟩ := qam z11
  refine wsp (o_len rfl e27) (wsp (v := (.i .i64 0)) (p_mv rfl) (qac (qab ?_)))
  refine qau ?_
  obtain ⟨o, hl, z13⟩ := qaa z12
  obtain ⟨n, hl⟩ := hM.loop _ _ _ hl
  refine qbl (qbw _ (g28_I0 s1 v9 x27) (g28_J0 s1 v9 x27) ?_ n _ _ _ _ hl ⟨rfl, gl rfl, gl rfl, gl g1, gl rfl, gl rfl⟩) ?_
  ·clear z13 hl
   intro s mm_2 t_1 o hi hr
   obtain ⟨x10, x28, m_5⟩ := s
   obtain ⟨rfl, g10, g28, g1, g9, g27⟩ := hi
   unfold g28_b0 at hr
   refine w_seq (w_ops ?_)
   obtain ⟨c29, e29, z14⟩ := qad hr
   refine wsp (p_bin g28 g27 (b_lss.trans (cb e29))) (qac (qab (w_seq ?_)))
   rcases qai z14 with ⟨rfl, z15⟩ | ⟨rfl, z15⟩
   ·refine qas rfl ?_
    refine qbb (qab (w_seq ?_))
    refine qau ?_
    refine w_seq (w_ops (wsp (p_mv g28) (wsp (v := (.i .i64 x28)) (p_mv rfl) (qac (qab (w_seq (w_ops (wsp (p_mv g1) (wsp (v := (.i .i64 x28)) (p_mv rfl) ?_)))))))))
    obtain ⟨v33, e33, z16⟩ := qaa z15
    obtain ⟨x33, rfl, z17⟩ := qam z16
    refine wsp (qhg rfl rfl e33) ?_
    obtain ⟨v34, m_6, e34, z18⟩ := qaf z17
    obtain ⟨x34, rfl, z19⟩ := qam z18
    refine qan (qbf (mc rfl mn) (qaq hM.call e34)) (wsp (v := (.i .i64 x34)) (p_mv rfl) (qac (qab (w_seq (w_seq (w_ops ?_))))))
    obtain ⟨v35, e35, z20⟩ := qaa z19
    refine qan (s_ld g9 e35) (wsp (v := (.i .i64 x34)) (p_mv rfl) ?_)
    obtain ⟨v37, m_7, e37, z21⟩ := qaf z20
    obtain ⟨c37, rfl, z22⟩ := qbr z21
    refine qan (qbf (mc rfl (mc rfl mn)) (qaq hM.call e37)) (qac (qab ?_))
    rcases qai z22 with ⟨rfl, z23⟩ | ⟨rfl, z23⟩
    ·refine qas rfl ?_
     refine w_seq (w_ops (wsp (v := (.i .i64 3)) (p_mv rfl) (wsp (v := (.i .i64 0)) (p_mv rfl) (wsp (v := (.i .i64 0)) (p_mv rfl) (qac (qab ?_))))))
     refine w_ret ?_
     refine qbm ?_
     refine qco ?_
     refine qbm ?_
     cases z23
     exact ⟨_, _, rfl, qcb, rfl, rfl, gl rfl, gl rfl, gl rfl⟩
    ·refine qat rfl ?_
     refine qbb (qab (w_ops (wsp (p_mv g10) ?_)))
     obtain ⟨v39, e39, z24⟩ := qaa z23
     refine qan (s_ld g9 e39) (wsp (v := (.i .i64 x34)) (p_mv rfl) ?_)
     obtain ⟨v41, m_8, e41, z25⟩ := qaf z24
     obtain ⟨x41, rfl, z26⟩ := qam z25
     refine qan (qbf (mc rfl (mc rfl mn)) (qaq hM.call e41)) ?_
     obtain ⟨x42, e42, z27⟩ := qaj z26
     refine wsp ((p_mx rfl rfl).trans (ci e42)) (wsp (v := (.i .i64 x42)) (p_mv rfl) (qac ?_))
     refine qbo ?_
     refine qab (w_ops ?_)
     obtain ⟨x43, e43, z28⟩ := qaj z27
     refine wsp (p_bin g28 rfl (b_add.trans (ci e43))) (wsp (v := (.i .i64 x43)) (p_mv rfl) (qac ?_))
     cases z28
     exact ⟨_, _, rfl, rfl, rfl, gl rfl, gl rfl, gl g1, gl g9, gl g27⟩
   ·refine qat rfl ?_
    refine qbz ?_
    refine qbp ?_
    cases z15
    exact ⟨_, _, rfl, qar, rfl, rfl, gl g10⟩
  ·rcases o with o | o
   ·obtain ⟨x10_1, m_9⟩ := o
    rintro _ mm t_2 ⟨rfl, rfl, g10⟩
    refine qca ?_
    refine qab (w_seq (w_seq (w_ops (wsp (p_mv g10) ?_))))
    obtain ⟨c45, e45, z29⟩ := qad z13
    refine wsp (p_bin rfl rfl (b_lss.trans (cb e45))) (qac (qab ?_))
    rcases qai z29 with ⟨rfl, z30⟩ | ⟨rfl, z30⟩
    ·refine qas rfl ?_
     refine w_seq (w_ops (wsp (p_mv g10) (wsp (v := (.i .i64 x10_1)) (p_mv rfl) (wsp (v := (.i .i64 0)) (p_mv rfl) (wsp (v := (.i .i64 0)) (p_mv rfl) (qac (qab ?_)))))))
     refine w_ret ?_
     refine qbm ?_
     exact qf qba (rt rfl (rt rfl (rt rfl rn))) z30
    ·refine qat rfl ?_
     refine qbb (qab (w_seq (w_ops (wsp (p_mv g10) ?_))))
     obtain ⟨x48, e48, z31⟩ := qaj z30
     refine wsp (p_bin rfl rfl (b_sub.trans (ci e48))) (wsp (v := (.i .i64 2)) (p_mv rfl) (wsp (v := (.i .i64 x48)) (p_mv rfl) (wsp (v := (.i .i64 0)) (p_mv rfl) (qac (qab ?_)))))
     refine w_ret ?_
     exact qf qba (rt rfl (rt rfl (rt rfl rn))) z31
   ·obtain ⟨x4, x5, x6, m_10⟩ := o
    rintro _ mm_1 t_3 ⟨rfl, rfl, g4, g5, g6⟩
    refine qco ?_
    refine qbm ?_
    exact qf qba (rt g4 (rt g5 (rt g6 rn))) z13
/- dibber/vine.Factors -/
abbrev g38_J0 (x2 : Int) (v20 : AVal) (x21 : Int) (m_1 : Mm) (o : Bool) (m1 : Mm) (t1 : Tr) : Prop :=
 match o with
 | c31 => m_1 = m1 ∧ t1.get 31 = (.b c31) ∧ t1.get 2 = (.i .i64 x2) ∧ t1.get 8 = v20 ∧ t1.get 9 = (.i .i64 x21)
abbrev k38a0 : ACode := (.ops [(.mk (some 13) none (.pure (.mv (.t 36))))])
abbrev k38c0 : ACode := (.block 1 (.ops [(.mk (some 37) none (.ld true 1 (.t 11))), (.mk (some 38) none (.pure (.mv (.t 13)))), (.mk (some 39) none (.bsl 5 1 [(.i .u8 0)] 1 [((0, 1), (.t 38))])), (.mk (some 40) none (.app 5 1 1 [(.i .u8 0)] (.t 37) (.t 39))), (.mk none none (.st 1 (.t 11) (.t 40)))]))
abbrev g38_P0 (v11 : AVal) (t1 : Tr) : Prop := True ∧ t1.get 11 = v11
def g38_r0 (M : Means) (ro : List ABlk) (v11 : AVal) (b : Nat) (v35 : AVal) (v36 : AVal) (m0 : Mm) : Option (AVal × Heap × Nat × Nat) :=
 bindO (rndB b m0) fun m_4 =>
 bindO (ldM ro m_4 true 1 v11) fun v37 =>
 bindP (stepM ro m_4 (.bsl 5 1 [(AVal.i IntKind.u8 0)] 1 [((0, 1), .c v36)])) fun v39 m_5 =>
 bindP (stepM ro m_5 (.app 5 1 1 [(AVal.i IntKind.u8 0)] (.c v37) (.c v39))) fun v40 m_6 =>
 bindP (stepM ro m_6 (.st 1 (.c v11) (.c v40))) fun vn m_7 =>
 rndE m0.h.length b .norm m_7
abbrev g38_I1 (x2 : Int) (v11 : AVal) (v41 : AVal) (s : Int × Mm) (m1 : Mm) (t1 : Tr) : Prop :=
 match s with
 | (x15, m_10) => m_10 = m1 ∧ t1.get 15 = (.i .i64 x15) ∧ t1.get 2 = (.i .i64 x2) ∧ t1.get 11 = v11 ∧ t1.get 14 = v41
abbrev g38_J1 (x2 : Int) (v11 : AVal) (v41 : AVal) (o : Mm) (e : AExit) (m1 : Mm) (t1 : Tr) : Prop :=
 match o with
 | mo => e = (.exit 2) ∧ mo = m1 ∧ t1.get 14 = v41
def g38_b1 (M : Means) (ro : List ABlk) (x2 : Int) (v11 : AVal) (v41 : AVal) (x15 : Int) (m_10 : Mm) : Option ((Int × Mm) ⊕ (Mm)) :=
 bindO (ldM ro m_10 true 1 v11) fun v44 =>
 bindO (evP .e (.len false (.c v44))) fun v45 =>
 asI .i64 v45 fun x45 =>
 qap (!ltI x45 x15) fun c46 =>
 cond c46 (
  bindO (ldM ro m_10 true 1 v11) fun v50 =>
  qax (wr .i64 (x15 - x2)) fun x53 =>
  bindO (evP .e (.slS 1 (.c v50) (some (.c (.i .i64 x53))) (some (.c (.i .i64 x15))) none)) fun v55 =>
  bindO (btsM ro m_10 v55) fun v56 =>
  asS v56 fun s56 =>
  bindP (stepM ro m_10 (.mup (.c v41) (.c (.s s56)) (.c (.b true)))) fun vn_1 m_11 =>
  qax (wr .i64 (x15 + 1)) fun x48 =>
  some (.inl (x48, m_11))) (
  some (.inr m_10))
noncomputable def g38 (M : Means) (ro : List ABlk) (v0 : AVal) (s1 : List UInt8) (x2 : Int) (m0 : Mm) : Option (AVal × Heap × Nat × Nat) :=
 bindP (callM M.call m0 74 [v0, (.s s1)]) fun v19 m_1 =>
 bindO (evP .e (.ext 0 (.c v19))) fun v20 =>
 bindO (evP .e (.ext 1 (.c v19))) fun v21 =>
 asI .i64 v21 fun x21 =>
 bindO (evP .e (.ext 2 (.c v19))) fun v22 =>
 asI .i64 v22 fun x22 =>
 qap (!eqI x22 0) fun c24 =>
 cond c24 (
  finM m0.h.length (tupA [(.i .i64 0), (.i .i64 x22)]) m_1) (
  qap (ltI x2 1) fun c27 =>
  bindO (cond c27 (
   some true) (
   qap (ltI 10 x2) fun c30 =>
   some c30)) fun c31 =>
  cond c31 (
   finM m0.h.length (tupA [(.i .i64 0), (.i .i64 2)]) m_1) (
   bindP (stepM ro m_1 (.al 52 [AVal.nsl])) fun v11 m_2 =>
   bindP (callM M.call m_2 75 [v20, (.i .i64 x21)]) fun v34 m_3 =>
   rngK M.call (g38_P0 v11) [35, 36] k38a0 k38c0 v34 m_3 fun ⟨ex, m_8⟩ => onE ex (
    bindP (stepM ro m_8 .mkm) fun v41 m_9 =>
    bindO (M.loop (S := Int × Mm) (R := Mm) (fun s => g38_b1 M ro x2 v11 v41 s.1 s.2) (x2, m_9)) fun m_12 =>
    bindP (stepM ro m_12 (.mln (.c v41))) fun v58 m_13 =>
    asI .i64 v58 fun x58 =>
    finM m0.h.length (tupA [(.i .i64 x58), (.i .i64 0)]) m_13) (
    none) (fun ix =>
    none)))
theorem g38_r0_ok {ro : List ABlk} {O : qao} {M : Means} (hM : M.Ok ⟨F, O⟩ ro) {v11} {v35} {v36} {b h r bk t p} (hb : lget h b = some (some bk)) (hg : bk.g = some (.lp ⟨t, [35, 36], k38a0, k38c0⟩ .ready p)) (hP : g38_P0 v11 t) (hr : g38_r0 M ro v11 b v35 v36 ⟨h, h.length, h.length⟩ = some r) : qdx ⟨F, O⟩ ro b [v35, v36] h = some r := by
 refine roundX_on (F := ⟨F, O⟩) (g := g38_r0 M ro v11 b v35 v36) hb hg rfl hr ?_
 clear hb hg hr
 intro m0 t0 ht hr
 obtain ⟨-, g11⟩ := hP
 have g35 : t0.get 35 = v35 := by rw [ht]; simp [putPs, qdj]
 have g36 : t0.get 36 = v36 := by rw [ht]; simp [putPs, qdj]
 have g11 : t0.get 11 = v11 := by rw [ht]; simp only [putPs, qdj]; simpa using g11
 clear ht
 unfold g38_r0 at hr
 show W _ _ k38a0 _ _
 unfold k38a0
 refine w_ops (wsp (p_mv g36) (qac ?_))
 obtain ⟨m_4, eb, z1⟩ := qaa hr
 refine qb eb ?_
 unfold k38c0
 refine qau ?_
 refine w_ops ?_
 obtain ⟨v37, e37, z2⟩ := qaa z1
 refine qan (s_ld g11 e37) (wsp (v := v36) (p_mv rfl) ?_)
 obtain ⟨v39, m_5, e39, z3⟩ := qaf z2
 refine qan (s_bsl (qc rfl qn) e39) ?_
 obtain ⟨v40, m_6, e40, z4⟩ := qaf z3
 refine qan (s_app rfl rfl e40) ?_
 obtain ⟨vn, m_7, en, z5⟩ := qaf z4
 refine qdq (s_st g11 rfl en) ?_
 refine qac ?_
 refine qbo ?_
 exact z5

theorem g38_ok {ro : List ABlk} {O : qao} {M : Means} (hM : M.Ok ⟨F, O⟩ ro) {v0 s1 x2 h r} (ho : O 38 [v0, (.s s1), (.i .i64 x2)] h = none) (hr : g38 M ro v0 s1 x2 ⟨h, h.length, h.length⟩ = some r) : callX ⟨F, O⟩ ro 38 [v0, (.s s1), (.i .i64 x2)] h = some r := by
 refine qbc (F := ⟨F, O⟩) (fn := fn38) (g := g38 M ro v0 s1 x2) ho rfl rfl hr ?_
 clear ho
 clear hr
 intro m0 t0 ht hr
 have g0 : t0.get 0 = v0 := ht 0
 have g1 : t0.get 1 = (.s s1) := ht 1
 have g2 : t0.get 2 = (.i .i64 x2) := ht 2
 clear ht
 unfold g38 at hr
 refine w_seq (w_ops (wsp (v := (.i .i64 0)) (p_mv rfl) (wsp (v := (.i .i64 0)) (p_mv rfl) (qac (qab (w_seq (w_ops (wsp (p_mv g0) (wsp (p_mv g1) ?_)))))))))
 obtain ⟨v19, m_1, e19, z1⟩ := qaf hr
 refine qan (qbf (mc rfl (mc rfl mn)) (qaq hM.call e19)) (wsp (v := v19) (p_mv rfl) ?_)
 obtain ⟨v20, e20, z2⟩ := qaa z1
 refine wsp (o_ext rfl e20) ?_
 obtain ⟨v21, e21, z3⟩ := qaa z2
 obtain ⟨x21, rfl, z4⟩ := qam z3
 refine wsp (o_ext rfl e21) ?_
 obtain ⟨v22, e22, z5⟩ := qaa z4
 obtain ⟨x22, rfl, z6⟩ := qam z5
 refine wsp (o_ext rfl e22) (wsp (v := v20) (p_mv rfl) (wsp (v := (.i .i64 x21)) (p_mv rfl) (wsp (v := (.i .i64 x22)) (p_mv rfl) (qac (qab (w_seq (w_seq (w_ops (wsp (v := (.i .i64 x22)) (p_mv rfl) ?_)))))))))
 obtain ⟨c24, e24, z7⟩ := qad z6
 refine wsp (p_bin rfl rfl (b_neq.trans (cb e24))) (qac (qab ?_))
 rcases qai z7 with ⟨rfl, z8⟩ | ⟨rfl, z8⟩
 ·refine qas rfl ?_
  refine w_seq (w_ops (wsp (v := (.i .i64 x22)) (p_mv rfl) (wsp (v := (.i .i64 0)) (p_mv rfl) (wsp (v := (.i .i64 x22)) (p_mv rfl) (qac (qab ?_))))))
  refine w_ret ?_
  refine qbm ?_
  exact qf qba (rt rfl (rt rfl rn)) z8
 ·refine qat rfl ?_
  refine qbb (qab (w_seq (w_seq (w_ops (wsp (p_mv g2) ?_)))))
  obtain ⟨c27, e27, z9⟩ := qad z8
  refine wsp (p_bin rfl rfl (b_lss.trans (cb e27))) (wsp (v := (.b c27)) (p_mv rfl) ?_)
  obtain ⟨o, z10, hk⟩ := qaa z9
  refine qbn 3 (g38_J0 x2 v20 x21 m_1 o) ?_ ?_
  ·clear hk
   rcases qai z10 with ⟨rfl, z11⟩ | ⟨rfl, z11⟩
   ·refine qae (v := (.b true)) rfl rfl (qae (v := (.b true)) rfl rfl (wsp (v := (.b true)) (qbj rfl rfl) (qac ?_)))
    cases z11
    exact ⟨_, _, rfl, rfl, gl rfl, gl g2, gl rfl, gl rfl⟩
   ·refine qah (v := (.i .i64 x2)) rfl (qag (p_mv g2)) ?_
    obtain ⟨c30, e30, z12⟩ := qad z11
    refine qah (v := (.b c30)) rfl (qag (p_bin rfl rfl (b_gtr.trans (cb e30)))) (wsp (v := (.b c30)) (qbd rfl rfl) (qac ?_))
    cases z12
    exact ⟨_, _, rfl, rfl, gl rfl, gl g2, gl rfl, gl rfl⟩
  ·clear z10
   have hr := hk
   clear hk
   obtain ⟨c31, ho⟩ : ∃ z, z = o := ⟨_, rfl⟩
   subst ho
   rintro mm t_1 ⟨rfl, g31, g2, g8, g9⟩
   refine qac (qab ?_)
   rcases qai hr with ⟨rfl, z13⟩ | ⟨rfl, z13⟩
   ·refine qas g31 ?_
    refine w_seq (w_ops (wsp (v := (.i .i64 0)) (p_mv rfl) (wsp (v := (.i .i64 2)) (p_mv rfl) (qac (qab ?_)))))
    refine w_ret ?_
    refine qbm ?_
    exact qf qba (rt rfl (rt rfl rn)) z13
   ·refine qat g31 ?_
    refine qbb (qab (w_seq (w_ops ?_)))
    obtain ⟨v11, m_2, e11, z14⟩ := qaf z13
    refine qan (s_al e11) (qac (qab (w_seq (w_seq (w_ops (wsp (p_mv g8) (wsp (p_mv g9) ?_)))))))
    obtain ⟨v34, m_3, e34, z15⟩ := qaf z14
    refine qan (qbf (mc rfl (mc rfl mn)) (qaq hM.call e34)) (qac (qab ?_))
    refine qau ?_
    refine w_rngK hM.call rfl z15 ⟨trivial, gl rfl⟩ ?_
    clear z15
    intro ex m_8 hr
    rcases onE_inv hr with ⟨rfl, z16⟩ | ⟨rfl, z16⟩ | ⟨ix, rfl, z16⟩
    ·refine qbo ?_
     refine qab (w_seq (w_ops ?_))
     obtain ⟨v41, m_9, e41, z17⟩ := qaf z16
     refine qan (s_mkm e41) (wsp (v := v41) (p_mv rfl) (qac (qab (w_seq (w_seq (w_ops (wsp (p_mv g2) (wsp (v := (.i .i64 x2)) (p_mv rfl) (qac (qab ?_))))))))))
     refine qau ?_
     obtain ⟨o_1, hl, z18⟩ := qaa z17
     obtain ⟨n, hl⟩ := hM.loop _ _ _ hl
     refine qbl (qbw _ (g38_I1 x2 v11 v41) (g38_J1 x2 v11 v41) ?_ n _ _ _ _ hl ⟨rfl, gl rfl, gl g2, gl rfl, gl rfl⟩) ?_
     ·clear z18 hl
      intro s mm_2 t_2 o hi hr
      obtain ⟨x15, m_10⟩ := s
      obtain ⟨rfl, g15, g2, g11, g14⟩ := hi
      unfold g38_b1 at hr
      refine w_seq (w_seq (w_ops (wsp (p_mv g15) ?_)))
      obtain ⟨v44, e44, z19⟩ := qaa hr
      refine qan (s_ld g11 e44) ?_
      obtain ⟨v45, e45, z20⟩ := qaa z19
      obtain ⟨x45, rfl, z21⟩ := qam z20
      refine wsp (o_len rfl e45) ?_
      obtain ⟨c46, e46, z22⟩ := qad z21
      refine wsp (p_bin rfl rfl (b_leq.trans (cb e46))) (qac (qab ?_))
      rcases qai z22 with ⟨rfl, z23⟩ | ⟨rfl, z23⟩
      ·refine qas rfl ?_
       refine qbb (qab (w_seq ?_))
       refine qau ?_
       refine w_ops (wsp (p_mv g14) ?_)
       obtain ⟨v50, e50, z24⟩ := qaa z23
       refine qan (s_ld g11 e50) (wsp (p_mv g15) (wsp (p_mv g2) ?_))
       obtain ⟨x53, e53, z25⟩ := qaj z24
       refine wsp (p_bin rfl rfl (b_sub.trans (ci e53))) (wsp (p_mv g15) ?_)
       obtain ⟨v55, e55, z26⟩ := qaa z25
       refine wsp (o_slS rfl (os rfl) (os rfl) on e55) ?_
       obtain ⟨v56, e56, z27⟩ := qaa z26
       obtain ⟨s56, rfl, z28⟩ := qck z27
       refine qan (s_bts rfl e56) ?_
       obtain ⟨vn_1, m_11, en_1, z29⟩ := qaf z28
       refine qdq (s_mup rfl rfl rfl en_1) ?_
       refine qac ?_
       refine qbo ?_
       refine qab (w_ops (wsp (p_mv g15) ?_))
       obtain ⟨x48, e48, z30⟩ := qaj z29
       refine wsp (p_bin rfl rfl (b_add.trans (ci e48))) (wsp (v := (.i .i64 x48)) (p_mv rfl) (qac ?_))
       cases z30
       exact ⟨_, _, rfl, rfl, rfl, gl rfl, gl g2, gl g11, gl g14⟩
      ·refine qat rfl ?_
       refine qbz ?_
       refine qbp ?_
       cases z23
       exact ⟨_, _, rfl, qar, rfl, rfl, gl g14⟩
     ·obtain ⟨m_12, ho⟩ : ∃ z, z = o_1 := ⟨_, rfl⟩
      subst ho
      rintro _ mm_1 t_3 ⟨rfl, rfl, g14⟩
      refine qca ?_
      refine qab (w_seq (w_ops (wsp (p_mv g14) ?_)))
      obtain ⟨v58, m_13, e58, z31⟩ := qaf z18
      obtain ⟨x58, rfl, z32⟩ := qam z31
      refine qan (s_mln rfl e58) (wsp (v := (.i .i64 x58)) (p_mv rfl) (wsp (v := (.i .i64 0)) (p_mv rfl) (qac (qab ?_))))
      refine w_ret ?_
      exact qf qba (rt rfl (rt rfl rn)) z32
    ·cases z16
    ·cases z16
/- dibber/dibberlaw03.doubles -/
abbrev g43_I0 (v0 : AVal) (s1 : List UInt8) (s : Int × Mm) (m1 : Mm) (t1 : Tr) : Prop :=
 match s with
 | (x5, m_1) => m_1 = m1 ∧ t1.get 5 = (.i .i64 x5) ∧ t1.get 0 = v0 ∧ t1.get 1 = (.s s1)
abbrev g43_J0 (v0 : AVal) (s1 : List UInt8) (o : (Mm ⊕ (Bool × Mm))) (e : AExit) (m1 : Mm) (t1 : Tr) : Prop :=
 match o with
 | (.inl mo) => e = (.exit 0) ∧ mo = m1
 | (.inr (y4, mo)) => e = .ret ∧ mo = m1 ∧ t1.get 4 = (.b y4)
abbrev g43_I1 (v0 : AVal) (s1 : List UInt8) (x5 : Int) (s24 : List UInt8) (s : Bool × Int × Mm) (m1 : Mm) (t1 : Tr) : Prop :=
 match s with
 | (c7, x8, m_3) => m_3 = m1 ∧ t1.get 7 = (.b c7) ∧ t1.get 8 = (.i .i64 x8) ∧ t1.get 0 = v0 ∧ t1.get 1 = (.s s1) ∧ t1.get 5 = (.i .i64 x5) ∧ t1.get 6 = (.s s24)
abbrev g43_J1 (v0 : AVal) (s1 : List UInt8) (x5 : Int) (s24 : List UInt8) (o : (Bool × Mm)) (e : AExit) (m1 : Mm) (t1 : Tr) : Prop :=
 match o with
 | (y7, mo) => e = (.exit 2) ∧ mo = m1 ∧ t1.get 7 = (.b y7) ∧ t1.get 0 = v0 ∧ t1.get 1 = (.s s1) ∧ t1.get 5 = (.i .i64 x5) ∧ t1.get 6 = (.s s24)
abbrev g43_J2 (v0 : AVal) (s1 : List UInt8) (x5 : Int) (s24 : List UInt8) (x8 : Int) (m_4 : Mm) (o : Bool) (m1 : Mm) (t1 : Tr) : Prop :=
 match o with
 | c56 => m_4 = m1 ∧ t1.get 56 = (.b c56) ∧ t1.get 0 = v0 ∧ t1.get 1 = (.s s1) ∧ t1.get 5 = (.i .i64 x5) ∧ t1.get 6 = (.s s24) ∧ t1.get 8 = (.i .i64 x8)
abbrev g43_J3 (v0 : AVal) (s1 : List UInt8) (x5 : Int) (s24 : List UInt8) (x8 : Int) (m_4 : Mm) (o : Bool) (m1 : Mm) (t1 : Tr) : Prop :=
 match o with
 | c56_1 => m_4 = m1 ∧ t1.get 56 = (.b c56_1) ∧ t1.get 0 = v0 ∧ t1.get 1 = (.s s1) ∧ t1.get 5 = (.i .i64 x5) ∧ t1.get 6 = (.s s24) ∧ t1.get 8 = (.i .i64 x8)
abbrev g43_J4 (v0 : AVal) (s1 : List UInt8) (x5 : Int) (s24 : List UInt8) (x8 : Int) (m_4 : Mm) (o : Bool) (m1 : Mm) (t1 : Tr) : Prop :=
 match o with
 | c56_2 => m_4 = m1 ∧ t1.get 56 = (.b c56_2) ∧ t1.get 0 = v0 ∧ t1.get 1 = (.s s1) ∧ t1.get 5 = (.i .i64 x5) ∧ t1.get 6 = (.s s24) ∧ t1.get 8 = (.i .i64 x8)
def g43_b1 (M : Means) (ro : List ABlk) (v0 : AVal) (s1 : List UInt8) (x5 : Int) (s24 : List UInt8) (c7 : Bool) (x8 : Int) (m_3 : Mm) : Option ((Bool × Int × Mm) ⊕ ((Bool × Mm))) :=
 bindO (evP .e (.len false (.c v0))) fun v27 =>
 asI .i64 v27 fun x27 =>
 qap (!ltI x27 x8) fun c28 =>
 cond c28 (
  bindP (callM M.call m_3 21 [v0, (.s s1), (.i .i64 x8)]) fun v35 m_4 =>
  bindO (evP .e (.ext 0 (.c v35))) fun v36 =>
  bindO (evP .e (.ext 1 (.c v35))) fun v37 =>
  asI .i64 v37 fun x37 =>
  bindO (cond c7 (
   some true) (
   qap (eqI x37 0) fun c41 =>
   bindO (cond c41 (
    bindO (evP .e (.len false (.c v36))) fun v44 =>
    asI .i64 v44 fun x44 =>
    bindO (evP .e (.len false (.c v0))) fun v46 =>
    asI .i64 v46 fun x46 =>
    qap (eqI x44 x46) fun c47 =>
    bindO (cond c47 (
     bindO (evP .e (.ixS 1 (.c v36) (.c (.i .i64 x5)))) fun v52 =>
     bindO (ldM ro m_4 true 1 v52) fun v53 =>
     asI .i64 v53 fun x53 =>
     qap (ltI 0 x53) fun c54 =>
     some c54) (
     some false)) fun c56_2 =>
    some c56_2) (
    some false)) fun c56_1 =>
   some c56_1)) fun c56 =>
  qax (wr .i64 (x8 + 1)) fun x30 =>
  some (.inl (c56, x30, m_4))) (
  some (.inr (c7, m_3)))
abbrev g43_I5 (v0 : AVal) (s1 : List UInt8) (x5 : Int) (s24 : List UInt8) (c7_1 : Bool) (s : Int × Mm) (m1 : Mm) (t1 : Tr) : Prop :=
 match s with
 | (x11, m_6) => m_6 = m1 ∧ t1.get 11 = (.i .i64 x11) ∧ t1.get 0 = v0 ∧ t1.get 1 = (.s s1) ∧ t1.get 5 = (.i .i64 x5) ∧ t1.get 6 = (.s s24) ∧ t1.get 7 = (.b c7_1)
abbrev g43_J5 (v0 : AVal) (s1 : List UInt8) (x5 : Int) (s24 : List UInt8) (c7_1 : Bool) (o : (Mm ⊕ (Bool × Mm))) (e : AExit) (m1 : Mm) (t1 : Tr) : Prop :=
 match o with
 | (.inl mo) => e = (.exit 4) ∧ mo = m1 ∧ t1.get 0 = v0 ∧ t1.get 1 = (.s s1) ∧ t1.get 5 = (.i .i64 x5)
 | (.inr (y4, mo)) => e = .ret ∧ mo = m1 ∧ t1.get 4 = (.b y4)
abbrev g43_J6 (v0 : AVal) (s1 : List UInt8) (x5 : Int) (s24 : List UInt8) (c7_1 : Bool) (x11 : Int) (m_6 : Mm) (o : Bool) (m1 : Mm) (t1 : Tr) : Prop :=
 match o with
 | c61 => m_6 = m1 ∧ t1.get 61 = (.b c61) ∧ t1.get 0 = v0 ∧ t1.get 1 = (.s s1) ∧ t1.get 5 = (.i .i64 x5) ∧ t1.get 6 = (.s s24) ∧ t1.get 7 = (.b c7_1) ∧ t1.get 11 = (.i .i64 x11)
abbrev g43_J7 (v0 : AVal) (s1 : List UInt8) (x5 : Int) (s24 : List UInt8) (c7_1 : Bool) (x11 : Int) (m_7 : Mm) (o : Bool) (m1 : Mm) (t1 : Tr) : Prop :=
 match o with
 | c90 => m_7 = m1 ∧ t1.get 90 = (.b c90) ∧ t1.get 0 = v0 ∧ t1.get 1 = (.s s1) ∧ t1.get 5 = (.i .i64 x5) ∧ t1.get 6 = (.s s24) ∧ t1.get 7 = (.b c7_1) ∧ t1.get 11 = (.i .i64 x11)
abbrev g43_J8 (v0 : AVal) (s1 : List UInt8) (x5 : Int) (s24 : List UInt8) (c7_1 : Bool) (x11 : Int) (m_7 : Mm) (o : Bool) (m1 : Mm) (t1 : Tr) : Prop :=
 match o with
 | c90_1 => m_7 = m1 ∧ t1.get 90 = (.b c90_1) ∧ t1.get 0 = v0 ∧ t1.get 1 = (.s s1) ∧ t1.get 5 = (.i .i64 x5) ∧ t1.get 6 = (.s s24) ∧ t1.get 7 = (.b c7_1) ∧ t1.get 11 = (.i .i64 x11)
abbrev g43_J9 (v0 : AVal) (s1 : List UInt8) (x5 : Int) (s24 : List UInt8) (c7_1 : Bool) (x11 : Int) (m_7 : Mm) (o : Bool) (m1 : Mm) (t1 : Tr) : Prop :=
 match o with
 | c90_2 => m_7 = m1 ∧ t1.get 90 = (.b c90_2) ∧ t1.get 0 = v0 ∧ t1.get 1 = (.s s1) ∧ t1.get 5 = (.i .i64 x5) ∧ t1.get 6 = (.s s24) ∧ t1.get 7 = (.b c7_1) ∧ t1.get 11 = (.i .i64 x11)
def g43_b5 (M : Means) (ro : List ABlk) (v0 : AVal) (s1 : List UInt8) (x5 : Int) (s24 : List UInt8) (c7_1 : Bool) (x11 : Int) (m_6 : Mm) : Option ((Int × Mm) ⊕ ((Mm ⊕ (Bool × Mm)))) :=
 qap (!ltI 36 x11) fun c58 =>
 bindO (cond c58 (
  some c7_1) (
  some false)) fun c61 =>
 cond c61 (
  bindP (callM M.call m_6 21 [v0, (.s s24), (.i .i64 x11)]) fun v68 m_7 =>
  bindO (evP .e (.ext 0 (.c v68))) fun v69 =>
  bindO (evP .e (.ext 1 (.c v68))) fun v70 =>
  asI .i64 v70 fun x70 =>
  qap (eqI x70 4) fun c72 =>
  bindO (cond c72 (
   some true) (
   qap (eqI x70 0) fun c75 =>
   bindO (cond c75 (
    bindO (evP .e (.len false (.c v69))) fun v78 =>
    asI .i64 v78 fun x78 =>
    bindO (evP .e (.len false (.c v0))) fun v80 =>
    asI .i64 v80 fun x80 =>
    qap (eqI x78 x80) fun c81 =>
    bindO (cond c81 (
     bindO (evP .e (.ixS 1 (.c v69) (.c (.i .i64 x5)))) fun v86 =>
     bindO (ldM ro m_7 true 1 v86) fun v87 =>
     asI .i64 v87 fun x87 =>
     qap (!ltI x87 2) fun c88 =>
     some c88) (
     some false)) fun c90_2 =>
    some c90_2) (
    some false)) fun c90_1 =>
   some c90_1)) fun c90 =>
  cond c90 (
   some (.inr (.inr (true, m_7)))) (
   qax (wr .i64 (x11 + 1)) fun x63 =>
   some (.inl (x63, m_7)))) (
  some (.inr (.inl m_6)))
def g43_b0 (M : Means) (ro : List ABlk) (v0 : AVal) (s1 : List UInt8) (x5 : Int) (m_1 : Mm) : Option ((Int × Mm) ⊕ ((Mm ⊕ (Bool × Mm)))) :=
 bindO (evP .e (.len false (.c v0))) fun v16 =>
 asI .i64 v16 fun x16 =>
 qap (ltI x5 x16) fun c17 =>
 cond c17 (
  qax (wr .i64 (97 + x5)) fun x21 =>
  qax (wr .u8 x21) fun x22 =>
  bindP (stepM ro m_1 (.bsl 5 1 [(AVal.i IntKind.u8 0)] 1 [((0, 1), .c (.i .u8 x22))])) fun v23 m_2 =>
  bindO (btsM ro m_2 v23) fun v24 =>
  asS v24 fun s24 =>
  bindO (M.loop (S := Bool × Int × Mm) (R := (Bool × Mm)) (fun s => g43_b1 M ro v0 s1 x5 s24 s.1 s.2.1 s.2.2) (false, 0, m_2)) fun ⟨c7_1, m_5⟩ =>
  bindO (M.loop (S := Int × Mm) (R := (Mm ⊕ (Bool × Mm))) (fun s => g43_b5 M ro v0 s1 x5 s24 c7_1 s.1 s.2) (1, m_5)) fun o_8 => match o_8 with
  | (.inl m_8) =>
   qax (wr .i64 (x5 + 1)) fun x19 =>
   some (.inl (x19, m_8))
  | (.inr (c4, m_9)) =>
   some (.inr (.inr (c4, m_9)))) (
  some (.inr (.inl m_1)))
def g43 (M : Means) (ro : List ABlk) (v0 : AVal) (s1 : List UInt8) (m0 : Mm) : Option (AVal × Heap × Nat × Nat) :=
 bindO (M.loop (S := Int × Mm) (R := (Mm ⊕ (Bool × Mm))) (fun s => g43_b0 M ro v0 s1 s.1 s.2) (0, m0)) fun o_9 => match o_9 with
 | (.inl m_10) =>
  finM m0.h.length (tupA [(.b false)]) m_10
 | (.inr (c4_1, m_11)) =>
  finM m0.h.length (tupA [(.b c4_1)]) m_11
theorem g43_ok {ro : List ABlk} {O : qao} {M : Means} (hM : M.Ok ⟨F, O⟩ ro) {v0 s1 h r} (ho : O 43 [v0, (.s s1)] h = none) (hr : g43 M ro v0 s1 ⟨h, h.length, h.length⟩ = some r) : callX ⟨F, O⟩ ro 43 [v0, (.s s1)] h = some r := by
 refine qbc (F := ⟨F, O⟩) (fn := fn43) (g := g43 M ro v0 s1) ho rfl rfl hr ?_
 clear ho
 clear hr
 intro m0 t0 ht hr
 have g0 : t0.get 0 = v0 := ht 0
 have g1 : t0.get 1 = (.s s1) := ht 1
 clear ht
 unfold g43 at hr
 refine w_seq (w_ops (wsp (v := (.b false)) (p_mv rfl) (qac (qab (w_seq (w_seq (w_ops (wsp (v := (.i .i64 0)) (p_mv rfl) (qac (qab ?_))))))))))
 refine qau ?_
 obtain ⟨o_9, hl_2, z1⟩ := qaa hr
 obtain ⟨n_2, hl_2⟩ := hM.loop _ _ _ hl_2
 refine qbl (qbw _ (g43_I0 v0 s1) (g43_J0 v0 s1) ?_ n_2 _ _ _ _ hl_2 ⟨rfl, gl rfl, gl g0, gl g1⟩) ?_
 ·clear z1 hl_2
  intro s mm_14 t_1 o hi hr
  obtain ⟨x5, m_1⟩ := s
  obtain ⟨rfl, g5, g0, g1⟩ := hi
  unfold g43_b0 at hr
  refine w_seq (w_seq (w_ops (wsp (p_mv g5) (wsp (p_mv g0) ?_))))
  obtain ⟨v16, e16, z2⟩ := qaa hr
  obtain ⟨x16, rfl, z3⟩ := qam z2
  refine wsp (o_len rfl e16) ?_
  obtain ⟨c17, e17, z4⟩ := qad z3
  refine wsp (p_bin rfl rfl (b_lss.trans (cb e17))) (qac (qab ?_))
  rcases qai z4 with ⟨rfl, z5⟩ | ⟨rfl, z5⟩
  ·refine qas rfl ?_
   refine qbb (qab (w_seq ?_))
   refine qau ?_
   refine w_seq (w_ops (wsp (p_mv g5) ?_))
   obtain ⟨x21, e21, z6⟩ := qaj z5
   refine wsp (p_bin rfl rfl (b_add.trans (ci e21))) ?_
   obtain ⟨x22, e22, z7⟩ := qaj z6
   refine wsp ((qkp rfl).trans (ci e22)) ?_
   obtain ⟨v23, m_2, e23, z8⟩ := qaf z7
   refine qan (s_bsl (qc rfl qn) e23) ?_
   obtain ⟨v24, e24, z9⟩ := qaa z8
   obtain ⟨s24, rfl, z10⟩ := qck z9
   refine qan (s_bts rfl e24) (wsp (v := (.s s24)) (p_mv rfl) (qac (qab (w_seq (w_ops (wsp (v := (.b false)) (p_mv rfl) (qac (qab (w_seq (w_seq (w_ops ?_)))))))))))
   refine wsp (v := (.i .i64 0)) (p_mv rfl) (qac (qab ?_))
   refine qau ?_
   obtain ⟨o_3, hl_1, z11⟩ := qaa z10
   obtain ⟨n_1, hl_1⟩ := hM.loop _ _ _ hl_1
   refine qbl (qbw _ (g43_I1 v0 s1 x5 s24) (g43_J1 v0 s1 x5 s24) ?_ n_1 _ _ _ _ hl_1 ⟨rfl, gl rfl, gl rfl, gl g0, gl g1, gl g5, gl rfl⟩) ?_
   ·clear z11 hl_1
    intro s mm_11 t_2 o hi hr
    obtain ⟨c7, x8, m_3⟩ := s
    obtain ⟨rfl, g7, g8, g0, g1, g5, g6⟩ := hi
    unfold g43_b1 at hr
    refine w_seq (w_seq (w_ops (wsp (p_mv g8) (wsp (p_mv g0) ?_))))
    obtain ⟨v27, e27, z12⟩ := qaa hr
    obtain ⟨x27, rfl, z13⟩ := qam z12
    refine wsp (o_len rfl e27) ?_
    obtain ⟨c28, e28, z14⟩ := qad z13
    refine wsp (p_bin rfl rfl (b_leq.trans (cb e28))) (qac (qab ?_))
    rcases qai z14 with ⟨rfl, z15⟩ | ⟨rfl, z15⟩
    ·refine qas rfl ?_
     refine qbb (qab (w_seq ?_))
     refine qau ?_
     refine w_seq (w_ops (wsp (p_mv g0) (wsp (p_mv g1) (wsp (p_mv g8) ?_))))
     obtain ⟨v35, m_4, e35, z16⟩ := qaf z15
     refine qan (qbf (mc rfl (mc rfl (mc rfl mn))) (qaq hM.call e35)) (wsp (v := v35) (p_mv rfl) ?_)
     obtain ⟨v36, e36, z17⟩ := qaa z16
     refine wsp (o_ext rfl e36) ?_
     obtain ⟨v37, e37, z18⟩ := qaa z17
     obtain ⟨x37, rfl, z19⟩ := qam z18
     refine wsp (o_ext rfl e37) (wsp (v := v36) (p_mv rfl) (wsp (v := (.i .i64 x37)) (p_mv rfl) (qac (qab (w_ops (wsp (p_mv g7) (wsp (v := (.b c7)) (p_mv rfl) ?_)))))))
     obtain ⟨o, z20, hk⟩ := qaa z19
     refine qbn 17 (g43_J2 v0 s1 x5 s24 x8 m_4 o) ?_ ?_
     ·clear hk
      rcases qai z20 with ⟨rfl, z21⟩ | ⟨rfl, z21⟩
      ·refine qae (v := (.b true)) rfl rfl (qae (v := (.b true)) rfl rfl (qae (v := (.b true)) rfl rfl (qae (v := und) rfl rfl (qae (v := und) rfl rfl (qae (v := und) rfl rfl (qae (v := und) rfl rfl (qae (v := und) rfl rfl (qae (v := (.b true)) rfl rfl (qae (v := (.b true)) rfl rfl (qae (v := und) rfl rfl (qae (v := und) rfl rfl ?_)))))))))))
       refine qae (v := und) rfl rfl (qae (v := und) rfl rfl (qae (v := und) rfl rfl (qae (v := (.b true)) rfl rfl (wsp (v := (.b true)) (qbj rfl rfl) (qac ?_)))))
       cases z21
       exact ⟨_, _, rfl, rfl, gl rfl, gl g0, gl g1, gl g5, gl g6, gl g8⟩
      ·refine qah (v := (.i .i64 x37)) rfl (qag (p_mv rfl)) ?_
       obtain ⟨c41, e41, z22⟩ := qad z21
       refine qah (v := (.b c41)) rfl (qag (p_bin rfl rfl (b_eql.trans (cb e41)))) (qah (v := (.b c41)) rfl (qag (p_mv rfl)) ?_)
       obtain ⟨o_1, z23, hk⟩ := qaa z22
       refine qbn 14 (g43_J3 v0 s1 x5 s24 x8 m_4 o_1) ?_ ?_
       ·clear hk
        rcases qai z23 with ⟨rfl, z24⟩ | ⟨rfl, z24⟩
        ·refine qah (v := v36) rfl (qag (p_mv rfl)) ?_
         obtain ⟨v44, e44, z25⟩ := qaa z24
         obtain ⟨x44, rfl, z26⟩ := qam z25
         refine qah (v := (.i .i64 x44)) rfl (qag (o_len rfl e44)) (qah (v := v0) rfl (qag (p_mv g0)) ?_)
         obtain ⟨v46, e46, z27⟩ := qaa z26
         obtain ⟨x46, rfl, z28⟩ := qam z27
         refine qah (v := (.i .i64 x46)) rfl (qag (o_len rfl e46)) ?_
         obtain ⟨c47, e47, z29⟩ := qad z28
         refine qah (v := (.b c47)) rfl (qag (p_bin rfl rfl (b_eql.trans (cb e47)))) (qah (v := (.b c47)) rfl (qag (qbj rfl rfl)) (qah (v := (.b c47)) rfl (qag (p_mv rfl)) ?_))
         obtain ⟨o_2, z30, hk⟩ := qaa z29
         refine qbn 7 (g43_J4 v0 s1 x5 s24 x8 m_4 o_2) ?_ ?_
         ·clear hk
          rcases qai z30 with ⟨rfl, z31⟩ | ⟨rfl, z31⟩
          ·refine qah (v := v36) rfl (qag (p_mv rfl)) (qah (v := (.i .i64 x5)) rfl (qag (p_mv g5)) ?_)
           obtain ⟨v52, e52, z32⟩ := qaa z31
           refine qah (v := v52) rfl (qag (o_ixS rfl rfl e52)) ?_
           obtain ⟨v53, e53, z33⟩ := qaa z32
           obtain ⟨x53, rfl, z34⟩ := qam z33
           refine qah (v := (.i .i64 x53)) rfl (s_ld rfl e53) ?_
           obtain ⟨c54, e54, z35⟩ := qad z34
           refine qah (v := (.b c54)) rfl (qag (p_bin rfl rfl (b_gtr.trans (cb e54)))) (qah (v := (.b c54)) rfl (qag (qbj rfl rfl)) (wsp (v := (.b c54)) (qbd rfl rfl) (qac ?_)))
           cases z35
           exact ⟨_, _, rfl, rfl, gl rfl, gl g0, gl g1, gl g5, gl g6, gl g8⟩
          ·refine qae (v := (.b false)) rfl rfl (qae (v := (.b false)) rfl rfl (qae (v := (.b false)) rfl rfl (qae (v := (.b false)) rfl rfl (qae (v := (.b false)) rfl rfl (qah (v := (.b false)) rfl (qag (qbd rfl rfl)) (wsp (v := (.b false)) (qbd rfl rfl) (qac ?_)))))))
           cases z31
           exact ⟨_, _, rfl, rfl, gl rfl, gl g0, gl g1, gl g5, gl g6, gl g8⟩
         ·clear z30
          have hr := hk
          clear hk
          obtain ⟨c56_2, ho⟩ : ∃ z, z = o_2 := ⟨_, rfl⟩
          subst ho
          rintro mm t_3 ⟨rfl, g56, g0, g1, g5, g6, g8⟩
          refine qac ?_
          cases hr
          exact ⟨_, _, rfl, rfl, gl g56, gl g0, gl g1, gl g5, gl g6, gl g8⟩
        ·refine qae (v := (.b false)) rfl rfl (qae (v := (.b false)) rfl rfl (qae (v := (.b false)) rfl rfl (qae (v := (.b false)) rfl rfl (qae (v := (.b false)) rfl rfl (qah (v := (.b false)) rfl (qag (qbd rfl rfl)) (qah (v := (.b false)) rfl (qag (p_mv rfl)) (qae (v := (.b false)) rfl rfl (qae (v := (.b false)) rfl rfl (qae (v := (.b false)) rfl rfl (qae (v := (.b false)) rfl rfl (qae (v := (.b false)) rfl rfl ?_)))))))))))
         refine qah (v := (.b false)) rfl (qag (qbd rfl rfl)) (wsp (v := (.b false)) (qbd rfl rfl) (qac ?_))
         cases z24
         exact ⟨_, _, rfl, rfl, gl rfl, gl g0, gl g1, gl g5, gl g6, gl g8⟩
       ·clear z23
        have hr := hk
        clear hk
        obtain ⟨c56_1, ho⟩ : ∃ z, z = o_1 := ⟨_, rfl⟩
        subst ho
        rintro mm_1 t_4 ⟨rfl, g56, g0, g1, g5, g6, g8⟩
        refine qac ?_
        cases hr
        exact ⟨_, _, rfl, rfl, gl g56, gl g0, gl g1, gl g5, gl g6, gl g8⟩
     ·clear z20
      have hr := hk
      clear hk
      obtain ⟨c56, ho⟩ : ∃ z, z = o := ⟨_, rfl⟩
      subst ho
      rintro mm_2 t_5 ⟨rfl, g56, g0, g1, g5, g6, g8⟩
      refine wsp (p_mv g56) (qac ?_)
      refine qbo ?_
      refine qab (w_ops (wsp (p_mv g8) ?_))
      obtain ⟨x30, e30, z36⟩ := qaj hr
      refine wsp (p_bin rfl rfl (b_add.trans (ci e30))) (wsp (v := (.i .i64 x30)) (p_mv rfl) (qac ?_))
      cases z36
      exact ⟨_, _, rfl, rfl, rfl, gl rfl, gl rfl, gl g0, gl g1, gl g5, gl g6⟩
    ·refine qat rfl ?_
     refine qbz ?_
     refine qbp ?_
     cases z15
     exact ⟨_, _, rfl, qar, rfl, rfl, gl g7, gl g0, gl g1, gl g5, gl g6⟩
   ·obtain ⟨c7_1, m_5⟩ := o_3
    rintro _ mm_10 t_6 ⟨rfl, rfl, g7, g0, g1, g5, g6⟩
    refine qca ?_
    refine qab (w_seq (w_ops (wsp (v := (.i .i64 1)) (p_mv rfl) (qac (qab ?_)))))
    refine qau ?_
    obtain ⟨o_8, hl, z37⟩ := qaa z11
    obtain ⟨n, hl⟩ := hM.loop _ _ _ hl
    refine qbl (qbw _ (g43_I5 v0 s1 x5 s24 c7_1) (g43_J5 v0 s1 x5 s24 c7_1) ?_ n _ _ _ _ hl ⟨rfl, gl rfl, gl g0, gl g1, gl g5, gl g6, gl g7⟩) ?_
    ·clear z37 hl
     intro s mm_9 t_7 o hi hr
     obtain ⟨x11, m_6⟩ := s
     obtain ⟨rfl, g11, g0, g1, g5, g6, g7⟩ := hi
     unfold g43_b5 at hr
     refine w_seq (w_seq (w_ops (wsp (p_mv g11) ?_)))
     obtain ⟨c58, e58, z38⟩ := qad hr
     refine wsp (p_bin rfl rfl (b_leq.trans (cb e58))) (wsp (v := (.b c58)) (p_mv rfl) ?_)
     obtain ⟨o_4, z39, hk⟩ := qaa z38
     refine qbn 2 (g43_J6 v0 s1 x5 s24 c7_1 x11 m_6 o_4) ?_ ?_
     ·clear hk
      rcases qai z39 with ⟨rfl, z40⟩ | ⟨rfl, z40⟩
      ·refine qah (v := (.b c7_1)) rfl (qag (p_mv g7)) (wsp (v := (.b c7_1)) (qbj rfl rfl) (qac ?_))
       cases z40
       exact ⟨_, _, rfl, rfl, gl rfl, gl g0, gl g1, gl g5, gl g6, gl g7, gl g11⟩
      ·refine qae (v := (.b false)) rfl rfl (wsp (v := (.b false)) (qbd rfl rfl) (qac ?_))
       cases z40
       exact ⟨_, _, rfl, rfl, gl rfl, gl g0, gl g1, gl g5, gl g6, gl g7, gl g11⟩
     ·clear z39
      have hr := hk
      clear hk
      obtain ⟨c61, ho⟩ : ∃ z, z = o_4 := ⟨_, rfl⟩
      subst ho
      rintro mm_3 t_8 ⟨rfl, g61, g0, g1, g5, g6, g7, g11⟩
      refine qac (qab ?_)
      rcases qai hr with ⟨rfl, z41⟩ | ⟨rfl, z41⟩
      ·refine qas g61 ?_
       refine qbb (qab (w_seq ?_))
       refine qau ?_
       refine w_seq (w_ops (wsp (p_mv g0) (wsp (p_mv g6) (wsp (p_mv g11) ?_))))
       obtain ⟨v68, m_7, e68, z42⟩ := qaf z41
       refine qan (qbf (mc rfl (mc rfl (mc rfl mn))) (qaq hM.call e68)) (wsp (v := v68) (p_mv rfl) ?_)
       obtain ⟨v69, e69, z43⟩ := qaa z42
       refine wsp (o_ext rfl e69) ?_
       obtain ⟨v70, e70, z44⟩ := qaa z43
       obtain ⟨x70, rfl, z45⟩ := qam z44
       refine wsp (o_ext rfl e70) (wsp (v := v69) (p_mv rfl) (wsp (v := (.i .i64 x70)) (p_mv rfl) (qac (qab (w_seq (w_ops (wsp (v := (.i .i64 x70)) (p_mv rfl) ?_)))))))
       obtain ⟨c72, e72, z46⟩ := qad z45
       refine wsp (p_bin rfl rfl (b_eql.trans (cb e72))) (wsp (v := (.b c72)) (p_mv rfl) ?_)
       obtain ⟨o_5, z47, hk⟩ := qaa z46
       refine qbn 17 (g43_J7 v0 s1 x5 s24 c7_1 x11 m_7 o_5) ?_ ?_
       ·clear hk
        rcases qai z47 with ⟨rfl, z48⟩ | ⟨rfl, z48⟩
        ·refine qae (v := (.b true)) rfl rfl (qae (v := (.b true)) rfl rfl (qae (v := (.b true)) rfl rfl (qae (v := und) rfl rfl (qae (v := und) rfl rfl (qae (v := und) rfl rfl (qae (v := und) rfl rfl (qae (v := und) rfl rfl (qae (v := (.b true)) rfl rfl (qae (v := (.b true)) rfl rfl (qae (v := und) rfl rfl (qae (v := und) rfl rfl ?_)))))))))))
         refine qae (v := und) rfl rfl (qae (v := und) rfl rfl (qae (v := und) rfl rfl (qae (v := (.b true)) rfl rfl (wsp (v := (.b true)) (qbj rfl rfl) (qac ?_)))))
         cases z48
         exact ⟨_, _, rfl, rfl, gl rfl, gl g0, gl g1, gl g5, gl g6, gl g7, gl g11⟩
        ·refine qah (v := (.i .i64 x70)) rfl (qag (p_mv rfl)) ?_
         obtain ⟨c75, e75, z49⟩ := qad z48
         refine qah (v := (.b c75)) rfl (qag (p_bin rfl rfl (b_eql.trans (cb e75)))) (qah (v := (.b c75)) rfl (qag (p_mv rfl)) ?_)
         obtain ⟨o_6, z50, hk⟩ := qaa z49
         refine qbn 14 (g43_J8 v0 s1 x5 s24 c7_1 x11 m_7 o_6) ?_ ?_
         ·clear hk
          rcases qai z50 with ⟨rfl, z51⟩ | ⟨rfl, z51⟩
          ·refine qah (v := v69) rfl (qag (p_mv rfl)) ?_
           obtain ⟨v78, e78, z52⟩ := qaa z51
           obtain ⟨x78, rfl, z53⟩ := qam z52
           refine qah (v := (.i .i64 x78)) rfl (qag (o_len rfl e78)) (qah (v := v0) rfl (qag (p_mv g0)) ?_)
           obtain ⟨v80, e80, z54⟩ := qaa z53
           obtain ⟨x80, rfl, z55⟩ := qam z54
           refine qah (v := (.i .i64 x80)) rfl (qag (o_len rfl e80)) ?_
           obtain ⟨c81, e81, z56⟩ := qad z55
           refine qah (v := (.b c81)) rfl (qag (p_bin rfl rfl (b_eql.trans (cb e81)))) (qah (v := (.b c81)) rfl (qag (qbj rfl rfl)) (qah (v := (.b c81)) rfl (qag (p_mv rfl)) ?_))
           obtain ⟨o_7, z57, hk⟩ := qaa z56
           refine qbn 7 (g43_J9 v0 s1 x5 s24 c7_1 x11 m_7 o_7) ?_ ?_
           ·clear hk
            rcases qai z57 with ⟨rfl, z58⟩ | ⟨rfl, z58⟩
            ·refine qah (v := v69) rfl (qag (p_mv rfl)) (qah (v := (.i .i64 x5)) rfl (qag (p_mv g5)) ?_)
             obtain ⟨v86, e86, z59⟩ := qaa z58
             refine qah (v := v86) rfl (qag (o_ixS rfl rfl e86)) ?_
             obtain ⟨v87, e87, z60⟩ := qaa z59
             obtain ⟨x87, rfl, z61⟩ := qam z60
             refine qah (v := (.i .i64 x87)) rfl (s_ld rfl e87) ?_
             obtain ⟨c88, e88, z62⟩ := qad z61
             refine qah (v := (.b c88)) rfl (qag (p_bin rfl rfl (b_geq.trans (cb e88)))) (qah (v := (.b c88)) rfl (qag (qbj rfl rfl)) (wsp (v := (.b c88)) (qbd rfl rfl) (qac ?_)))
             cases z62
             exact ⟨_, _, rfl, rfl, gl rfl, gl g0, gl g1, gl g5, gl g6, gl g7, gl g11⟩
            ·refine qae (v := (.b false)) rfl rfl (qae (v := (.b false)) rfl rfl (qae (v := (.b false)) rfl rfl (qae (v := (.b false)) rfl rfl (qae (v := (.b false)) rfl rfl (qah (v := (.b false)) rfl (qag (qbd rfl rfl)) (wsp (v := (.b false)) (qbd rfl rfl) (qac ?_)))))))
             cases z58
             exact ⟨_, _, rfl, rfl, gl rfl, gl g0, gl g1, gl g5, gl g6, gl g7, gl g11⟩
           ·clear z57
            have hr := hk
            clear hk
            obtain ⟨c90_2, ho⟩ : ∃ z, z = o_7 := ⟨_, rfl⟩
            subst ho
            rintro mm_4 t_9 ⟨rfl, g90, g0, g1, g5, g6, g7, g11⟩
            refine qac ?_
            cases hr
            exact ⟨_, _, rfl, rfl, gl g90, gl g0, gl g1, gl g5, gl g6, gl g7, gl g11⟩
          ·refine qae (v := (.b false)) rfl rfl (qae (v := (.b false)) rfl rfl (qae (v := (.b false)) rfl rfl (qae (v := (.b false)) rfl rfl (qae (v := (.b false)) rfl rfl (qah (v := (.b false)) rfl (qag (qbd rfl rfl)) (qah (v := (.b false)) rfl (qag (p_mv rfl)) (qae (v := (.b false)) rfl rfl (qae (v := (.b false)) rfl rfl (qae (v := (.b false)) rfl rfl (qae (v := (.b false)) rfl rfl (qae (v := (.b false)) rfl rfl ?_)))))))))))
           refine qah (v := (.b false)) rfl (qag (qbd rfl rfl)) (wsp (v := (.b false)) (qbd rfl rfl) (qac ?_))
           cases z51
           exact ⟨_, _, rfl, rfl, gl rfl, gl g0, gl g1, gl g5, gl g6, gl g7, gl g11⟩
         ·clear z50
          have hr := hk
          clear hk
          obtain ⟨c90_1, ho⟩ : ∃ z, z = o_6 := ⟨_, rfl⟩
          subst ho
          rintro mm_5 t_10 ⟨rfl, g90, g0, g1, g5, g6, g7, g11⟩
          refine qac ?_
          cases hr
          exact ⟨_, _, rfl, rfl, gl g90, gl g0, gl g1, gl g5, gl g6, gl g7, gl g11⟩
       ·clear z47
        have hr := hk
        clear hk
        obtain ⟨c90, ho⟩ : ∃ z, z = o_5 := ⟨_, rfl⟩
        subst ho
        rintro mm_6 t_11 ⟨rfl, g90, g0, g1, g5, g6, g7, g11⟩
        refine qac (qab ?_)
        rcases qai hr with ⟨rfl, z63⟩ | ⟨rfl, z63⟩
        ·refine qas g90 ?_
         refine w_seq (w_ops (wsp (v := (.b true)) (p_mv rfl) (qac (qab ?_))))
         refine w_ret ?_
         refine qco ?_
         refine qbm ?_
         cases z63
         exact ⟨_, _, rfl, qcb, rfl, rfl, gl rfl⟩
        ·refine qat g90 ?_
         refine qbb ?_
         refine qbo ?_
         refine qab (w_ops (wsp (p_mv g11) ?_))
         obtain ⟨x63, e63, z64⟩ := qaj z63
         refine wsp (p_bin rfl rfl (b_add.trans (ci e63))) (wsp (v := (.i .i64 x63)) (p_mv rfl) (qac ?_))
         cases z64
         exact ⟨_, _, rfl, rfl, rfl, gl rfl, gl g0, gl g1, gl g5, gl g6, gl g7⟩
      ·refine qat g61 ?_
       refine qbz ?_
       refine qbp ?_
       cases z41
       exact ⟨_, _, rfl, qar, rfl, rfl, gl g0, gl g1, gl g5⟩
    ·rcases o_8 with o_8 | o_8
     ·obtain ⟨m_8, ho⟩ : ∃ z, z = o_8 := ⟨_, rfl⟩
      subst ho
      rintro _ mm_7 t_12 ⟨rfl, rfl, g0, g1, g5⟩
      refine qca ?_
      refine qbo ?_
      refine qab (w_ops (wsp (p_mv g5) ?_))
      obtain ⟨x19, e19, z65⟩ := qaj z37
      refine wsp (p_bin rfl rfl (b_add.trans (ci e19))) (wsp (v := (.i .i64 x19)) (p_mv rfl) (qac ?_))
      cases z65
      exact ⟨_, _, rfl, rfl, rfl, gl rfl, gl g0, gl g1⟩
     ·obtain ⟨c4, m_9⟩ := o_8
      rintro _ mm_8 t_13 ⟨rfl, rfl, g4⟩
      refine qco ?_
      refine qco ?_
      refine qbm ?_
      cases z37
      exact ⟨_, _, rfl, qcb, rfl, rfl, gl g4⟩
  ·refine qat rfl ?_
   refine qbz ?_
   refine qbp ?_
   cases z5
   exact ⟨_, _, rfl, qar, rfl, rfl⟩
 ·rcases o_9 with o_9 | o_9
  ·obtain ⟨m_10, ho⟩ : ∃ z, z = o_9 := ⟨_, rfl⟩
   subst ho
   rintro _ mm_12 t_14 ⟨rfl, rfl⟩
   refine qca ?_
   refine qab (w_seq (w_ops (wsp (v := (.b false)) (p_mv rfl) (qac (qab ?_)))))
   refine w_ret ?_
   exact qf qba (rt rfl rn) z1
  ·obtain ⟨c4_1, m_11⟩ := o_9
   rintro _ mm_13 t_15 ⟨rfl, rfl, g4⟩
   refine qco ?_
   refine qbm ?_
   exact qf qba (rt g4 rn) z1
/- dibber/dibberlaw03.lengths -/
abbrev g44_I0 (v0 : AVal) (s1 : List UInt8) (x2 : Int) (x3 : Int) (s : AVal × Int × Mm) (m1 : Mm) (t1 : Tr) : Prop :=
 match s with
 | (v10, x11, m_1) => m_1 = m1 ∧ t1.get 10 = v10 ∧ t1.get 11 = (.i .i64 x11) ∧ t1.get 0 = v0 ∧ t1.get 1 = (.s s1) ∧ t1.get 2 = (.i .i64 x2) ∧ t1.get 3 = (.i .i64 x3)
abbrev g44_J0 (v0 : AVal) (s1 : List UInt8) (x2 : Int) (x3 : Int) (o : ((AVal × Mm) ⊕ (AVal × Bool × Mm))) (e : AExit) (m1 : Mm) (t1 : Tr) : Prop :=
 match o with
 | (.inl (y10, mo)) => e = (.exit 0) ∧ mo = m1 ∧ t1.get 10 = y10
 | (.inr (y8, y9, mo)) => e = .ret ∧ mo = m1 ∧ t1.get 8 = y8 ∧ t1.get 9 = (.b y9)
abbrev g44_J1 (v0 : AVal) (s1 : List UInt8) (x2 : Int) (x3 : Int) (v10 : AVal) (x11 : Int) (x27 : Int) (m_2 : Mm) (o : Bool) (m1 : Mm) (t1 : Tr) : Prop :=
 match o with
 | c34 => m_2 = m1 ∧ t1.get 34 = (.b c34) ∧ t1.get 0 = v0 ∧ t1.get 1 = (.s s1) ∧ t1.get 2 = (.i .i64 x2) ∧ t1.get 3 = (.i .i64 x3) ∧ t1.get 10 = v10 ∧ t1.get 11 = (.i .i64 x11) ∧ t1.get 12 = (.i .i64 x27)
def g44_b0 (M : Means) (ro : List ABlk) (v0 : AVal) (s1 : List UInt8) (x2 : Int) (x3 : Int) (v10 : AVal) (x11 : Int) (m_1 : Mm) : Option ((AVal × Int × Mm) ⊕ (((AVal × Mm) ⊕ (AVal × Bool × Mm)))) :=
 qap (ltI x11 x3) fun c16 =>
 cond c16 (
  qax (wr .i64 (60 * x11)) fun x24 =>
  qax (wr .i64 (x2 + x24)) fun x25 =>
  bindP (callM M.call m_1 19 [v0, (.s s1), (.i .i64 x25)]) fun v26 m_2 =>
  bindO (evP .e (.ext 0 (.c v26))) fun v27 =>
  asI .i64 v27 fun x27 =>
  bindO (evP .e (.ext 1 (.c v26))) fun v28 =>
  asI .i64 v28 fun x28 =>
  qap (!eqI x28 0) fun c30 =>
  bindO (cond c30 (
   some true) (
   qap (ltI 1125899906842624 x27) fun c33 =>
   some c33)) fun c34 =>
  cond c34 (
   some (.inr (.inr (AVal.nsl, false, m_2)))) (
   bindP (stepM ro m_2 (.bsl 3 1 [(AVal.i IntKind.i64 0)] 1 [((0, 1), .c (.i .i64 x27))])) fun v37 m_3 =>
   bindP (stepM ro m_3 (.app 3 1 8 [(AVal.i IntKind.i64 0)] (.c v10) (.c v37))) fun v38 m_4 =>
   qax (wr .i64 (x11 + 1)) fun x18 =>
   some (.inl (v38, x18, m_4)))) (
  some (.inr (.inl (v10, m_1))))
def g44 (M : Means) (ro : List ABlk) (v0 : AVal) (s1 : List UInt8) (x2 : Int) (x3 : Int) (m0 : Mm) : Option (AVal × Heap × Nat × Nat) :=
 bindO (M.loop (S := AVal × Int × Mm) (R := ((AVal × Mm) ⊕ (AVal × Bool × Mm))) (fun s => g44_b0 M ro v0 s1 x2 x3 s.1 s.2.1 s.2.2) (AVal.nsl, 0, m0)) fun o_1 => match o_1 with
 | (.inl (v10_1, m_5)) =>
  finM m0.h.length (tupA [v10_1, (.b true)]) m_5
 | (.inr (v8, c9, m_6)) =>
  finM m0.h.length (tupA [v8, (.b c9)]) m_6
theorem g44_ok {ro : List ABlk} {O : qao} {M : Means} (hM : M.Ok ⟨F, O⟩ ro) {v0 s1 x2 x3 h r} (ho : O 44 [v0, (.s s1), (.i .i64 x2), (.i .i64 x3)] h = none) (hr : g44 M ro v0 s1 x2 x3 ⟨h, h.length, h.length⟩ = some r) : callX ⟨F, O⟩ ro 44 [v0, (.s s1), (.i .i64 x2), (.i .i64 x3)] h = some r := by
 refine qbc (F := ⟨F, O⟩) (fn := fn44) (g := g44 M ro v0 s1 x2 x3) ho rfl rfl hr ?_
 clear ho
 clear hr
 intro m0 t0 ht hr
 have g0 : t0.get 0 = v0 := ht 0
 have g1 : t0.get 1 = (.s s1) := ht 1
 have g2 : t0.get 2 = (.i .i64 x2) := ht 2
 have g3 : t0.get 3 = (.i .i64 x3) := ht 3
 clear ht
 unfold g44 at hr
 refine w_seq (w_ops (wsp (v := AVal.nsl) (p_mv rfl) (wsp (v := (.b false)) (p_mv rfl) (qac (qab (w_seq (w_ops (wsp (v := AVal.nsl) (p_mv rfl) (qac (qab (w_seq ?_)))))))))))
 refine w_seq (w_ops (wsp (v := (.i .i64 0)) (p_mv rfl) (qac (qab ?_))))
 refine qau ?_
 obtain ⟨o_1, hl, z1⟩ := qaa hr
 obtain ⟨n, hl⟩ := hM.loop _ _ _ hl
 refine qbl (qbw _ (g44_I0 v0 s1 x2 x3) (g44_J0 v0 s1 x2 x3) ?_ n _ _ _ _ hl ⟨rfl, gl rfl, gl rfl, gl g0, gl g1, gl g2, gl g3⟩) ?_
 ·clear z1 hl
  intro s mm_3 t_1 o hi hr
  obtain ⟨v10, x11, m_1⟩ := s
  obtain ⟨rfl, g10, g11, g0, g1, g2, g3⟩ := hi
  unfold g44_b0 at hr
  refine w_seq (w_seq (w_ops (wsp (p_mv g11) (wsp (p_mv g3) ?_))))
  obtain ⟨c16, e16, z2⟩ := qad hr
  refine wsp (p_bin rfl rfl (b_lss.trans (cb e16))) (qac (qab ?_))
  rcases qai z2 with ⟨rfl, z3⟩ | ⟨rfl, z3⟩
  ·refine qas rfl ?_
   refine qbb (qab (w_seq ?_))
   refine qau ?_
   refine w_seq (w_ops (wsp (p_mv g0) (wsp (p_mv g1) (wsp (p_mv g2) (wsp (p_mv g11) ?_)))))
   obtain ⟨x24, e24, z4⟩ := qaj z3
   refine wsp (p_bin rfl rfl (b_mul.trans (ci e24))) ?_
   obtain ⟨x25, e25, z5⟩ := qaj z4
   refine wsp (p_bin rfl rfl (b_add.trans (ci e25))) ?_
   obtain ⟨v26, m_2, e26, z6⟩ := qaf z5
   refine qan (qbf (mc rfl (mc rfl (mc rfl mn))) (qaq hM.call e26)) (wsp (v := v26) (p_mv rfl) ?_)
   obtain ⟨v27, e27, z7⟩ := qaa z6
   obtain ⟨x27, rfl, z8⟩ := qam z7
   refine wsp (o_ext rfl e27) ?_
   obtain ⟨v28, e28, z9⟩ := qaa z8
   obtain ⟨x28, rfl, z10⟩ := qam z9
   refine wsp (o_ext rfl e28) (wsp (v := (.i .i64 x27)) (p_mv rfl) (wsp (v := (.i .i64 x28)) (p_mv rfl) (qac (qab (w_seq (w_seq (w_ops (wsp (v := (.i .i64 x28)) (p_mv rfl) ?_))))))))
   obtain ⟨c30, e30, z11⟩ := qad z10
   refine wsp (p_bin rfl rfl (b_neq.trans (cb e30))) (wsp (v := (.b c30)) (p_mv rfl) ?_)
   obtain ⟨o, z12, hk⟩ := qaa z11
   refine qbn 3 (g44_J1 v0 s1 x2 x3 v10 x11 x27 m_2 o) ?_ ?_
   ·clear hk
    rcases qai z12 with ⟨rfl, z13⟩ | ⟨rfl, z13⟩
    ·refine qae (v := (.b true)) rfl rfl (qae (v := (.b true)) rfl rfl (wsp (v := (.b true)) (qbj rfl rfl) (qac ?_)))
     cases z13
     exact ⟨_, _, rfl, rfl, gl rfl, gl g0, gl g1, gl g2, gl g3, gl g10, gl g11, gl rfl⟩
    ·refine qah (v := (.i .i64 x27)) rfl (qag (p_mv rfl)) ?_
     obtain ⟨c33, e33, z14⟩ := qad z13
     refine qah (v := (.b c33)) rfl (qag (p_bin rfl rfl (b_gtr.trans (cb e33)))) (wsp (v := (.b c33)) (qbd rfl rfl) (qac ?_))
     cases z14
     exact ⟨_, _, rfl, rfl, gl rfl, gl g0, gl g1, gl g2, gl g3, gl g10, gl g11, gl rfl⟩
   ·clear z12
    have hr := hk
    clear hk
    obtain ⟨c34, ho⟩ : ∃ z, z = o := ⟨_, rfl⟩
    subst ho
    rintro mm t_2 ⟨rfl, g34, g0, g1, g2, g3, g10, g11, g12⟩
    refine qac (qab ?_)
    rcases qai hr with ⟨rfl, z15⟩ | ⟨rfl, z15⟩
    ·refine qas g34 ?_
     refine w_seq (w_ops (wsp (v := AVal.nsl) (p_mv rfl) (wsp (v := (.b false)) (p_mv rfl) (qac (qab ?_)))))
     refine w_ret ?_
     refine qbm ?_
     refine qco ?_
     refine qbm ?_
     cases z15
     exact ⟨_, _, rfl, qcb, rfl, rfl, gl rfl, gl rfl⟩
    ·refine qat g34 ?_
     refine qbb (qab (w_ops (wsp (p_mv g10) (wsp (p_mv g12) ?_))))
     obtain ⟨v37, m_3, e37, z16⟩ := qaf z15
     refine qan (s_bsl (qc rfl qn) e37) ?_
     obtain ⟨v38, m_4, e38, z17⟩ := qaf z16
     refine qan (s_app rfl rfl e38) (wsp (v := v38) (p_mv rfl) (qac ?_))
     refine qbo ?_
     refine qab (w_ops (wsp (p_mv g11) ?_))
     obtain ⟨x18, e18, z18⟩ := qaj z17
     refine wsp (p_bin rfl rfl (b_add.trans (ci e18))) (wsp (v := (.i .i64 x18)) (p_mv rfl) (qac ?_))
     cases z18
     exact ⟨_, _, rfl, rfl, rfl, gl rfl, gl rfl, gl g0, gl g1, gl g2, gl g3⟩
  ·refine qat rfl ?_
   refine qbz ?_
   refine qbp ?_
   cases z3
   exact ⟨_, _, rfl, qar, rfl, rfl, gl g10⟩
 ·rcases o_1 with o_1 | o_1
  ·obtain ⟨v10_1, m_5⟩ := o_1
   rintro _ mm_1 t_3 ⟨rfl, rfl, g10⟩
   refine qca ?_
   refine qab (w_seq (w_ops (wsp (p_mv g10) (wsp (v := v10_1) (p_mv rfl) (wsp (v := (.b true)) (p_mv rfl) (qac (qab ?_)))))))
   refine w_ret ?_
   exact qf qba (rt rfl (rt rfl rn)) z1
  ·obtain ⟨v8, c9, m_6⟩ := o_1
   rintro _ mm_2 t_4 ⟨rfl, rfl, g8, g9⟩
   refine qco ?_
   refine qbm ?_
   exact qf qba (rt g8 (rt g9 rn)) z1
/- dibber/dibberlaw03.differences -/
abbrev g45_I0 (v0 : AVal) (s : AVal × Int × Mm) (m1 : Mm) (t1 : Tr) : Prop :=
 match s with
 | (v3, x4, m_1) => m_1 = m1 ∧ t1.get 3 = v3 ∧ t1.get 4 = (.i .i64 x4) ∧ t1.get 0 = v0
abbrev g45_J0 (v0 : AVal) (o : (AVal × Mm)) (e : AExit) (m1 : Mm) (t1 : Tr) : Prop :=
 match o with
 | (y3, mo) => e = (.exit 0) ∧ mo = m1 ∧ t1.get 3 = y3
def g45_b0 (M : Means) (ro : List ABlk) (v0 : AVal) (v3 : AVal) (x4 : Int) (m_1 : Mm) : Option ((AVal × Int × Mm) ⊕ ((AVal × Mm))) :=
 bindO (evP .e (.len false (.c v0))) fun v7 =>
 asI .i64 v7 fun x7 =>
 qap (ltI x4 x7) fun c8 =>
 cond c8 (
  bindO (evP .e (.ixS 1 (.c v0) (.c (.i .i64 x4)))) fun v14 =>
  qax (wr .i64 (x4 - 1)) fun x18 =>
  bindO (evP .e (.ixS 1 (.c v0) (.c (.i .i64 x18)))) fun v19 =>
  bindO (ldA ro m_1.h true 1 v14) fun v15 =>
  asI .i64 v15 fun x15 =>
  bindO (ldA ro m_1.h true 1 v19) fun v20 =>
  asI .i64 v20 fun x20 =>
  qax (wr .i64 (x15 - x20)) fun x21 =>
  bindP (stepM ro m_1 (.bsl 3 1 [(AVal.i IntKind.i64 0)] 1 [((0, 1), .c (.i .i64 x21))])) fun v22 m_2 =>
  bindP (stepM ro m_2 (.app 3 1 8 [(AVal.i IntKind.i64 0)] (.c v3) (.c v22))) fun v23 m_3 =>
  qax (wr .i64 (x4 + 1)) fun x10 =>
  some (.inl (v23, x10, m_3))) (
  some (.inr (v3, m_1)))
def g45 (M : Means) (ro : List ABlk) (v0 : AVal) (m0 : Mm) : Option (AVal × Heap × Nat × Nat) :=
 bindO (M.loop (S := AVal × Int × Mm) (R := (AVal × Mm)) (fun s => g45_b0 M ro v0 s.1 s.2.1 s.2.2) (AVal.nsl, 1, m0)) fun ⟨v3_1, m_4⟩ =>
 finM m0.h.length (tupA [v3_1]) m_4
theorem g45_ok {ro : List ABlk} {O : qao} {M : Means} (hM : M.Ok ⟨F, O⟩ ro) {v0 h r} (ho : O 45 [v0] h = none) (hr : g45 M ro v0 ⟨h, h.length, h.length⟩ = some r) : callX ⟨F, O⟩ ro 45 [v0] h = some r := by
 refine qbc (F := ⟨F, O⟩) (fn := fn45) (g := g45 M ro v0) ho rfl rfl hr ?_
 clear ho
 clear hr
 intro m0 t0 ht hr
 have g0 : t0.get 0 = v0 := ht 0
 clear ht
 unfold g45 at hr
 refine w_seq (w_ops (wsp (v := AVal.nsl) (p_mv rfl) (qac (qab (w_seq (w_ops (wsp (v := AVal.nsl) (p_mv rfl) (qac (qab (w_seq (w_seq ?_)))))))))))
 refine w_ops (wsp (v := (.i .i64 1)) (p_mv rfl) (qac (qab ?_)))
 refine qau ?_
 obtain ⟨o, hl, z1⟩ := qaa hr
 obtain ⟨n, hl⟩ := hM.loop _ _ _ hl
 refine qbl (qbw _ (g45_I0 v0) (g45_J0 v0) ?_ n _ _ _ _ hl ⟨rfl, gl rfl, gl rfl, gl g0⟩) ?_
 ·clear z1 hl
  intro s mm_1 t_1 o hi hr
  obtain ⟨v3, x4, m_1⟩ := s
  obtain ⟨rfl, g3, g4, g0⟩ := hi
  unfold g45_b0 at hr
  refine w_seq (w_seq (w_ops (wsp (p_mv g4) (wsp (p_mv g0) ?_))))
  obtain ⟨v7, e7, z2⟩ := qaa hr
  obtain ⟨x7, rfl, z3⟩ := qam z2
  refine wsp (o_len rfl e7) ?_
  obtain ⟨c8, e8, z4⟩ := qad z3
  refine wsp (p_bin rfl rfl (b_lss.trans (cb e8))) (qac (qab ?_))
  rcases qai z4 with ⟨rfl, z5⟩ | ⟨rfl, z5⟩
  ·refine qas rfl ?_
   refine qbb (qab (w_seq ?_))
   refine qau ?_
   refine w_seq (w_ops (wsp (p_mv g3) (wsp (p_mv g0) (wsp (p_mv g4) ?_))))
   obtain ⟨v14, e14, z6⟩ := qaa z5
   refine wsp (o_ixS rfl rfl e14) (wsp (p_mv g0) (wsp (p_mv g4) ?_))
   obtain ⟨x18, e18, z7⟩ := qaj z6
   refine wsp (p_bin rfl rfl (b_sub.trans (ci e18))) ?_
   obtain ⟨v19, e19, z8⟩ := qaa z7
   refine wsp (o_ixS rfl rfl e19) (qac (qab (w_seq ?_)))
   refine w_any ?_
   obtain ⟨v15, e15, z9⟩ := qaa z8
   obtain ⟨x15, rfl, z10⟩ := qam z9
   refine wa_step (v := (.i .i64 x15)) (a_ld rfl e15) ?_
   obtain ⟨v20, e20, z11⟩ := qaa z10
   obtain ⟨x20, rfl, z12⟩ := qam z11
   refine wa_step (v := (.i .i64 x20)) (a_ld rfl e20) ?_
   refine wa_nil ?_
   refine ⟨m_1, wM2_nil rfl, ?_⟩
   refine qab (w_ops ?_)
   obtain ⟨x21, e21, z13⟩ := qaj z12
   refine wsp (p_bin rfl rfl (b_sub.trans (ci e21))) ?_
   obtain ⟨v22, m_2, e22, z14⟩ := qaf z13
   refine qan (s_bsl (qc rfl qn) e22) ?_
   obtain ⟨v23, m_3, e23, z15⟩ := qaf z14
   refine qan (s_app rfl rfl e23) (wsp (v := v23) (p_mv rfl) (qac ?_))
   refine qbo ?_
   refine qab (w_ops (wsp (p_mv g4) ?_))
   obtain ⟨x10, e10, z16⟩ := qaj z15
   refine wsp (p_bin rfl rfl (b_add.trans (ci e10))) (wsp (v := (.i .i64 x10)) (p_mv rfl) (qac ?_))
   cases z16
   exact ⟨_, _, rfl, rfl, rfl, gl rfl, gl rfl, gl g0⟩
  ·refine qat rfl ?_
   refine qbz ?_
   refine qbp ?_
   cases z5
   exact ⟨_, _, rfl, qar, rfl, rfl, gl g3⟩
 ·obtain ⟨v3_1, m_4⟩ := o
  rintro _ mm t_2 ⟨rfl, rfl, g3⟩
  refine qca ?_
  refine qab (w_seq (w_ops (wsp (p_mv g3) (wsp (v := v3_1) (p_mv rfl) (qac (qab ?_))))))
  refine w_ret ?_
  exact qf qba (rt rfl rn) z1
/- dibber/vine.readYears -/
abbrev g47_J0 (v14 : AVal) (m_1 : Mm) (o : Bool) (m1 : Mm) (t1 : Tr) : Prop :=
 match o with
 | c24 => m_1 = m1 ∧ t1.get 24 = (.b c24) ∧ t1.get 8 = v14
def g47 (M : Means) (ro : List ABlk) (v0 : AVal) (s1 : List UInt8) (x2 : Int) (m0 : Mm) : Option (AVal × Heap × Nat × Nat) :=
 bindP (callM M.call m0 60 [v0, (.s s1)]) fun v13 m_1 =>
 bindO (evP .e (.ext 0 (.c v13))) fun v14 =>
 bindO (evP .e (.ext 1 (.c v13))) fun v15 =>
 asI .i64 v15 fun x15 =>
 qap (!eqI x15 0) fun c17 =>
 cond c17 (
  finM m0.h.length (tupA [AVal.nsl, (.i .i64 x15)]) m_1) (
  qap (ltI x2 0) fun c20 =>
  bindO (cond c20 (
   some true) (
   qap (ltI 1000 x2) fun c23 =>
   some c23)) fun c24 =>
  cond c24 (
   finM m0.h.length (tupA [AVal.nsl, (.i .i64 3)]) m_1) (
   finM m0.h.length (tupA [v14, (.i .i64 0)]) m_1))
theorem g47_ok {ro : List ABlk} {O : qao} {M : Means} (hM : M.Ok ⟨F, O⟩ ro) {v0 s1 x2 h r} (ho : O 47 [v0, (.s s1), (.i .i64 x2)] h = none) (hr : g47 M ro v0 s1 x2 ⟨h, h.length, h.length⟩ = some r) : callX ⟨F, O⟩ ro 47 [v0, (.s s1), (.i .i64 x2)] h = some r := by
 refine qbc (F := ⟨F, O⟩) (fn := fn47) (g := g47 M ro v0 s1 x2) ho rfl rfl hr ?_
 clear ho
 clear hr
 intro m0 t0 ht hr
 have g0 : t0.get 0 = v0 := ht 0
 have g1 : t0.get 1 = (.s s1) := ht 1
 have g2 : t0.get 2 = (.i .i64 x2) := ht 2
 clear ht
 unfold g47 at hr
 refine w_seq (w_ops (wsp (v := AVal.nsl) (p_mv rfl) (wsp (v := (.i .i64 0)) (p_mv rfl) (qac (qab (w_seq (w_ops (wsp (p_mv g0) (wsp (p_mv g1) ?_)))))))))
 obtain ⟨v13, m_1, e13, z1⟩ := qaf hr
 refine qan (qbf (mc rfl (mc rfl mn)) (qaq hM.call e13)) (wsp (v := v13) (p_mv rfl) ?_)
 obtain ⟨v14, e14, z2⟩ := qaa z1
 refine wsp (o_ext rfl e14) ?_
 obtain ⟨v15, e15, z3⟩ := qaa z2
 obtain ⟨x15, rfl, z4⟩ := qam z3
 refine wsp (o_ext rfl e15) (wsp (v := v14) (p_mv rfl) (wsp (v := (.i .i64 x15)) (p_mv rfl) (qac (qab (w_seq (w_seq (w_ops (wsp (v := (.i .i64 x15)) (p_mv rfl) ?_))))))))
 obtain ⟨c17, e17, z5⟩ := qad z4
 refine wsp (p_bin rfl rfl (b_neq.trans (cb e17))) (qac (qab ?_))
 rcases qai z5 with ⟨rfl, z6⟩ | ⟨rfl, z6⟩
 ·refine qas rfl ?_
  refine w_seq (w_ops (wsp (v := (.i .i64 x15)) (p_mv rfl) (wsp (v := AVal.nsl) (p_mv rfl) (wsp (v := (.i .i64 x15)) (p_mv rfl) (qac (qab ?_))))))
  refine w_ret ?_
  refine qbm ?_
  exact qf qba (rt rfl (rt rfl rn)) z6
 ·refine qat rfl ?_
  refine qbb (qab (w_seq (w_seq (w_ops (wsp (p_mv g2) ?_)))))
  obtain ⟨c20, e20, z7⟩ := qad z6
  refine wsp (p_bin rfl rfl (b_lss.trans (cb e20))) (wsp (v := (.b c20)) (p_mv rfl) ?_)
  obtain ⟨o, z8, hk⟩ := qaa z7
  refine qbn 3 (g47_J0 v14 m_1 o) ?_ ?_
  ·clear hk
   rcases qai z8 with ⟨rfl, z9⟩ | ⟨rfl, z9⟩
   ·refine qae (v := (.b true)) rfl rfl (qae (v := (.b true)) rfl rfl (wsp (v := (.b true)) (qbj rfl rfl) (qac ?_)))
    cases z9
    exact ⟨_, _, rfl, rfl, gl rfl, gl rfl⟩
   ·refine qah (v := (.i .i64 x2)) rfl (qag (p_mv g2)) ?_
    obtain ⟨c23, e23, z10⟩ := qad z9
    refine qah (v := (.b c23)) rfl (qag (p_bin rfl rfl (b_gtr.trans (cb e23)))) (wsp (v := (.b c23)) (qbd rfl rfl) (qac ?_))
    cases z10
    exact ⟨_, _, rfl, rfl, gl rfl, gl rfl⟩
  ·clear z8
   have hr := hk
   clear hk
   obtain ⟨c24, ho⟩ : ∃ z, z = o := ⟨_, rfl⟩
   subst ho
   rintro mm t_1 ⟨rfl, g24, g8⟩
   refine qac (qab ?_)
   rcases qai hr with ⟨rfl, z11⟩ | ⟨rfl, z11⟩
   ·refine qas g24 ?_
    refine w_seq (w_ops (wsp (v := AVal.nsl) (p_mv rfl) (wsp (v := (.i .i64 3)) (p_mv rfl) (qac (qab ?_)))))
    refine w_ret ?_
    refine qbm ?_
    exact qf qba (rt rfl (rt rfl rn)) z11
   ·refine qat g24 ?_
    refine qbb (qab (w_seq (w_ops (wsp (p_mv g8) (wsp (v := v14) (p_mv rfl) (wsp (v := (.i .i64 0)) (p_mv rfl) (qac (qab ?_))))))))
    refine w_ret ?_
    exact qf qba (rt rfl (rt rfl rn)) z11
/- (dibber/vine.rules).lengths -/
abbrev g48_I0 (x1 : Int) (v10 : AVal) (v13 : AVal) (x15 : Int) (s : Int × Mm) (m1 : Mm) (t1 : Tr) : Prop :=
 match s with
 | (x16, m_3) => m_3 = m1 ∧ t1.get 16 = (.i .i64 x16) ∧ t1.get 1 = (.i .i64 x1) ∧ t1.get 5 = v10 ∧ t1.get 6 = v13 ∧ t1.get 15 = (.i .i64 x15)
abbrev g48_J0 (x1 : Int) (v10 : AVal) (v13 : AVal) (x15 : Int) (o : Mm) (e : AExit) (m1 : Mm) (t1 : Tr) : Prop :=
 match o with
 | mo => e = (.exit 0) ∧ mo = m1 ∧ t1.get 1 = (.i .i64 x1) ∧ t1.get 5 = v10 ∧ t1.get 6 = v13
def g48_b0 (M : Means) (ro : List ABlk) (x1 : Int) (v10 : AVal) (v13 : AVal) (x15 : Int) (x16 : Int) (m_3 : Mm) : Option ((Int × Mm) ⊕ (Mm)) :=
 qap (ltI x16 x15) fun c17 =>
 cond c17 (
  bindO (evP .e (.ixS 1 (.c v13) (.c (.i .i64 x16)))) fun v21 =>
  bindP (stepM ro m_3 (.st 1 (.c v21) (.c (.i .u64 1)))) fun vn m_4 =>
  qax (wr .i64 (x16 + 1)) fun x22 =>
  some (.inl (x22, m_4))) (
  some (.inr m_3))
abbrev g48_I1 (v10 : AVal) (x1 : Int) (s : AVal × AVal × Int × Mm) (m1 : Mm) (t1 : Tr) : Prop :=
 match s with
 | (v6, v8, x26, m_7) => m_7 = m1 ∧ t1.get 6 = v6 ∧ t1.get 8 = v8 ∧ t1.get 26 = (.i .i64 x26) ∧ t1.get 5 = v10 ∧ t1.get 25 = (.i .i64 x1)
abbrev g48_J1 (v10 : AVal) (x1 : Int) (o : (AVal × Mm)) (e : AExit) (m1 : Mm) (t1 : Tr) : Prop :=
 match o with
 | (y8, mo) => e = (.exit 2) ∧ mo = m1 ∧ t1.get 8 = y8
def g48_b1 (M : Means) (ro : List ABlk) (v10 : AVal) (x1 : Int) (v6 : AVal) (v8 : AVal) (x26 : Int) (m_7 : Mm) : Option ((AVal × AVal × Int × Mm) ⊕ ((AVal × Mm))) :=
 qap (ltI x26 x1) fun c27 =>
 cond c27 (
  bindP (stepM ro m_7 (.bsl 63 1 [AVal.nsl] 1 [((0, 1), .c v6)])) fun v29 m_8 =>
  bindP (callM M.call m_8 57 [v29, v10]) fun v31 m_9 =>
  bindO (evP .e (.ixS 1 (.c v31) (.c (.i .i64 0)))) fun v32 =>
  bindO (ldM ro m_9 true 1 v32) fun v33 =>
  bindP (stepM ro m_9 (.bsl 63 1 [AVal.nsl] 1 [((0, 1), .c v33)])) fun v36 m_10 =>
  bindP (stepM ro m_10 (.app 63 1 24 [AVal.nsl] (.c v8) (.c v36))) fun v37 m_11 =>
  qax (wr .i64 (x26 + 1)) fun x38 =>
  some (.inl (v33, v37, x38, m_11))) (
  some (.inr (v8, m_7)))
def g48 (M : Means) (ro : List ABlk) (v0 : AVal) (x1 : Int) (m0 : Mm) : Option (AVal × Heap × Nat × Nat) :=
 bindP (callM M.call m0 55 [v0, (AVal.fn 56 [] [])]) fun v10 m_1 =>
 bindO (evP .e (.len false (.c v0))) fun v12 =>
 asI .i64 v12 fun x12 =>
 bindP (stepM ro m_1 (.mk 61 1 8 [(AVal.i IntKind.u64 0)] (.c (.i .i64 x12)) (.c (.i .i64 x12)))) fun v13 m_2 =>
 bindO (evP .e (.len false (.c v13))) fun v15 =>
 asI .i64 v15 fun x15 =>
 bindO (M.loop (S := Int × Mm) (R := Mm) (fun s => g48_b0 M ro x1 v10 v13 x15 s.1 s.2) (0, m_2)) fun m_5 =>
 bindP (stepM ro m_5 (.bsl 63 1 [AVal.nsl] 1 [((0, 1), .c v13)])) fun v24 m_6 =>
 bindO (M.loop (S := AVal × AVal × Int × Mm) (R := (AVal × Mm)) (fun s => g48_b1 M ro v10 x1 s.1 s.2.1 s.2.2.1 s.2.2.2) (v13, v24, 0, m_6)) fun ⟨v8_1, m_12⟩ =>
 finM m0.h.length (tupA [v8_1]) m_12
theorem g48_ok {ro : List ABlk} {O : qao} {M : Means} (hM : M.Ok ⟨F, O⟩ ro) {v0 x1 h r} (ho : O 48 [v0, (.i .i64 x1)] h = none) (hr : g48 M ro v0 x1 ⟨h, h.length, h.length⟩ = some r) : callX ⟨F, O⟩ ro 48 [v0, (.i .i64 x1)] h = some r := by
 refine qbc (F := ⟨F, O⟩) (fn := fn48) (g := g48 M ro v0 x1) ho rfl rfl hr ?_
 clear ho
 clear hr
 intro m0 t0 ht hr
 have g0 : t0.get 0 = v0 := ht 0
 have g1 : t0.get 1 = (.i .i64 x1) := ht 1
 clear ht
 unfold g48 at hr
 refine w_seq (w_ops (wsp (v := AVal.nsl) (p_mv rfl) (qac (qab (w_seq (w_ops (wsp (p_mv g0) ?_)))))))
 obtain ⟨v10, m_1, e10, z1⟩ := qaf hr
 refine qan (qbf (mc rfl (mc rfl mn)) (qaq hM.call e10)) (wsp (v := v10) (p_mv rfl) (qac (qab (w_seq (w_ops (wsp (p_mv g0) ?_))))))
 obtain ⟨v12, e12, z2⟩ := qaa z1
 obtain ⟨x12, rfl, z3⟩ := qam z2
 refine wsp (o_len rfl e12) ?_
 obtain ⟨v13, m_2, e13, z4⟩ := qaf z3
 refine qan (s_mk rfl rfl e13) (wsp (v := v13) (p_mv rfl) (qac (qab (w_seq (w_seq (w_ops (wsp (v := v13) (p_mv rfl) ?_)))))))
 obtain ⟨v15, e15, z5⟩ := qaa z4
 obtain ⟨x15, rfl, z6⟩ := qam z5
 refine wsp (o_len rfl e15) (wsp (v := (.i .i64 0)) (p_mv rfl) (qac (qab ?_)))
 refine qau ?_
 obtain ⟨o, hl_1, z7⟩ := qaa z6
 obtain ⟨n_1, hl_1⟩ := hM.loop _ _ _ hl_1
 refine qbl (qbw _ (g48_I0 x1 v10 v13 x15) (g48_J0 x1 v10 v13 x15) ?_ n_1 _ _ _ _ hl_1 ⟨rfl, gl rfl, gl g1, gl rfl, gl rfl, gl rfl⟩) ?_
 ·clear z7 hl_1
  intro s mm_3 t_1 o hi hr
  obtain ⟨x16, m_3⟩ := s
  obtain ⟨rfl, g16, g1, g5, g6, g15⟩ := hi
  unfold g48_b0 at hr
  refine w_seq (w_ops ?_)
  obtain ⟨c17, e17, z8⟩ := qad hr
  refine wsp (p_bin g16 g15 (b_lss.trans (cb e17))) (qac (qab (w_seq ?_)))
  rcases qai z8 with ⟨rfl, z9⟩ | ⟨rfl, z9⟩
  ·refine qas rfl ?_
   refine qbb (qab (w_seq ?_))
   refine qau ?_
   refine w_seq (w_ops (wsp (p_mv g16) (wsp (v := (.i .i64 x16)) (p_mv rfl) (qac (qab (w_ops (wsp (p_mv g6) (wsp (v := (.i .i64 x16)) (p_mv rfl) ?_))))))))
   obtain ⟨v21, e21, z10⟩ := qaa z9
   refine wsp (o_ixS rfl rfl e21) ?_
   obtain ⟨vn, m_4, en, z11⟩ := qaf z10
   refine qdq (s_st rfl rfl en) ?_
   refine qac ?_
   refine qbo ?_
   refine qab (w_ops ?_)
   obtain ⟨x22, e22, z12⟩ := qaj z11
   refine wsp (p_bin g16 rfl (b_add.trans (ci e22))) (wsp (v := (.i .i64 x22)) (p_mv rfl) (qac ?_))
   cases z12
   exact ⟨_, _, rfl, rfl, rfl, gl rfl, gl g1, gl g5, gl g6, gl g15⟩
  ·refine qat rfl ?_
   refine qbz ?_
   refine qbp ?_
   cases z9
   exact ⟨_, _, rfl, qar, rfl, rfl, gl g1, gl g5, gl g6⟩
 ·obtain ⟨m_5, ho⟩ : ∃ z, z = o := ⟨_, rfl⟩
  subst ho
  rintro _ mm_2 t_2 ⟨rfl, rfl, g1, g5, g6⟩
  refine qca ?_
  refine qab (w_seq (w_ops (wsp (p_mv g6) ?_)))
  obtain ⟨v24, m_6, e24, z13⟩ := qaf z7
  refine qan (s_bsl (qc rfl qn) e24) (wsp (v := v24) (p_mv rfl) (qac (qab (w_seq (w_seq (w_ops (wsp (p_mv g1) (wsp (v := (.i .i64 0)) (p_mv rfl) (qac (qab ?_))))))))))
  refine qau ?_
  obtain ⟨o_1, hl, z14⟩ := qaa z13
  obtain ⟨n, hl⟩ := hM.loop _ _ _ hl
  refine qbl (qbw _ (g48_I1 v10 x1) (g48_J1 v10 x1) ?_ n _ _ _ _ hl ⟨rfl, gl g6, gl rfl, gl rfl, gl g5, gl rfl⟩) ?_
  ·clear z14 hl
   intro s mm_1 t_3 o hi hr
   obtain ⟨v6, v8, x26, m_7⟩ := s
   obtain ⟨rfl, g6, g8, g26, g5, g25⟩ := hi
   unfold g48_b1 at hr
   refine w_seq (w_ops ?_)
   obtain ⟨c27, e27, z15⟩ := qad hr
   refine wsp (p_bin g26 g25 (b_lss.trans (cb e27))) (qac (qab (w_seq ?_)))
   rcases qai z15 with ⟨rfl, z16⟩ | ⟨rfl, z16⟩
   ·refine qas rfl ?_
    refine qbb (qab (w_seq ?_))
    refine qau ?_
    refine w_seq (w_ops (wsp (p_mv g6) ?_))
    obtain ⟨v29, m_8, e29, z17⟩ := qaf z16
    refine qan (s_bsl (qc rfl qn) e29) (wsp (p_mv g5) ?_)
    obtain ⟨v31, m_9, e31, z18⟩ := qaf z17
    refine qan (qbf (mc rfl (mc rfl mn)) (qaq hM.call e31)) ?_
    obtain ⟨v32, e32, z19⟩ := qaa z18
    refine wsp (o_ixS rfl rfl e32) ?_
    obtain ⟨v33, e33, z20⟩ := qaa z19
    refine qan (s_ld rfl e33) (wsp (v := v33) (p_mv rfl) (qac (qab (w_ops (wsp (p_mv g8) (wsp (v := v33) (p_mv rfl) ?_))))))
    obtain ⟨v36, m_10, e36, z21⟩ := qaf z20
    refine qan (s_bsl (qc rfl qn) e36) ?_
    obtain ⟨v37, m_11, e37, z22⟩ := qaf z21
    refine qan (s_app rfl rfl e37) (wsp (v := v37) (p_mv rfl) (qac ?_))
    refine qbo ?_
    refine qab (w_ops ?_)
    obtain ⟨x38, e38, z23⟩ := qaj z22
    refine wsp (p_bin g26 rfl (b_add.trans (ci e38))) (wsp (v := (.i .i64 x38)) (p_mv rfl) (qac ?_))
    cases z23
    exact ⟨_, _, rfl, rfl, rfl, gl rfl, gl rfl, gl rfl, gl g5, gl g25⟩
   ·refine qat rfl ?_
    refine qbz ?_
    refine qbp ?_
    cases z16
    exact ⟨_, _, rfl, qar, rfl, rfl, gl g8⟩
  ·obtain ⟨v8_1, m_12⟩ := o_1
   rintro _ mm t_4 ⟨rfl, rfl, g8⟩
   refine qca ?_
   refine qab (w_seq (w_ops (wsp (p_mv g8) (wsp (v := v8_1) (p_mv rfl) (qac (qab ?_))))))
   refine w_ret ?_
   exact qf qba (rt rfl rn) z14
/- dibber/vine.long -/
abbrev g49_I0 (v0 : AVal) (s1 : List UInt8) (x8 : Int) (s : Int × Int × Mm) (m1 : Mm) (t1 : Tr) : Prop :=
 match s with
 | (x5, x9, m_1) => m_1 = m1 ∧ t1.get 5 = (.i .u64 x5) ∧ t1.get 9 = (.i .i64 x9) ∧ t1.get 0 = v0 ∧ t1.get 1 = (.s s1) ∧ t1.get 8 = (.i .i64 x8)
abbrev g49_J0 (v0 : AVal) (s1 : List UInt8) (x8 : Int) (o : (Int × Mm)) (e : AExit) (m1 : Mm) (t1 : Tr) : Prop :=
 match o with
 | (y5, mo) => e = (.exit 0) ∧ mo = m1 ∧ t1.get 5 = (.i .u64 y5)
def g49_b0 (M : Means) (ro : List ABlk) (v0 : AVal) (s1 : List UInt8) (x8 : Int) (x5 : Int) (x9 : Int) (m_1 : Mm) : Option ((Int × Int × Mm) ⊕ ((Int × Mm))) :=
 qap (ltI x9 x8) fun c10 =>
 cond c10 (
  bindO (evP .e (.ixStr (.c (.s s1)) (.c (.i .i64 x9)))) fun v16 =>
  asI .u8 v16 fun x16 =>
  bindP (callM M.call m_1 54 [(.i .u8 x16)]) fun v17 m_2 =>
  asI .i64 v17 fun x17 =>
  bindO (evP .e (.ixS 1 (.c v0) (.c (.i .i64 x17)))) fun v18 =>
  bindO (ldM ro m_2 true 1 v18) fun v19 =>
  asI .u64 v19 fun x19 =>
  bindP (callM M.call m_2 86 [(.i .u64 x5), (.i .u64 x19)]) fun v20 m_3 =>
  asI .u64 v20 fun x20 =>
  qax (wr .i64 (x9 + 1)) fun x21 =>
  some (.inl (x20, x21, m_3))) (
  some (.inr (x5, m_1)))
def g49 (M : Means) (ro : List ABlk) (v0 : AVal) (s1 : List UInt8) (m0 : Mm) : Option (AVal × Heap × Nat × Nat) :=
 bindO (evP .e (.len true (.c (.s s1)))) fun v8 =>
 asI .i64 v8 fun x8 =>
 bindO (M.loop (S := Int × Int × Mm) (R := (Int × Mm)) (fun s => g49_b0 M ro v0 s1 x8 s.1 s.2.1 s.2.2) (0, 0, m0)) fun ⟨x5_1, m_4⟩ =>
 finM m0.h.length (tupA [(.i .u64 x5_1)]) m_4
theorem g49_ok {ro : List ABlk} {O : qao} {M : Means} (hM : M.Ok ⟨F, O⟩ ro) {v0 s1 h r} (ho : O 49 [v0, (.s s1)] h = none) (hr : g49 M ro v0 s1 ⟨h, h.length, h.length⟩ = some r) : callX ⟨F, O⟩ ro 49 [v0, (.s s1)] h = some r := by
 refine qbc (F := ⟨F, O⟩) (fn := fn49) (g := g49 M ro v0 s1) ho rfl rfl hr ?_
 clear ho
 clear hr
 intro m0 t0 ht hr
 have g0 : t0.get 0 = v0 := ht 0
 have g1 : t0.get 1 = (.s s1) := ht 1
 clear ht
 unfold g49 at hr
 refine w_seq (w_ops (wsp (v := (.i .u64 0)) (p_mv rfl) (qac (qab (w_seq (w_ops (wsp (v := (.i .u64 0)) (p_mv rfl) (qac (qab (w_seq (w_seq ?_)))))))))))
 refine w_ops (wsp (p_mv g1) ?_)
 obtain ⟨v8, e8, z1⟩ := qaa hr
 obtain ⟨x8, rfl, z2⟩ := qam z1
 refine wsp (o_len rfl e8) (wsp (v := (.i .i64 0)) (p_mv rfl) (qac (qab ?_)))
 refine qau ?_
 obtain ⟨o, hl, z3⟩ := qaa z2
 obtain ⟨n, hl⟩ := hM.loop _ _ _ hl
 refine qbl (qbw _ (g49_I0 v0 s1 x8) (g49_J0 v0 s1 x8) ?_ n _ _ _ _ hl ⟨rfl, gl rfl, gl rfl, gl g0, gl g1, gl rfl⟩) ?_
 ·clear z3 hl
  intro s mm_1 t_1 o hi hr
  obtain ⟨x5, x9, m_1⟩ := s
  obtain ⟨rfl, g5, g9, g0, g1, g8⟩ := hi
  unfold g49_b0 at hr
  refine w_seq (w_ops ?_)
  obtain ⟨c10, e10, z4⟩ := qad hr
  refine wsp (p_bin g9 g8 (b_lss.trans (cb e10))) (qac (qab (w_seq ?_)))
  rcases qai z4 with ⟨rfl, z5⟩ | ⟨rfl, z5⟩
  ·refine qas rfl ?_
   refine qbb (qab (w_seq ?_))
   refine qau ?_
   refine w_seq (w_ops (wsp (p_mv g9) (wsp (v := (.i .i64 x9)) (p_mv rfl) (qac (qab (w_ops (wsp (p_mv g5) (wsp (p_mv g0) (wsp (p_mv g1) (wsp (v := (.i .i64 x9)) (p_mv rfl) ?_))))))))))
   obtain ⟨v16, e16, z6⟩ := qaa z5
   obtain ⟨x16, rfl, z7⟩ := qam z6
   refine wsp (qhg rfl rfl e16) ?_
   obtain ⟨v17, m_2, e17, z8⟩ := qaf z7
   obtain ⟨x17, rfl, z9⟩ := qam z8
   refine qan (qbf (mc rfl mn) (qaq hM.call e17)) ?_
   obtain ⟨v18, e18, z10⟩ := qaa z9
   refine wsp (o_ixS rfl rfl e18) ?_
   obtain ⟨v19, e19, z11⟩ := qaa z10
   obtain ⟨x19, rfl, z12⟩ := qam z11
   refine qan (s_ld rfl e19) ?_
   obtain ⟨v20, m_3, e20, z13⟩ := qaf z12
   obtain ⟨x20, rfl, z14⟩ := qam z13
   refine qan (qbf (mc rfl (mc rfl mn)) (qaq hM.call e20)) (wsp (v := (.i .u64 x20)) (p_mv rfl) (qac ?_))
   refine qbo ?_
   refine qab (w_ops ?_)
   obtain ⟨x21, e21, z15⟩ := qaj z14
   refine wsp (p_bin g9 rfl (b_add.trans (ci e21))) (wsp (v := (.i .i64 x21)) (p_mv rfl) (qac ?_))
   cases z15
   exact ⟨_, _, rfl, rfl, rfl, gl rfl, gl rfl, gl g0, gl g1, gl g8⟩
  ·refine qat rfl ?_
   refine qbz ?_
   refine qbp ?_
   cases z5
   exact ⟨_, _, rfl, qar, rfl, rfl, gl g5⟩
 ·obtain ⟨x5_1, m_4⟩ := o
  rintro _ mm t_2 ⟨rfl, rfl, g5⟩
  refine qca ?_
  refine qab (w_seq (w_ops (wsp (p_mv g5) (wsp (v := (.i .u64 x5_1)) (p_mv rfl) (qac (qab ?_))))))
  refine w_ret ?_
  exact qf qba (rt rfl rn) z3
/- dibber/vine.part -/

def g54 (M : Means) (ro : List ABlk) (x0 : Int) (m0 : Mm) : Option (AVal × Heap × Nat × Nat) :=
 qax (wr .i64 x0) fun x4 =>
 qax (wr .i64 (x4 - 97)) fun x5 =>
 finM m0.h.length (tupA [(.i .i64 x5)]) m0
theorem g54_ok {ro : List ABlk} {O : qao} {M : Means} (hM : M.Ok ⟨F, O⟩ ro) {x0 h r} (ho : O 54 [(.i .u8 x0)] h = none) (hr : g54 M ro x0 ⟨h, h.length, h.length⟩ = some r) : callX ⟨F, O⟩ ro 54 [(.i .u8 x0)] h = some r := by
 refine qbc (F := ⟨F, O⟩) (fn := fn54) (g := g54 M ro x0) ho rfl rfl hr ?_
 clear ho
 clear hr
 intro m0 t0 ht hr
 have g0 : t0.get 0 = (.i .u8 x0) := ht 0
 clear ht
 unfold g54 at hr
 refine w_seq (w_ops (wsp (v := (.i .i64 0)) (p_mv rfl) (qac (qab (w_seq (w_ops (wsp (p_mv g0) ?_)))))))
 obtain ⟨x4, e4, z1⟩ := qaj hr
 refine wsp ((qkp rfl).trans (ci e4)) ?_
 obtain ⟨x5, e5, z2⟩ := qaj z1
 refine wsp (p_bin rfl rfl (b_sub.trans (ci e5))) (wsp (v := (.i .i64 x5)) (p_mv rfl) (qac (qab ?_)))
 refine w_ret ?_
 exact qf qba (rt rfl rn) z2
/- dibber/vine.matrix[dibber/vine.many] -/
abbrev g55_I0 (v0 : AVal) (v1 : AVal) (v11 : AVal) (x13 : Int) (s : Int × Mm) (m1 : Mm) (t1 : Tr) : Prop :=
 match s with
 | (x14, m_2) => m_2 = m1 ∧ t1.get 14 = (.i .i64 x14) ∧ t1.get 0 = v0 ∧ t1.get 1 = v1 ∧ t1.get 5 = v11 ∧ t1.get 13 = (.i .i64 x13)
abbrev g55_J0 (v0 : AVal) (v1 : AVal) (v11 : AVal) (x13 : Int) (o : Mm) (e : AExit) (m1 : Mm) (t1 : Tr) : Prop :=
 match o with
 | mo => e = (.exit 0) ∧ mo = m1 ∧ t1.get 5 = v11
abbrev g55_I1 (v0 : AVal) (v1 : AVal) (v11 : AVal) (x14 : Int) (x13 : Int) (x18 : Int) (s : Int × Mm) (m1 : Mm) (t1 : Tr) : Prop :=
 match s with
 | (x19, m_3) => m_3 = m1 ∧ t1.get 19 = (.i .i64 x19) ∧ t1.get 0 = v0 ∧ t1.get 1 = v1 ∧ t1.get 5 = v11 ∧ t1.get 6 = (.i .i64 x14) ∧ t1.get 13 = (.i .i64 x13) ∧ t1.get 14 = (.i .i64 x14) ∧ t1.get 17 = v0 ∧ t1.get 18 = (.i .i64 x18)
abbrev g55_J1 (v0 : AVal) (v1 : AVal) (v11 : AVal) (x14 : Int) (x13 : Int) (x18 : Int) (o : Mm) (e : AExit) (m1 : Mm) (t1 : Tr) : Prop :=
 match o with
 | mo => e = (.exit 2) ∧ mo = m1 ∧ t1.get 0 = v0 ∧ t1.get 1 = v1 ∧ t1.get 5 = v11 ∧ t1.get 13 = (.i .i64 x13) ∧ t1.get 14 = (.i .i64 x14)
def g55_b1 (M : Means) (ro : List ABlk) (v0 : AVal) (v1 : AVal) (v11 : AVal) (x14 : Int) (x13 : Int) (x18 : Int) (x19 : Int) (m_3 : Mm) : Option ((Int × Mm) ⊕ (Mm)) :=
 qap (ltI x19 x18) fun c20 =>
 cond c20 (
  bindO (evP .e (.ixS 1 (.c v0) (.c (.i .i64 x19)))) fun v21 =>
  bindO (ldM ro m_3 true 1 v21) fun v22 =>
  asS v22 fun s22 =>
  bindO (some (Mm.base m_3)) fun m_4 =>
  bindO (evP .e (.ixS 1 (.c v11) (.c (.i .i64 x14)))) fun v27 =>
  bindO (ldA ro m_3.h true 1 v27) fun v28 =>
  bindP (callM M.call m_4 89 [(.i .i64 x14)]) fun v32 m_5 =>
  asS v32 fun s32 =>
  chk (!Nat.blt m_5.lw m_3.h.length) <|
  bindP (callM M.call m_5 88 [(.s s22), (.s s32)]) fun v33 m_6 =>
  asI .i64 v33 fun x33 =>
  chk (!Nat.blt m_6.lw m_3.h.length) <|
  bindP (qgq M.call m_6 v1 [(.i .i64 x33)]) fun v34 m_7 =>
  asI .u64 v34 fun x34 =>
  chk (!Nat.blt m_7.lw m_3.h.length) <|
  bindP (stepM ro m_7 (.bsl 61 1 [(AVal.i IntKind.u64 0)] 1 [((0, 1), .c (.i .u64 x34))])) fun v35 m_8 =>
  chk (!Nat.blt m_8.lw m_3.h.length) <|
  bindP (stepM ro m_8 (.app 61 1 8 [(AVal.i IntKind.u64 0)] (.c v28) (.c v35))) fun v36 m_9 =>
  bindO (evP .e (.ixS 1 (.c v11) (.c (.i .i64 x14)))) fun v37 =>
  bindP (stepM ro m_9 (.st 1 (.c v37) (.c v36))) fun vn m_10 =>
  bindO (some (Mm.join m_3 m_10)) fun m_11 =>
  qax (wr .i64 (x19 + 1)) fun x38 =>
  some (.inl (x38, m_11))) (
  some (.inr m_3))
def g55_b0 (M : Means) (ro : List ABlk) (v0 : AVal) (v1 : AVal) (v11 : AVal) (x13 : Int) (x14 : Int) (m_2 : Mm) : Option ((Int × Mm) ⊕ (Mm)) :=
 qap (ltI x14 x13) fun c15 =>
 cond c15 (
  bindO (evP .e (.len false (.c v0))) fun v18 =>
  asI .i64 v18 fun x18 =>
  bindO (M.loop (S := Int × Mm) (R := Mm) (fun s => g55_b1 M ro v0 v1 v11 x14 x13 x18 s.1 s.2) (0, m_2)) fun m_12 =>
  qax (wr .i64 (x14 + 1)) fun x39 =>
  some (.inl (x39, m_12))) (
  some (.inr m_2))
def g55 (M : Means) (ro : List ABlk) (v0 : AVal) (v1 : AVal) (m0 : Mm) : Option (AVal × Heap × Nat × Nat) :=
 bindO (evP .e (.len false (.c v0))) fun v10 =>
 asI .i64 v10 fun x10 =>
 bindP (stepM ro m0 (.mk 63 1 24 [AVal.nsl] (.c (.i .i64 x10)) (.c (.i .i64 x10)))) fun v11 m_1 =>
 bindO (evP .e (.len false (.c v0))) fun v13 =>
 asI .i64 v13 fun x13 =>
 bindO (M.loop (S := Int × Mm) (R := Mm) (fun s => g55_b0 M ro v0 v1 v11 x13 s.1 s.2) (0, m_1)) fun m_13 =>
 finM m0.h.length (tupA [v11]) m_13
theorem g55_ok {ro : List ABlk} {O : qao} {M : Means} (hM : M.Ok ⟨F, O⟩ ro) {v0 v1 h r} (ho : O 55 [v0, v1] h = none) (hr : g55 M ro v0 v1 ⟨h, h.length, h.length⟩ = some r) : callX ⟨F, O⟩ ro 55 [v0, v1] h = some r := by
 refine qbc (F := ⟨F, O⟩) (fn := fn55) (g := g55 M ro v0 v1) ho rfl rfl hr ?_
 clear ho
 clear hr
 intro m0 t0 ht hr
 have g0 : t0.get 0 = v0 := ht 0
 have g1 : t0.get 1 = v1 := ht 1
 clear ht
 unfold g55 at hr
 refine w_seq (w_ops (wsp (v := AVal.nsl) (p_mv rfl) (qac (qab (w_seq (w_ops (wsp (p_mv g0) ?_)))))))
 obtain ⟨v10, e10, z1⟩ := qaa hr
 obtain ⟨x10, rfl, z2⟩ := qam z1
 refine wsp (o_len rfl e10) ?_
 obtain ⟨v11, m_1, e11, z3⟩ := qaf z2
 refine qan (s_mk rfl rfl e11) (wsp (v := v11) (p_mv rfl) (qac (qab (w_seq (w_seq (w_ops (wsp (p_mv g0) ?_)))))))
 obtain ⟨v13, e13, z4⟩ := qaa z3
 obtain ⟨x13, rfl, z5⟩ := qam z4
 refine wsp (o_len rfl e13) (wsp (v := (.i .i64 0)) (p_mv rfl) (qac (qab ?_)))
 refine qau ?_
 obtain ⟨o_1, hl_1, z6⟩ := qaa z5
 obtain ⟨n_1, hl_1⟩ := hM.loop _ _ _ hl_1
 refine qbl (qbw _ (g55_I0 v0 v1 v11 x13) (g55_J0 v0 v1 v11 x13) ?_ n_1 _ _ _ _ hl_1 ⟨rfl, gl rfl, gl g0, gl g1, gl rfl, gl rfl⟩) ?_
 ·clear z6 hl_1
  intro s mm_3 t_1 o hi hr
  obtain ⟨x14, m_2⟩ := s
  obtain ⟨rfl, g14, g0, g1, g5, g13⟩ := hi
  unfold g55_b0 at hr
  refine w_seq (w_ops ?_)
  obtain ⟨c15, e15, z7⟩ := qad hr
  refine wsp (p_bin g14 g13 (b_lss.trans (cb e15))) (qac (qab (w_seq ?_)))
  rcases qai z7 with ⟨rfl, z8⟩ | ⟨rfl, z8⟩
  ·refine qas rfl ?_
   refine qbb (qab (w_seq ?_))
   refine qau ?_
   refine w_seq (w_ops (wsp (p_mv g14) (wsp (v := (.i .i64 x14)) (p_mv rfl) (qac (qab (w_seq (w_ops (wsp (p_mv g0) ?_))))))))
   obtain ⟨v18, e18, z9⟩ := qaa z8
   obtain ⟨x18, rfl, z10⟩ := qam z9
   refine wsp (o_len rfl e18) (wsp (v := (.i .i64 0)) (p_mv rfl) (qac (qab ?_)))
   refine qau ?_
   obtain ⟨o, hl, z11⟩ := qaa z10
   obtain ⟨n, hl⟩ := hM.loop _ _ _ hl
   refine qbl (qbw _ (g55_I1 v0 v1 v11 x14 x13 x18) (g55_J1 v0 v1 v11 x14 x13 x18) ?_ n _ _ _ _ hl ⟨rfl, gl rfl, gl g0, gl g1, gl g5, gl rfl, gl g13, gl g14, gl rfl, gl rfl⟩) ?_
   ·clear z11 hl
    intro s mm_1 t_2 o hi hr
    obtain ⟨x19, m_3⟩ := s
    obtain ⟨rfl, g19, g0, g1, g5, g6, g13, g14, g17, g18⟩ := hi
    unfold g55_b1 at hr
    refine w_seq (w_ops ?_)
    obtain ⟨c20, e20, z12⟩ := qad hr
    refine wsp (p_bin g19 g18 (b_lss.trans (cb e20))) (qac (qab (w_seq ?_)))
    rcases qai z12 with ⟨rfl, z13⟩ | ⟨rfl, z13⟩
    ·refine qas rfl ?_
     refine qbb (qab (w_seq ?_))
     refine qau ?_
     refine w_seq (w_ops ?_)
     obtain ⟨v21, e21, z14⟩ := qaa z13
     refine wsp (o_ixS g17 g19 e21) ?_
     obtain ⟨v22, e22, z15⟩ := qaa z14
     obtain ⟨s22, rfl, z16⟩ := qck z15
     refine qan (s_ld rfl e22) (wsp (v := (.s s22)) (p_mv rfl) (qac (qab ?_)))
     obtain ⟨m_4, ef, z17⟩ := qaa z16
     refine w_flt (af := true) rfl ef ?_
     refine qal (v := v11) (f_P rfl (qag (p_mv g5))) ?_
     refine qal (v := (.i .i64 x14)) (f_P rfl (qag (p_mv g6))) ?_
     refine qal (v := v11) (f_P rfl (qag (p_mv g5))) ?_
     refine qal (v := (.i .i64 x14)) (f_P rfl (qag (p_mv g6))) ?_
     obtain ⟨v27, e27, z18⟩ := qaa z17
     refine qal (v := v27) (f_P rfl (qag (o_ixS rfl rfl e27))) ?_
     obtain ⟨v28, e28, z19⟩ := qaa z18
     refine qal (v := v28) (f_ld rfl e28) ?_
     refine qal (v := v1) (f_P rfl (qag (p_mv g1))) ?_
     refine qal (v := (.s s22)) (f_P rfl (qag (p_mv rfl))) ?_
     refine qal (v := (.i .i64 x14)) (f_P rfl (qag (p_mv g6))) ?_
     obtain ⟨v32, m_5, e32, z20⟩ := qaf z19
     obtain ⟨s32, rfl, z21⟩ := qck z20
     obtain ⟨hc32, z22⟩ := qdc z21
     refine qal (v := (.s s32)) (f_M hc32 (qbf (mc rfl mn) (qaq hM.call e32))) ?_
     obtain ⟨v33, m_6, e33, z23⟩ := qaf z22
     obtain ⟨x33, rfl, z24⟩ := qam z23
     obtain ⟨hc33, z25⟩ := qdc z24
     refine qal (v := (.i .i64 x33)) (f_M hc33 (qbf (mc rfl (mc rfl mn)) (qaq hM.call e33))) ?_
     obtain ⟨v34, m_7, e34, z26⟩ := qaf z25
     obtain ⟨x34, rfl, z27⟩ := qam z26
     obtain ⟨hc34, z28⟩ := qdc z27
     refine qal (v := (.i .u64 x34)) (f_M hc34 (s_callv rfl (mc rfl mn) (callvM_le hM.call e34))) ?_
     obtain ⟨v35, m_8, e35, z29⟩ := qaf z28
     obtain ⟨hc35, z30⟩ := qdc z29
     refine qal (v := v35) (f_M hc35 (s_bsl (qc rfl qn) e35)) ?_
     obtain ⟨v36, m_9, e36, z31⟩ := qaf z30
     refine qal (v := v36) (f_F rfl (s_app rfl rfl e36)) ?_
     obtain ⟨v37, e37, z32⟩ := qaa z31
     refine qal (v := v37) (f_P rfl (qag (o_ixS rfl rfl e37))) ?_
     obtain ⟨vn, m_10, en, z33⟩ := qaf z32
     refine qjs (f_F rfl (s_st rfl rfl en)) ?_
     obtain ⟨m_11, ef_1, z34⟩ := qaa z33
     refine qja ef_1 ?_
     refine qbo ?_
     refine qab (w_ops ?_)
     obtain ⟨x38, e38, z35⟩ := qaj z34
     refine wsp (p_bin g19 rfl (b_add.trans (ci e38))) (wsp (v := (.i .i64 x38)) (p_mv rfl) (qac ?_))
     cases z35
     exact ⟨_, _, rfl, rfl, rfl, gl rfl, gl g0, gl g1, gl g5, gl g6, gl g13, gl g14, gl g17, gl g18⟩
    ·refine qat rfl ?_
     refine qbz ?_
     refine qbp ?_
     cases z13
     exact ⟨_, _, rfl, qar, rfl, rfl, gl g0, gl g1, gl g5, gl g13, gl g14⟩
   ·obtain ⟨m_12, ho⟩ : ∃ z, z = o := ⟨_, rfl⟩
    subst ho
    rintro _ mm t_3 ⟨rfl, rfl, g0, g1, g5, g13, g14⟩
    refine qca ?_
    refine qbo ?_
    refine qab (w_ops ?_)
    obtain ⟨x39, e39, z36⟩ := qaj z11
    refine wsp (p_bin g14 rfl (b_add.trans (ci e39))) (wsp (v := (.i .i64 x39)) (p_mv rfl) (qac ?_))
    cases z36
    exact ⟨_, _, rfl, rfl, rfl, gl rfl, gl g0, gl g1, gl g5, gl g13⟩
  ·refine qat rfl ?_
   refine qbz ?_
   refine qbp ?_
   cases z8
   exact ⟨_, _, rfl, qar, rfl, rfl, gl g5⟩
 ·obtain ⟨m_13, ho⟩ : ∃ z, z = o_1 := ⟨_, rfl⟩
  subst ho
  rintro _ mm_2 t_4 ⟨rfl, rfl, g5⟩
  refine qca ?_
  refine qab (w_seq (w_ops (wsp (p_mv g5) (wsp (v := v11) (p_mv rfl) (qac (qab ?_))))))
  refine w_ret ?_
  exact qf qba (rt rfl rn) z6
/- dibber/vine.asMany -/

def g56 (M : Means) (ro : List ABlk) (x0 : Int) (m0 : Mm) : Option (AVal × Heap × Nat × Nat) :=
 qax (wr .u64 x0) fun x4 =>
 finM m0.h.length (tupA [(.i .u64 x4)]) m0
theorem g56_ok {ro : List ABlk} {O : qao} {M : Means} (hM : M.Ok ⟨F, O⟩ ro) {x0 h r} (ho : O 56 [(.i .i64 x0)] h = none) (hr : g56 M ro x0 ⟨h, h.length, h.length⟩ = some r) : callX ⟨F, O⟩ ro 56 [(.i .i64 x0)] h = some r := by
 refine qbc (F := ⟨F, O⟩) (fn := fn56) (g := g56 M ro x0) ho rfl rfl hr ?_
 clear ho
 clear hr
 intro m0 t0 ht hr
 have g0 : t0.get 0 = (.i .i64 x0) := ht 0
 clear ht
 unfold g56 at hr
 refine w_seq (w_ops (wsp (v := (.i .u64 0)) (p_mv rfl) (qac (qab (w_seq (w_ops (wsp (p_mv g0) ?_)))))))
 obtain ⟨x4, e4, z1⟩ := qaj hr
 refine wsp ((qkp rfl).trans (ci e4)) (wsp (v := (.i .u64 x4)) (p_mv rfl) (qac (qab ?_)))
 refine w_ret ?_
 exact qf qba (rt rfl rn) z1
/- dibber/vine.product[dibber/vine.many] -/
abbrev g57_I0 (v1 : AVal) (v13 : AVal) (v0 : AVal) (x15 : Int) (s : Int × Mm) (m1 : Mm) (t1 : Tr) : Prop :=
 match s with
 | (x16, m_2) => m_2 = m1 ∧ t1.get 16 = (.i .i64 x16) ∧ t1.get 1 = v1 ∧ t1.get 5 = v13 ∧ t1.get 14 = v0 ∧ t1.get 15 = (.i .i64 x15)
abbrev g57_J0 (v1 : AVal) (v13 : AVal) (v0 : AVal) (x15 : Int) (o : Mm) (e : AExit) (m1 : Mm) (t1 : Tr) : Prop :=
 match o with
 | mo => e = (.exit 0) ∧ mo = m1 ∧ t1.get 5 = v13
abbrev g57_I1 (v1 : AVal) (v13 : AVal) (x16 : Int) (v20 : AVal) (v0 : AVal) (x15 : Int) (x33 : Int) (s : Int × Mm) (m1 : Mm) (t1 : Tr) : Prop :=
 match s with
 | (x34, m_5) => m_5 = m1 ∧ t1.get 34 = (.i .i64 x34) ∧ t1.get 1 = v1 ∧ t1.get 5 = v13 ∧ t1.get 6 = (.i .i64 x16) ∧ t1.get 7 = v20 ∧ t1.get 14 = v0 ∧ t1.get 15 = (.i .i64 x15) ∧ t1.get 16 = (.i .i64 x16) ∧ t1.get 33 = (.i .i64 x33)
abbrev g57_J1 (v1 : AVal) (v13 : AVal) (x16 : Int) (v20 : AVal) (v0 : AVal) (x15 : Int) (x33 : Int) (o : Mm) (e : AExit) (m1 : Mm) (t1 : Tr) : Prop :=
 match o with
 | mo => e = (.exit 2) ∧ mo = m1 ∧ t1.get 1 = v1 ∧ t1.get 5 = v13 ∧ t1.get 14 = v0 ∧ t1.get 15 = (.i .i64 x15) ∧ t1.get 16 = (.i .i64 x16)
abbrev g57_I2 (v1 : AVal) (v13 : AVal) (x16 : Int) (v20 : AVal) (x34 : Int) (v0 : AVal) (x15 : Int) (x33 : Int) (x38 : Int) (s : Int × Mm) (m1 : Mm) (t1 : Tr) : Prop :=
 match s with
 | (x39, m_6) => m_6 = m1 ∧ t1.get 39 = (.i .i64 x39) ∧ t1.get 1 = v1 ∧ t1.get 5 = v13 ∧ t1.get 6 = (.i .i64 x16) ∧ t1.get 7 = v20 ∧ t1.get 8 = (.i .i64 x34) ∧ t1.get 14 = v0 ∧ t1.get 15 = (.i .i64 x15) ∧ t1.get 16 = (.i .i64 x16) ∧ t1.get 33 = (.i .i64 x33) ∧ t1.get 34 = (.i .i64 x34) ∧ t1.get 37 = v20 ∧ t1.get 38 = (.i .i64 x38)
abbrev g57_J2 (v1 : AVal) (v13 : AVal) (x16 : Int) (v20 : AVal) (x34 : Int) (v0 : AVal) (x15 : Int) (x33 : Int) (x38 : Int) (o : Mm) (e : AExit) (m1 : Mm) (t1 : Tr) : Prop :=
 match o with
 | mo => e = (.exit 4) ∧ mo = m1 ∧ t1.get 1 = v1 ∧ t1.get 5 = v13 ∧ t1.get 6 = (.i .i64 x16) ∧ t1.get 7 = v20 ∧ t1.get 14 = v0 ∧ t1.get 15 = (.i .i64 x15) ∧ t1.get 16 = (.i .i64 x16) ∧ t1.get 33 = (.i .i64 x33) ∧ t1.get 34 = (.i .i64 x34)
def g57_b2 (M : Means) (ro : List ABlk) (v1 : AVal) (v13 : AVal) (x16 : Int) (v20 : AVal) (x34 : Int) (v0 : AVal) (x15 : Int) (x33 : Int) (x38 : Int) (x39 : Int) (m_6 : Mm) : Option ((Int × Mm) ⊕ (Mm)) :=
 qap (ltI x39 x38) fun c40 =>
 cond c40 (
  bindO (evP .e (.ixS 1 (.c v20) (.c (.i .i64 x39)))) fun v42 =>
  bindO (ldM ro m_6 true 1 v42) fun v43 =>
  asI .u64 v43 fun x43 =>
  bindO (some (Mm.base m_6)) fun m_7 =>
  bindO (evP .e (.ixS 1 (.c v13) (.c (.i .i64 x16)))) fun v46 =>
  bindO (ldA ro m_6.h true 1 v46) fun v47 =>
  bindO (evP .e (.ixS 1 (.c v13) (.c (.i .i64 x16)))) fun v51 =>
  bindO (ldA ro m_6.h true 1 v51) fun v52 =>
  bindO (evP .e (.ixS 1 (.c v52) (.c (.i .i64 x34)))) fun v54 =>
  bindO (ldA ro m_6.h true 1 v54) fun v55 =>
  asI .u64 v55 fun x55 =>
  bindO (some (AVal.ifc 61 (.i .u64 x55))) fun v56 =>
  bindO (some (AVal.ifc 61 (.i .u64 x43))) fun v58 =>
  bindO (evP .e (.ixS 1 (.c v1) (.c (.i .i64 x39)))) fun v61 =>
  bindO (ldM ro m_7 true 1 v61) fun v62 =>
  bindO (evP .e (.ixS 1 (.c v62) (.c (.i .i64 x34)))) fun v64 =>
  bindO (ldM ro m_7 true 1 v64) fun v65 =>
  asI .u64 v65 fun x65 =>
  bindP (qfc M.call m_7 [(61, (126, [])), (106, (129, [])), (122, (131, []))] v58 [(.i .u64 x65)]) fun v66 m_8 =>
  asI .u64 v66 fun x66 =>
  chk (!Nat.blt m_8.lw m_6.h.length) <|
  bindP (qfc M.call m_8 [(61, (86, [])), (106, (128, [])), (122, (130, []))] v56 [(.i .u64 x66)]) fun v67 m_9 =>
  asI .u64 v67 fun x67 =>
  chk (!Nat.blt m_9.lw m_6.h.length) <|
  bindO (evP .e (.ixS 1 (.c v47) (.c (.i .i64 x34)))) fun v68 =>
  bindP (stepM ro m_9 (.st 1 (.c v68) (.c (.i .u64 x67)))) fun vn_1 m_10 =>
  bindO (some (Mm.join m_6 m_10)) fun m_11 =>
  qax (wr .i64 (x39 + 1)) fun x69 =>
  some (.inl (x69, m_11))) (
  some (.inr m_6))
def g57_b1 (M : Means) (ro : List ABlk) (v1 : AVal) (v13 : AVal) (x16 : Int) (v20 : AVal) (v0 : AVal) (x15 : Int) (x33 : Int) (x34 : Int) (m_5 : Mm) : Option ((Int × Mm) ⊕ (Mm)) :=
 qap (ltI x34 x33) fun c35 =>
 cond c35 (
  bindO (evP .e (.len false (.c v20))) fun v38 =>
  asI .i64 v38 fun x38 =>
  bindO (M.loop (S := Int × Mm) (R := Mm) (fun s => g57_b2 M ro v1 v13 x16 v20 x34 v0 x15 x33 x38 s.1 s.2) (0, m_5)) fun m_12 =>
  qax (wr .i64 (x34 + 1)) fun x70 =>
  some (.inl (x70, m_12))) (
  some (.inr m_5))
def g57_b0 (M : Means) (ro : List ABlk) (v1 : AVal) (v13 : AVal) (v0 : AVal) (x15 : Int) (x16 : Int) (m_2 : Mm) : Option ((Int × Mm) ⊕ (Mm)) :=
 qap (ltI x16 x15) fun c17 =>
 cond c17 (
  bindO (evP .e (.ixS 1 (.c v0) (.c (.i .i64 x16)))) fun v19 =>
  bindO (ldM ro m_2 true 1 v19) fun v20 =>
  bindO (evP .e (.ixS 1 (.c v1) (.c (.i .i64 0)))) fun v24 =>
  bindO (ldM ro m_2 true 1 v24) fun v25 =>
  bindO (evP .e (.len false (.c v25))) fun v26 =>
  asI .i64 v26 fun x26 =>
  bindP (stepM ro m_2 (.mk 61 1 8 [(AVal.i IntKind.u64 0)] (.c (.i .i64 x26)) (.c (.i .i64 x26)))) fun v27 m_3 =>
  bindO (evP .e (.ixS 1 (.c v13) (.c (.i .i64 x16)))) fun v28 =>
  bindP (stepM ro m_3 (.st 1 (.c v28) (.c v27))) fun vn m_4 =>
  bindO (evP .e (.ixS 1 (.c v13) (.c (.i .i64 x16)))) fun v31 =>
  bindO (ldM ro m_4 true 1 v31) fun v32 =>
  bindO (evP .e (.len false (.c v32))) fun v33 =>
  asI .i64 v33 fun x33 =>
  bindO (M.loop (S := Int × Mm) (R := Mm) (fun s => g57_b1 M ro v1 v13 x16 v20 v0 x15 x33 s.1 s.2) (0, m_4)) fun m_13 =>
  qax (wr .i64 (x16 + 1)) fun x71 =>
  some (.inl (x71, m_13))) (
  some (.inr m_2))
def g57 (M : Means) (ro : List ABlk) (v0 : AVal) (v1 : AVal) (m0 : Mm) : Option (AVal × Heap × Nat × Nat) :=
 bindO (evP .e (.len false (.c v0))) fun v12 =>
 asI .i64 v12 fun x12 =>
 bindP (stepM ro m0 (.mk 63 1 24 [AVal.nsl] (.c (.i .i64 x12)) (.c (.i .i64 x12)))) fun v13 m_1 =>
 bindO (evP .e (.len false (.c v0))) fun v15 =>
 asI .i64 v15 fun x15 =>
 bindO (M.loop (S := Int × Mm) (R := Mm) (fun s => g57_b0 M ro v1 v13 v0 x15 s.1 s.2) (0, m_1)) fun m_14 =>
 finM m0.h.length (tupA [v13]) m_14
theorem g57_ok {ro : List ABlk} {O : qao} {M : Means} (hM : M.Ok ⟨F, O⟩ ro) {v0 v1 h r} (ho : O 57 [v0, v1] h = none) (hr : g57 M ro v0 v1 ⟨h, h.length, h.length⟩ = some r) : callX ⟨F, O⟩ ro 57 [v0, v1] h = some r := by
 refine qbc (F := ⟨F, O⟩) (fn := fn57) (g := g57 M ro v0 v1) ho rfl rfl hr ?_
 clear ho
 clear hr
 intro m0 t0 ht hr
 have g0 : t0.get 0 = v0 := ht 0
 have g1 : t0.get 1 = v1 := ht 1
 clear ht
 unfold g57 at hr
 refine w_seq (w_ops (wsp (v := AVal.nsl) (p_mv rfl) (qac (qab (w_seq (w_ops (wsp (p_mv g0) ?_)))))))
 obtain ⟨v12, e12, z1⟩ := qaa hr
 obtain ⟨x12, rfl, z2⟩ := qam z1
 refine wsp (o_len rfl e12) ?_
 obtain ⟨v13, m_1, e13, z3⟩ := qaf z2
 refine qan (s_mk rfl rfl e13) (wsp (v := v13) (p_mv rfl) (qac (qab (w_seq (w_seq (w_ops (wsp (p_mv g0) ?_)))))))
 obtain ⟨v15, e15, z4⟩ := qaa z3
 obtain ⟨x15, rfl, z5⟩ := qam z4
 refine wsp (o_len rfl e15) (wsp (v := (.i .i64 0)) (p_mv rfl) (qac (qab ?_)))
 refine qau ?_
 obtain ⟨o_2, hl_2, z6⟩ := qaa z5
 obtain ⟨n_2, hl_2⟩ := hM.loop _ _ _ hl_2
 refine qbl (qbw _ (g57_I0 v1 v13 v0 x15) (g57_J0 v1 v13 v0 x15) ?_ n_2 _ _ _ _ hl_2 ⟨rfl, gl rfl, gl g1, gl rfl, gl rfl, gl rfl⟩) ?_
 ·clear z6 hl_2
  intro s mm_5 t_1 o hi hr
  obtain ⟨x16, m_2⟩ := s
  obtain ⟨rfl, g16, g1, g5, g14, g15⟩ := hi
  unfold g57_b0 at hr
  refine w_seq (w_ops ?_)
  obtain ⟨c17, e17, z7⟩ := qad hr
  refine wsp (p_bin g16 g15 (b_lss.trans (cb e17))) (qac (qab (w_seq ?_)))
  rcases qai z7 with ⟨rfl, z8⟩ | ⟨rfl, z8⟩
  ·refine qas rfl ?_
   refine qbb (qab (w_seq ?_))
   refine qau ?_
   refine w_seq (w_ops (wsp (p_mv g16) ?_))
   obtain ⟨v19, e19, z9⟩ := qaa z8
   refine wsp (o_ixS g14 g16 e19) ?_
   obtain ⟨v20, e20, z10⟩ := qaa z9
   refine qan (s_ld rfl e20) (wsp (v := (.i .i64 x16)) (p_mv rfl) (wsp (v := v20) (p_mv rfl) (qac (qab (w_seq (w_ops (wsp (p_mv g5) (wsp (v := (.i .i64 x16)) (p_mv rfl) (wsp (p_mv g1) ?_)))))))))
   obtain ⟨v24, e24, z11⟩ := qaa z10
   refine wsp (o_ixS rfl rfl e24) ?_
   obtain ⟨v25, e25, z12⟩ := qaa z11
   refine qan (s_ld rfl e25) ?_
   obtain ⟨v26, e26, z13⟩ := qaa z12
   obtain ⟨x26, rfl, z14⟩ := qam z13
   refine wsp (o_len rfl e26) ?_
   obtain ⟨v27, m_3, e27, z15⟩ := qaf z14
   refine qan (s_mk rfl rfl e27) ?_
   obtain ⟨v28, e28, z16⟩ := qaa z15
   refine wsp (o_ixS rfl rfl e28) ?_
   obtain ⟨vn, m_4, en, z17⟩ := qaf z16
   refine qdq (s_st rfl rfl en) ?_
   refine qac (qab (w_seq (w_ops (wsp (p_mv g5) (wsp (v := (.i .i64 x16)) (p_mv rfl) ?_)))))
   obtain ⟨v31, e31, z18⟩ := qaa z17
   refine wsp (o_ixS rfl rfl e31) ?_
   obtain ⟨v32, e32, z19⟩ := qaa z18
   refine qan (s_ld rfl e32) ?_
   obtain ⟨v33, e33, z20⟩ := qaa z19
   obtain ⟨x33, rfl, z21⟩ := qam z20
   refine wsp (o_len rfl e33) (wsp (v := (.i .i64 0)) (p_mv rfl) (qac (qab ?_)))
   refine qau ?_
   obtain ⟨o_1, hl_1, z22⟩ := qaa z21
   obtain ⟨n_1, hl_1⟩ := hM.loop _ _ _ hl_1
   refine qbl (qbw _ (g57_I1 v1 v13 x16 v20 v0 x15 x33) (g57_J1 v1 v13 x16 v20 v0 x15 x33) ?_ n_1 _ _ _ _ hl_1 ⟨rfl, gl rfl, gl g1, gl g5, gl rfl, gl rfl, gl g14, gl g15, gl g16, gl rfl⟩) ?_
   ·clear z22 hl_1
    intro s mm_3 t_2 o hi hr
    obtain ⟨x34, m_5⟩ := s
    obtain ⟨rfl, g34, g1, g5, g6, g7, g14, g15, g16, g33⟩ := hi
    unfold g57_b1 at hr
    refine w_seq (w_ops ?_)
    obtain ⟨c35, e35, z23⟩ := qad hr
    refine wsp (p_bin g34 g33 (b_lss.trans (cb e35))) (qac (qab (w_seq ?_)))
    rcases qai z23 with ⟨rfl, z24⟩ | ⟨rfl, z24⟩
    ·refine qas rfl ?_
     refine qbb (qab (w_seq ?_))
     refine qau ?_
     refine w_seq (w_ops (wsp (p_mv g34) (wsp (v := (.i .i64 x34)) (p_mv rfl) (qac (qab (w_seq (w_ops (wsp (p_mv g7) ?_))))))))
     obtain ⟨v38, e38, z25⟩ := qaa z24
     obtain ⟨x38, rfl, z26⟩ := qam z25
     refine wsp (o_len rfl e38) (wsp (v := (.i .i64 0)) (p_mv rfl) (qac (qab ?_)))
     refine qau ?_
     obtain ⟨o, hl, z27⟩ := qaa z26
     obtain ⟨n, hl⟩ := hM.loop _ _ _ hl
     refine qbl (qbw _ (g57_I2 v1 v13 x16 v20 x34 v0 x15 x33 x38) (g57_J2 v1 v13 x16 v20 x34 v0 x15 x33 x38) ?_ n _ _ _ _ hl ⟨rfl, gl rfl, gl g1, gl g5, gl g6, gl g7, gl rfl, gl g14, gl g15, gl g16, gl g33, gl g34, gl rfl, gl rfl⟩) ?_
     ·clear z27 hl
      intro s mm_1 t_3 o hi hr
      obtain ⟨x39, m_6⟩ := s
      obtain ⟨rfl, g39, g1, g5, g6, g7, g8, g14, g15, g16, g33, g34, g37, g38⟩ := hi
      unfold g57_b2 at hr
      refine w_seq (w_ops ?_)
      obtain ⟨c40, e40, z28⟩ := qad hr
      refine wsp (p_bin g39 g38 (b_lss.trans (cb e40))) (qac (qab (w_seq ?_)))
      rcases qai z28 with ⟨rfl, z29⟩ | ⟨rfl, z29⟩
      ·refine qas rfl ?_
       refine qbb (qab (w_seq ?_))
       refine qau ?_
       refine w_seq (w_ops (wsp (p_mv g39) ?_))
       obtain ⟨v42, e42, z30⟩ := qaa z29
       refine wsp (o_ixS g37 g39 e42) ?_
       obtain ⟨v43, e43, z31⟩ := qaa z30
       obtain ⟨x43, rfl, z32⟩ := qam z31
       refine qan (s_ld rfl e43) (wsp (v := (.i .i64 x39)) (p_mv rfl) (wsp (v := (.i .u64 x43)) (p_mv rfl) (qac (qab ?_))))
       obtain ⟨m_7, ef, z33⟩ := qaa z32
       refine w_flt (af := true) rfl ef ?_
       refine qal (v := v13) (f_P rfl (qag (p_mv g5))) ?_
       refine qal (v := (.i .i64 x16)) (f_P rfl (qag (p_mv g6))) ?_
       obtain ⟨v46, e46, z34⟩ := qaa z33
       refine qal (v := v46) (f_P rfl (qag (o_ixS rfl rfl e46))) ?_
       obtain ⟨v47, e47, z35⟩ := qaa z34
       refine qal (v := v47) (f_ld rfl e47) ?_
       refine qal (v := (.i .i64 x34)) (f_P rfl (qag (p_mv g8))) ?_
       refine qal (v := v13) (f_P rfl (qag (p_mv g5))) ?_
       refine qal (v := (.i .i64 x16)) (f_P rfl (qag (p_mv g6))) ?_
       obtain ⟨v51, e51, z36⟩ := qaa z35
       refine qal (v := v51) (f_P rfl (qag (o_ixS rfl rfl e51))) ?_
       obtain ⟨v52, e52, z37⟩ := qaa z36
       refine qal (v := v52) (f_ld rfl e52) ?_
       refine qal (v := (.i .i64 x34)) (f_P rfl (qag (p_mv g8))) ?_
       obtain ⟨v54, e54, z38⟩ := qaa z37
       refine qal (v := v54) (f_P rfl (qag (o_ixS rfl rfl e54))) ?_
       obtain ⟨v55, e55, z39⟩ := qaa z38
       obtain ⟨x55, rfl, z40⟩ := qam z39
       refine qal (v := (.i .u64 x55)) (f_ld rfl e55) ?_
       obtain ⟨v56, e56, z41⟩ := qaa z40
       refine qal (v := v56) (f_P rfl (qag (o_mki rfl e56))) ?_
       refine qal (v := (.i .u64 x43)) (f_P rfl (qag (p_mv rfl))) ?_
       obtain ⟨v58, e58, z42⟩ := qaa z41
       refine qal (v := v58) (f_P rfl (qag (o_mki rfl e58))) ?_
       refine qal (v := v1) (f_P rfl (qag (p_mv g1))) ?_
       refine qal (v := (.i .i64 x39)) (f_P rfl (qag (p_mv rfl))) ?_
       obtain ⟨v61, e61, z43⟩ := qaa z42
       refine qal (v := v61) (f_P rfl (qag (o_ixS rfl rfl e61))) ?_
       obtain ⟨v62, e62, z44⟩ := qaa z43
       refine qal (v := v62) (f_P rfl (s_ld rfl e62)) ?_
       refine qal (v := (.i .i64 x34)) (f_P rfl (qag (p_mv g8))) ?_
       obtain ⟨v64, e64, z45⟩ := qaa z44
       refine qal (v := v64) (f_P rfl (qag (o_ixS rfl rfl e64))) ?_
       obtain ⟨v65, e65, z46⟩ := qaa z45
       obtain ⟨x65, rfl, z47⟩ := qam z46
       refine qal (v := (.i .u64 x65)) (f_P rfl (s_ld rfl e65)) ?_
       obtain ⟨v66, m_8, e66, z48⟩ := qaf z47
       obtain ⟨x66, rfl, z49⟩ := qam z48
       obtain ⟨hc66, z50⟩ := qdc z49
       refine qal (v := (.i .u64 x66)) (f_M hc66 (s_calli rfl (mc rfl mn) (qic hM.call e66))) ?_
       obtain ⟨v67, m_9, e67, z51⟩ := qaf z50
       obtain ⟨x67, rfl, z52⟩ := qam z51
       obtain ⟨hc67, z53⟩ := qdc z52
       refine qal (v := (.i .u64 x67)) (f_M hc67 (s_calli rfl (mc rfl mn) (qic hM.call e67))) ?_
       obtain ⟨v68, e68, z54⟩ := qaa z53
       refine qal (v := v68) (f_P rfl (qag (o_ixS rfl rfl e68))) ?_
       obtain ⟨vn_1, m_10, en_1, z55⟩ := qaf z54
       refine qjs (f_F rfl (s_st rfl rfl en_1)) ?_
       obtain ⟨m_11, ef_1, z56⟩ := qaa z55
       refine qja ef_1 ?_
       refine qbo ?_
       refine qab (w_ops ?_)
       obtain ⟨x69, e69, z57⟩ := qaj z56
       refine wsp (p_bin g39 rfl (b_add.trans (ci e69))) (wsp (v := (.i .i64 x69)) (p_mv rfl) (qac ?_))
       cases z57
       exact ⟨_, _, rfl, rfl, rfl, gl rfl, gl g1, gl g5, gl g6, gl g7, gl g8, gl g14, gl g15, gl g16, gl g33, gl g34, gl g37, gl g38⟩
      ·refine qat rfl ?_
       refine qbz ?_
       refine qbp ?_
       cases z29
       exact ⟨_, _, rfl, qar, rfl, rfl, gl g1, gl g5, gl g6, gl g7, gl g14, gl g15, gl g16, gl g33, gl g34⟩
     ·obtain ⟨m_12, ho⟩ : ∃ z, z = o := ⟨_, rfl⟩
      subst ho
      rintro _ mm t_4 ⟨rfl, rfl, g1, g5, g6, g7, g14, g15, g16, g33, g34⟩
      refine qca ?_
      refine qbo ?_
      refine qab (w_ops ?_)
      obtain ⟨x70, e70, z58⟩ := qaj z27
      refine wsp (p_bin g34 rfl (b_add.trans (ci e70))) (wsp (v := (.i .i64 x70)) (p_mv rfl) (qac ?_))
      cases z58
      exact ⟨_, _, rfl, rfl, rfl, gl rfl, gl g1, gl g5, gl g6, gl g7, gl g14, gl g15, gl g16, gl g33⟩
    ·refine qat rfl ?_
     refine qbz ?_
     refine qbp ?_
     cases z24
     exact ⟨_, _, rfl, qar, rfl, rfl, gl g1, gl g5, gl g14, gl g15, gl g16⟩
   ·obtain ⟨m_13, ho⟩ : ∃ z, z = o_1 := ⟨_, rfl⟩
    subst ho
    rintro _ mm_2 t_5 ⟨rfl, rfl, g1, g5, g14, g15, g16⟩
    refine qca ?_
    refine qbo ?_
    refine qab (w_ops ?_)
    obtain ⟨x71, e71, z59⟩ := qaj z22
    refine wsp (p_bin g16 rfl (b_add.trans (ci e71))) (wsp (v := (.i .i64 x71)) (p_mv rfl) (qac ?_))
    cases z59
    exact ⟨_, _, rfl, rfl, rfl, gl rfl, gl g1, gl g5, gl g14, gl g15⟩
  ·refine qat rfl ?_
   refine qbz ?_
   refine qbp ?_
   cases z8
   exact ⟨_, _, rfl, qar, rfl, rfl, gl g5⟩
 ·obtain ⟨m_14, ho⟩ : ∃ z, z = o_2 := ⟨_, rfl⟩
  subst ho
  rintro _ mm_4 t_6 ⟨rfl, rfl, g5⟩
  refine qca ?_
  refine qab (w_seq (w_ops (wsp (p_mv g5) (wsp (v := v13) (p_mv rfl) (qac (qab ?_))))))
  refine w_ret ?_
  exact qf qba (rt rfl rn) z6
/- dibber/vine.read -/
abbrev g60_J0 (v11 : AVal) (o : Bool × Mm) (m1 : Mm) (t1 : Tr) : Prop :=
 match o with
 | (c24, m_2) => m_2 = m1 ∧ t1.get 24 = (.b c24) ∧ t1.get 6 = v11
def g60 (M : Means) (ro : List ABlk) (v0 : AVal) (s1 : List UInt8) (m0 : Mm) : Option (AVal × Heap × Nat × Nat) :=
 bindP (callM M.call m0 71 [v0]) fun v10 m_1 =>
 bindO (evP .e (.ext 0 (.c v10))) fun v11 =>
 bindO (evP .e (.ext 1 (.c v10))) fun v12 =>
 asI .i64 v12 fun x12 =>
 qap (!eqI x12 0) fun c14 =>
 cond c14 (
  finM m0.h.length (tupA [AVal.nsl, (.i .i64 x12)]) m_1) (
  bindO (evP .e (.len true (.c (.s s1)))) fun v17 =>
  asI .i64 v17 fun x17 =>
  qap (ltI 30 x17) fun c18 =>
  bindO (cond c18 (
   some (true, m_1)) (
   bindP (callM M.call m_1 92 [v11, (.s s1)]) fun v22 m_3 =>
   asB v22 fun c22 =>
   qap (!c22) fun c23 =>
   some (c23, m_3))) fun ⟨c24, m_2⟩ =>
  cond c24 (
   finM m0.h.length (tupA [AVal.nsl, (.i .i64 5)]) m_2) (
   finM m0.h.length (tupA [v11, (.i .i64 0)]) m_2))
theorem g60_ok {ro : List ABlk} {O : qao} {M : Means} (hM : M.Ok ⟨F, O⟩ ro) {v0 s1 h r} (ho : O 60 [v0, (.s s1)] h = none) (hr : g60 M ro v0 s1 ⟨h, h.length, h.length⟩ = some r) : callX ⟨F, O⟩ ro 60 [v0, (.s s1)] h = some r := by
 refine qbc (F := ⟨F, O⟩) (fn := fn60) (g := g60 M ro v0 s1) ho rfl rfl hr ?_
 clear ho
 clear hr
 intro m0 t0 ht hr
 have g0 : t0.get 0 = v0 := ht 0
 have g1 : t0.get 1 = (.s s1) := ht 1
 clear ht
 unfold g60 at hr
 refine w_seq (w_ops (wsp (v := AVal.nsl) (p_mv rfl) (wsp (v := (.i .i64 0)) (p_mv rfl) (qac (qab (w_seq (w_ops (wsp (p_mv g0) ?_))))))))
 obtain ⟨v10, m_1, e10, z1⟩ := qaf hr
 refine qan (qbf (mc rfl mn) (qaq hM.call e10)) (wsp (v := v10) (p_mv rfl) ?_)
 obtain ⟨v11, e11, z2⟩ := qaa z1
 refine wsp (o_ext rfl e11) ?_
 obtain ⟨v12, e12, z3⟩ := qaa z2
 obtain ⟨x12, rfl, z4⟩ := qam z3
 refine wsp (o_ext rfl e12) (wsp (v := v11) (p_mv rfl) (wsp (v := (.i .i64 x12)) (p_mv rfl) (qac (qab (w_seq (w_seq (w_ops (wsp (v := (.i .i64 x12)) (p_mv rfl) ?_))))))))
 obtain ⟨c14, e14, z5⟩ := qad z4
 refine wsp (p_bin rfl rfl (b_neq.trans (cb e14))) (qac (qab ?_))
 rcases qai z5 with ⟨rfl, z6⟩ | ⟨rfl, z6⟩
 ·refine qas rfl ?_
  refine w_seq (w_ops (wsp (v := (.i .i64 x12)) (p_mv rfl) (wsp (v := AVal.nsl) (p_mv rfl) (wsp (v := (.i .i64 x12)) (p_mv rfl) (qac (qab ?_))))))
  refine w_ret ?_
  refine qbm ?_
  exact qf qba (rt rfl (rt rfl rn)) z6
 ·refine qat rfl ?_
  refine qbb (qab (w_seq (w_seq (w_ops (wsp (p_mv g1) ?_)))))
  obtain ⟨v17, e17, z7⟩ := qaa z6
  obtain ⟨x17, rfl, z8⟩ := qam z7
  refine wsp (o_len rfl e17) ?_
  obtain ⟨c18, e18, z9⟩ := qad z8
  refine wsp (p_bin rfl rfl (b_gtr.trans (cb e18))) (wsp (v := (.b c18)) (p_mv rfl) ?_)
  obtain ⟨o, z10, hk⟩ := qaa z9
  refine qbn 5 (g60_J0 v11 o) ?_ ?_
  ·clear hk
   rcases qai z10 with ⟨rfl, z11⟩ | ⟨rfl, z11⟩
   ·refine qae (v := (.b true)) rfl rfl (qae (v := (.b true)) rfl rfl (qae (v := (.b true)) rfl rfl (qae (v := (.b true)) rfl rfl (wsp (v := (.b true)) (qbj rfl rfl) (qac ?_)))))
    cases z11
    exact ⟨_, _, rfl, rfl, gl rfl, gl rfl⟩
   ·refine qah (v := v11) rfl (qag (p_mv rfl)) (qah (v := (.s s1)) rfl (qag (p_mv g1)) ?_)
    obtain ⟨v22, m_3, e22, z12⟩ := qaf z11
    obtain ⟨c22, rfl, z13⟩ := qbr z12
    refine qah (v := (.b c22)) rfl (qbf (mc rfl (mc rfl mn)) (qaq hM.call e22)) ?_
    obtain ⟨c23, e23, z14⟩ := qad z13
    refine qah (v := (.b c23)) rfl (qag ((p_not rfl).trans (cb e23))) (wsp (v := (.b c23)) (qbd rfl rfl) (qac ?_))
    cases z14
    exact ⟨_, _, rfl, rfl, gl rfl, gl rfl⟩
  ·clear z10
   have hr := hk
   clear hk
   obtain ⟨c24, m_2⟩ := o
   rintro mm t_1 ⟨rfl, g24, g6⟩
   refine qac (qab ?_)
   rcases qai hr with ⟨rfl, z15⟩ | ⟨rfl, z15⟩
   ·refine qas g24 ?_
    refine w_seq (w_ops (wsp (v := AVal.nsl) (p_mv rfl) (wsp (v := (.i .i64 5)) (p_mv rfl) (qac (qab ?_)))))
    refine w_ret ?_
    refine qbm ?_
    exact qf qba (rt rfl (rt rfl rn)) z15
   ·refine qat g24 ?_
    refine qbb (qab (w_seq (w_ops (wsp (p_mv g6) (wsp (v := v11) (p_mv rfl) (wsp (v := (.i .i64 0)) (p_mv rfl) (qac (qab ?_))))))))
    refine w_ret ?_
    exact qf qba (rt rfl (rt rfl rn)) z15
/- (dibber/vine.rules).dies -/
abbrev g61_I0 (s1 : List UInt8) (v11 : AVal) (x12 : Int) (s : Int × Mm) (m1 : Mm) (t1 : Tr) : Prop :=
 match s with
 | (x13, m_2) => m_2 = m1 ∧ t1.get 13 = (.i .i64 x13) ∧ t1.get 1 = (.s s1) ∧ t1.get 11 = v11 ∧ t1.get 12 = (.i .i64 x12)
abbrev g61_J0 (s1 : List UInt8) (v11 : AVal) (x12 : Int) (o : (Mm ⊕ (Int × Bool × Mm))) (e : AExit) (m1 : Mm) (t1 : Tr) : Prop :=
 match o with
 | (.inl mo) => e = (.exit 0) ∧ mo = m1
 | (.inr (y4, y5, mo)) => e = .ret ∧ mo = m1 ∧ t1.get 4 = (.i .i64 y4) ∧ t1.get 5 = (.b y5)
def g61_b0 (M : Means) (ro : List ABlk) (s1 : List UInt8) (v11 : AVal) (x12 : Int) (x13 : Int) (m_2 : Mm) : Option ((Int × Mm) ⊕ ((Mm ⊕ (Int × Bool × Mm)))) :=
 qap (ltI x13 x12) fun c14 =>
 cond c14 (
  bindO (evP .e (.ixS 1 (.c v11) (.c (.i .i64 x13)))) fun v16 =>
  bindO (ldM ro m_2 true 1 v16) fun v17 =>
  bindP (callM M.call m_2 49 [v17, (.s s1)]) fun v20 m_3 =>
  asI .u64 v20 fun x20 =>
  qap (eqI x20 0) fun c21 =>
  cond c21 (
   some (.inr (.inr (x13, true, m_3)))) (
   qax (wr .i64 (x13 + 1)) fun x23 =>
   some (.inl (x23, m_3)))) (
  some (.inr (.inl m_2)))
def g61 (M : Means) (ro : List ABlk) (v0 : AVal) (s1 : List UInt8) (m0 : Mm) : Option (AVal × Heap × Nat × Nat) :=
 bindO (evP .e (.len false (.c v0))) fun v10 =>
 asI .i64 v10 fun x10 =>
 bindP (callM M.call m0 48 [v0, (.i .i64 x10)]) fun v11 m_1 =>
 bindO (evP .e (.len false (.c v11))) fun v12 =>
 asI .i64 v12 fun x12 =>
 bindO (M.loop (S := Int × Mm) (R := (Mm ⊕ (Int × Bool × Mm))) (fun s => g61_b0 M ro s1 v11 x12 s.1 s.2) (0, m_1)) fun o => match o with
 | (.inl m_4) =>
  finM m0.h.length (tupA [(.i .i64 0), (.b false)]) m_4
 | (.inr (x4, c5, m_5)) =>
  finM m0.h.length (tupA [(.i .i64 x4), (.b c5)]) m_5
theorem g61_ok {ro : List ABlk} {O : qao} {M : Means} (hM : M.Ok ⟨F, O⟩ ro) {v0 s1 h r} (ho : O 61 [v0, (.s s1)] h = none) (hr : g61 M ro v0 s1 ⟨h, h.length, h.length⟩ = some r) : callX ⟨F, O⟩ ro 61 [v0, (.s s1)] h = some r := by
 refine qbc (F := ⟨F, O⟩) (fn := fn61) (g := g61 M ro v0 s1) ho rfl rfl hr ?_
 clear ho
 clear hr
 intro m0 t0 ht hr
 have g0 : t0.get 0 = v0 := ht 0
 have g1 : t0.get 1 = (.s s1) := ht 1
 clear ht
 unfold g61 at hr
 refine w_seq (w_ops (wsp (v := (.i .i64 0)) (p_mv rfl) (wsp (v := (.b false)) (p_mv rfl) (qac (qab (w_seq (w_seq (w_ops (wsp (p_mv g0) (wsp (p_mv g0) ?_))))))))))
 obtain ⟨v10, e10, z1⟩ := qaa hr
 obtain ⟨x10, rfl, z2⟩ := qam z1
 refine wsp (o_len rfl e10) ?_
 obtain ⟨v11, m_1, e11, z3⟩ := qaf z2
 refine qan (qbf (mc rfl (mc rfl mn)) (qaq hM.call e11)) ?_
 obtain ⟨v12, e12, z4⟩ := qaa z3
 obtain ⟨x12, rfl, z5⟩ := qam z4
 refine wsp (o_len rfl e12) (wsp (v := (.i .i64 0)) (p_mv rfl) (qac (qab ?_)))
 refine qau ?_
 obtain ⟨o, hl, z6⟩ := qaa z5
 obtain ⟨n, hl⟩ := hM.loop _ _ _ hl
 refine qbl (qbw _ (g61_I0 s1 v11 x12) (g61_J0 s1 v11 x12) ?_ n _ _ _ _ hl ⟨rfl, gl rfl, gl g1, gl rfl, gl rfl⟩) ?_
 ·clear z6 hl
  intro s mm_2 t_1 o hi hr
  obtain ⟨x13, m_2⟩ := s
  obtain ⟨rfl, g13, g1, g11, g12⟩ := hi
  unfold g61_b0 at hr
  refine w_seq (w_ops ?_)
  obtain ⟨c14, e14, z7⟩ := qad hr
  refine wsp (p_bin g13 g12 (b_lss.trans (cb e14))) (qac (qab (w_seq ?_)))
  rcases qai z7 with ⟨rfl, z8⟩ | ⟨rfl, z8⟩
  ·refine qas rfl ?_
   refine qbb (qab (w_seq ?_))
   refine qau ?_
   refine w_seq (w_ops (wsp (p_mv g13) ?_))
   obtain ⟨v16, e16, z9⟩ := qaa z8
   refine wsp (o_ixS g11 g13 e16) ?_
   obtain ⟨v17, e17, z10⟩ := qaa z9
   refine qan (s_ld rfl e17) (wsp (v := (.i .i64 x13)) (p_mv rfl) (wsp (v := v17) (p_mv rfl) (qac (qab (w_seq (w_ops (wsp (v := v17) (p_mv rfl) (wsp (p_mv g1) ?_))))))))
   obtain ⟨v20, m_3, e20, z11⟩ := qaf z10
   obtain ⟨x20, rfl, z12⟩ := qam z11
   refine qan (qbf (mc rfl (mc rfl mn)) (qaq hM.call e20)) ?_
   obtain ⟨c21, e21, z13⟩ := qad z12
   refine wsp (p_bin rfl rfl (b_eql.trans (cb e21))) (qac (qab ?_))
   rcases qai z13 with ⟨rfl, z14⟩ | ⟨rfl, z14⟩
   ·refine qas rfl ?_
    refine w_seq (w_ops (wsp (v := (.i .i64 x13)) (p_mv rfl) (wsp (v := (.i .i64 x13)) (p_mv rfl) (wsp (v := (.b true)) (p_mv rfl) (qac (qab ?_))))))
    refine w_ret ?_
    refine qco ?_
    refine qbm ?_
    cases z14
    exact ⟨_, _, rfl, qcb, rfl, rfl, gl rfl, gl rfl⟩
   ·refine qat rfl ?_
    refine qbb ?_
    refine qbo ?_
    refine qab (w_ops ?_)
    obtain ⟨x23, e23, z15⟩ := qaj z14
    refine wsp (p_bin g13 rfl (b_add.trans (ci e23))) (wsp (v := (.i .i64 x23)) (p_mv rfl) (qac ?_))
    cases z15
    exact ⟨_, _, rfl, rfl, rfl, gl rfl, gl g1, gl g11, gl g12⟩
  ·refine qat rfl ?_
   refine qbz ?_
   refine qbp ?_
   cases z8
   exact ⟨_, _, rfl, qar, rfl, rfl⟩
 ·rcases o with o | o
  ·obtain ⟨m_4, ho⟩ : ∃ z, z = o := ⟨_, rfl⟩
   subst ho
   rintro _ mm t_2 ⟨rfl, rfl⟩
   refine qca ?_
   refine qab (w_seq (w_ops (wsp (v := (.i .i64 0)) (p_mv rfl) (wsp (v := (.b false)) (p_mv rfl) (qac (qab ?_))))))
   refine w_ret ?_
   exact qf qba (rt rfl (rt rfl rn)) z6
  ·obtain ⟨x4, c5, m_5⟩ := o
   rintro _ mm_1 t_3 ⟨rfl, rfl, g4, g5⟩
   refine qco ?_
   refine qbm ?_
   exact qf qba (rt g4 (rt g5 rn)) z6
/- (dibber/vine.rules).descent -/
abbrev g63_I0 (v0 : AVal) (v7 : AVal) (v9 : AVal) (x11 : Int) (s : Int × Mm) (m1 : Mm) (t1 : Tr) : Prop :=
 match s with
 | (x12, m_3) => m_3 = m1 ∧ t1.get 12 = (.i .i64 x12) ∧ t1.get 0 = v0 ∧ t1.get 3 = v7 ∧ t1.get 4 = v9 ∧ t1.get 11 = (.i .i64 x11)
abbrev g63_J0 (v0 : AVal) (v7 : AVal) (v9 : AVal) (x11 : Int) (o : Mm) (e : AExit) (m1 : Mm) (t1 : Tr) : Prop :=
 match o with
 | mo => e = (.exit 0) ∧ mo = m1 ∧ t1.get 0 = v0 ∧ t1.get 3 = v7 ∧ t1.get 4 = v9
def g63_b0 (M : Means) (ro : List ABlk) (v0 : AVal) (v7 : AVal) (v9 : AVal) (x11 : Int) (x12 : Int) (m_3 : Mm) : Option ((Int × Mm) ⊕ (Mm)) :=
 qap (ltI x12 x11) fun c13 =>
 cond c13 (
  bindO (evP .e (.ixS 1 (.c v9) (.c (.i .i64 x12)))) fun v17 =>
  bindO (ldM ro m_3 true 1 v17) fun v18 =>
  bindO (evP .e (.ixS 1 (.c v18) (.c (.i .i64 x12)))) fun v20 =>
  bindP (stepM ro m_3 (.st 1 (.c v20) (.c (.b true)))) fun vn m_4 =>
  qax (wr .i64 (x12 + 1)) fun x21 =>
  some (.inl (x21, m_4))) (
  some (.inr m_3))
abbrev g63_I1 (v9 : AVal) (x23 : Int) (s : AVal × Int × Mm) (m1 : Mm) (t1 : Tr) : Prop :=
 match s with
 | (v3, x24, m_6) => m_6 = m1 ∧ t1.get 3 = v3 ∧ t1.get 24 = (.i .i64 x24) ∧ t1.get 4 = v9 ∧ t1.get 23 = (.i .i64 x23)
abbrev g63_J1 (v9 : AVal) (x23 : Int) (o : (AVal × Mm)) (e : AExit) (m1 : Mm) (t1 : Tr) : Prop :=
 match o with
 | (y3, mo) => e = (.exit 2) ∧ mo = m1 ∧ t1.get 3 = y3
def g63_b1 (M : Means) (ro : List ABlk) (v9 : AVal) (x23 : Int) (v3 : AVal) (x24 : Int) (m_6 : Mm) : Option ((AVal × Int × Mm) ⊕ ((AVal × Mm))) :=
 qap (ltI x24 x23) fun c25 =>
 cond c25 (
  bindP (callM M.call m_6 95 [v3, v9]) fun v28 m_7 =>
  qax (wr .i64 (x24 + 1)) fun x29 =>
  some (.inl (v28, x29, m_7))) (
  some (.inr (v3, m_6)))
def g63 (M : Means) (ro : List ABlk) (v0 : AVal) (m0 : Mm) : Option (AVal × Heap × Nat × Nat) :=
 bindP (callM M.call m0 93 [v0, (AVal.fn 94 [] [])]) fun v7 m_1 =>
 bindP (callM M.call m_1 93 [v0, (AVal.fn 94 [] [])]) fun v9 m_2 =>
 bindO (evP .e (.len false (.c v9))) fun v11 =>
 asI .i64 v11 fun x11 =>
 bindO (M.loop (S := Int × Mm) (R := Mm) (fun s => g63_b0 M ro v0 v7 v9 x11 s.1 s.2) (0, m_2)) fun m_5 =>
 bindO (evP .e (.len false (.c v0))) fun v23 =>
 asI .i64 v23 fun x23 =>
 bindO (M.loop (S := AVal × Int × Mm) (R := (AVal × Mm)) (fun s => g63_b1 M ro v9 x23 s.1 s.2.1 s.2.2) (v7, 0, m_5)) fun ⟨v3_1, m_8⟩ =>
 finM m0.h.length (tupA [v3_1]) m_8
theorem g63_ok {ro : List ABlk} {O : qao} {M : Means} (hM : M.Ok ⟨F, O⟩ ro) {v0 h r} (ho : O 63 [v0] h = none) (hr : g63 M ro v0 ⟨h, h.length, h.length⟩ = some r) : callX ⟨F, O⟩ ro 63 [v0] h = some r := by
 refine qbc (F := ⟨F, O⟩) (fn := fn63) (g := g63 M ro v0) ho rfl rfl hr ?_
 clear ho
 clear hr
 intro m0 t0 ht hr
 have g0 : t0.get 0 = v0 := ht 0
 clear ht
 unfold g63 at hr
 refine w_seq (w_ops (wsp (v := AVal.nsl) (p_mv rfl) (qac (qab (w_seq (w_ops (wsp (p_mv g0) ?_)))))))
 obtain ⟨v7, m_1, e7, z1⟩ := qaf hr
 refine qan (qbf (mc rfl (mc rfl mn)) (qaq hM.call e7)) (wsp (p_mv g0) ?_)
 obtain ⟨v9, m_2, e9, z2⟩ := qaf z1
 refine qan (qbf (mc rfl (mc rfl mn)) (qaq hM.call e9)) (wsp (v := v7) (p_mv rfl) (wsp (v := v9) (p_mv rfl) (qac (qab (w_seq (w_seq (w_ops (wsp (v := v9) (p_mv rfl) ?_))))))))
 obtain ⟨v11, e11, z3⟩ := qaa z2
 obtain ⟨x11, rfl, z4⟩ := qam z3
 refine wsp (o_len rfl e11) (wsp (v := (.i .i64 0)) (p_mv rfl) (qac (qab ?_)))
 refine qau ?_
 obtain ⟨o, hl_1, z5⟩ := qaa z4
 obtain ⟨n_1, hl_1⟩ := hM.loop _ _ _ hl_1
 refine qbl (qbw _ (g63_I0 v0 v7 v9 x11) (g63_J0 v0 v7 v9 x11) ?_ n_1 _ _ _ _ hl_1 ⟨rfl, gl rfl, gl g0, gl rfl, gl rfl, gl rfl⟩) ?_
 ·clear z5 hl_1
  intro s mm_3 t_1 o hi hr
  obtain ⟨x12, m_3⟩ := s
  obtain ⟨rfl, g12, g0, g3, g4, g11⟩ := hi
  unfold g63_b0 at hr
  refine w_seq (w_ops ?_)
  obtain ⟨c13, e13, z6⟩ := qad hr
  refine wsp (p_bin g12 g11 (b_lss.trans (cb e13))) (qac (qab (w_seq ?_)))
  rcases qai z6 with ⟨rfl, z7⟩ | ⟨rfl, z7⟩
  ·refine qas rfl ?_
   refine qbb (qab (w_seq ?_))
   refine qau ?_
   refine w_seq (w_ops (wsp (p_mv g12) (wsp (v := (.i .i64 x12)) (p_mv rfl) (qac (qab (w_ops (wsp (p_mv g4) (wsp (v := (.i .i64 x12)) (p_mv rfl) ?_))))))))
   obtain ⟨v17, e17, z8⟩ := qaa z7
   refine wsp (o_ixS rfl rfl e17) ?_
   obtain ⟨v18, e18, z9⟩ := qaa z8
   refine qan (s_ld rfl e18) (wsp (v := (.i .i64 x12)) (p_mv rfl) ?_)
   obtain ⟨v20, e20, z10⟩ := qaa z9
   refine wsp (o_ixS rfl rfl e20) ?_
   obtain ⟨vn, m_4, en, z11⟩ := qaf z10
   refine qdq (s_st rfl rfl en) ?_
   refine qac ?_
   refine qbo ?_
   refine qab (w_ops ?_)
   obtain ⟨x21, e21, z12⟩ := qaj z11
   refine wsp (p_bin g12 rfl (b_add.trans (ci e21))) (wsp (v := (.i .i64 x21)) (p_mv rfl) (qac ?_))
   cases z12
   exact ⟨_, _, rfl, rfl, rfl, gl rfl, gl g0, gl g3, gl g4, gl g11⟩
  ·refine qat rfl ?_
   refine qbz ?_
   refine qbp ?_
   cases z7
   exact ⟨_, _, rfl, qar, rfl, rfl, gl g0, gl g3, gl g4⟩
 ·obtain ⟨m_5, ho⟩ : ∃ z, z = o := ⟨_, rfl⟩
  subst ho
  rintro _ mm_2 t_2 ⟨rfl, rfl, g0, g3, g4⟩
  refine qca ?_
  refine qab (w_seq (w_seq (w_ops (wsp (p_mv g0) ?_))))
  obtain ⟨v23, e23, z13⟩ := qaa z5
  obtain ⟨x23, rfl, z14⟩ := qam z13
  refine wsp (o_len rfl e23) (wsp (v := (.i .i64 0)) (p_mv rfl) (qac (qab ?_)))
  refine qau ?_
  obtain ⟨o_1, hl, z15⟩ := qaa z14
  obtain ⟨n, hl⟩ := hM.loop _ _ _ hl
  refine qbl (qbw _ (g63_I1 v9 x23) (g63_J1 v9 x23) ?_ n _ _ _ _ hl ⟨rfl, gl g3, gl rfl, gl g4, gl rfl⟩) ?_
  ·clear z15 hl
   intro s mm_1 t_3 o hi hr
   obtain ⟨v3, x24, m_6⟩ := s
   obtain ⟨rfl, g3, g24, g4, g23⟩ := hi
   unfold g63_b1 at hr
   refine w_seq (w_ops ?_)
   obtain ⟨c25, e25, z16⟩ := qad hr
   refine wsp (p_bin g24 g23 (b_lss.trans (cb e25))) (qac (qab (w_seq ?_)))
   rcases qai z16 with ⟨rfl, z17⟩ | ⟨rfl, z17⟩
   ·refine qas rfl ?_
    refine qbb (qab (w_seq ?_))
    refine qau ?_
    refine w_ops (wsp (p_mv g3) (wsp (p_mv g4) ?_))
    obtain ⟨v28, m_7, e28, z18⟩ := qaf z17
    refine qan (qbf (mc rfl (mc rfl mn)) (qaq hM.call e28)) (wsp (v := v28) (p_mv rfl) (qac ?_))
    refine qbo ?_
    refine qab (w_ops ?_)
    obtain ⟨x29, e29, z19⟩ := qaj z18
    refine wsp (p_bin g24 rfl (b_add.trans (ci e29))) (wsp (v := (.i .i64 x29)) (p_mv rfl) (qac ?_))
    cases z19
    exact ⟨_, _, rfl, rfl, rfl, gl rfl, gl rfl, gl g4, gl g23⟩
   ·refine qat rfl ?_
    refine qbz ?_
    refine qbp ?_
    cases z17
    exact ⟨_, _, rfl, qar, rfl, rfl, gl g3⟩
  ·obtain ⟨v3_1, m_8⟩ := o_1
   rintro _ mm t_4 ⟨rfl, rfl, g3⟩
   refine qca ?_
   refine qab (w_seq (w_ops (wsp (p_mv g3) (wsp (v := v3_1) (p_mv rfl) (qac (qab ?_))))))
   refine w_ret ?_
   exact qf qba (rt rfl rn) z15
/- (dibber/vine.family).explodes -/
abbrev g64_I0 (x1 : Int) (v2 : AVal) (x8 : Int) (s : Int × Mm) (m1 : Mm) (t1 : Tr) : Prop :=
 match s with
 | (x9, m_2) => m_2 = m1 ∧ t1.get 9 = (.i .i64 x9) ∧ t1.get 1 = (.i .i64 x1) ∧ t1.get 2 = v2 ∧ t1.get 8 = (.i .i64 x8)
abbrev g64_J0 (x1 : Int) (v2 : AVal) (x8 : Int) (o : (Mm ⊕ (Bool × Mm))) (e : AExit) (m1 : Mm) (t1 : Tr) : Prop :=
 match o with
 | (.inl mo) => e = (.exit 0) ∧ mo = m1
 | (.inr (y4, mo)) => e = .ret ∧ mo = m1 ∧ t1.get 4 = (.b y4)
abbrev g64_J1 (x1 : Int) (v2 : AVal) (x9 : Int) (x8 : Int) (m_2 : Mm) (o : Bool) (m1 : Mm) (t1 : Tr) : Prop :=
 match o with
 | c24 => m_2 = m1 ∧ t1.get 24 = (.b c24) ∧ t1.get 1 = (.i .i64 x1) ∧ t1.get 2 = v2 ∧ t1.get 5 = (.i .i64 x9) ∧ t1.get 8 = (.i .i64 x8) ∧ t1.get 9 = (.i .i64 x9)
abbrev g64_J2 (x1 : Int) (v2 : AVal) (x8 : Int) (x9 : Int) (o : Bool × Mm) (m1 : Mm) (t1 : Tr) : Prop :=
 match o with
 | (c29, m_3) => m_3 = m1 ∧ t1.get 29 = (.b c29) ∧ t1.get 1 = (.i .i64 x1) ∧ t1.get 2 = v2 ∧ t1.get 8 = (.i .i64 x8) ∧ t1.get 9 = (.i .i64 x9)
def g64_b0 (M : Means) (ro : List ABlk) (x1 : Int) (v2 : AVal) (x8 : Int) (x9 : Int) (m_2 : Mm) : Option ((Int × Mm) ⊕ ((Mm ⊕ (Bool × Mm)))) :=
 qap (ltI x9 x8) fun c10 =>
 cond c10 (
  qap (eqI x9 x1) fun c14 =>
  bindO (cond c14 (
   some true) (
   bindO (evP .e (.faddr 1 (.c v2))) fun v16 =>
   bindO (ldM ro m_2 true 1 v16) fun v17 =>
   bindO (evP .e (.ixS 1 (.c v17) (.c (.i .i64 x9)))) fun v19 =>
   bindO (ldM ro m_2 true 1 v19) fun v20 =>
   bindO (evP .e (.ixS 1 (.c v20) (.c (.i .i64 x1)))) fun v22 =>
   bindO (ldM ro m_2 true 1 v22) fun v23 =>
   asB v23 fun c23 =>
   some c23)) fun c24 =>
  bindO (cond c24 (
   bindO (ldM ro m_2 false 2 v2) fun v26 =>
   bindP (callM M.call m_2 96 [v26, (.i .i64 x9)]) fun v28 m_4 =>
   asB v28 fun c28 =>
   some (c28, m_4)) (
   some (false, m_2))) fun ⟨c29, m_3⟩ =>
  cond c29 (
   some (.inr (.inr (true, m_3)))) (
   qax (wr .i64 (x9 + 1)) fun x30 =>
   some (.inl (x30, m_3)))) (
  some (.inr (.inl m_2)))
def g64 (M : Means) (ro : List ABlk) (v0 : AVal) (x1 : Int) (m0 : Mm) : Option (AVal × Heap × Nat × Nat) :=
 bindP (stepM ro m0 (.bx 85 2 (.c v0))) fun v2 m_1 =>
 bindO (evP .e (.faddr 0 (.c v2))) fun v6 =>
 bindO (ldM ro m_1 true 1 v6) fun v7 =>
 bindO (evP .e (.len false (.c v7))) fun v8 =>
 asI .i64 v8 fun x8 =>
 bindO (M.loop (S := Int × Mm) (R := (Mm ⊕ (Bool × Mm))) (fun s => g64_b0 M ro x1 v2 x8 s.1 s.2) (0, m_1)) fun o_2 => match o_2 with
 | (.inl m_5) =>
  finM m0.h.length (tupA [(.b false)]) m_5
 | (.inr (c4, m_6)) =>
  finM m0.h.length (tupA [(.b c4)]) m_6
theorem g64_ok {ro : List ABlk} {O : qao} {M : Means} (hM : M.Ok ⟨F, O⟩ ro) {v0 x1 h r} (ho : O 64 [v0, (.i .i64 x1)] h = none) (hr : g64 M ro v0 x1 ⟨h, h.length, h.length⟩ = some r) : callX ⟨F, O⟩ ro 64 [v0, (.i .i64 x1)] h = some r := by
 refine qbc (F := ⟨F, O⟩) (fn := fn64) (g := g64 M ro v0 x1) ho rfl rfl hr ?_
 clear ho
 clear hr
 intro m0 t0 ht hr
 have g0 : t0.get 0 = v0 := ht 0
 have g1 : t0.get 1 = (.i .i64 x1) := ht 1
 clear ht
 unfold g64 at hr
 refine w_seq (w_ops ?_)
 obtain ⟨v2, m_1, e2, z1⟩ := qaf hr
 refine qan (s_bx g0 e2) (wsp (v := (.b false)) (p_mv rfl) (qac (qab (w_seq (w_seq (w_ops ?_))))))
 obtain ⟨v6, e6, z2⟩ := qaa z1
 refine wsp (qfq rfl e6) ?_
 obtain ⟨v7, e7, z3⟩ := qaa z2
 refine qan (s_ld rfl e7) ?_
 obtain ⟨v8, e8, z4⟩ := qaa z3
 obtain ⟨x8, rfl, z5⟩ := qam z4
 refine wsp (o_len rfl e8) (wsp (v := (.i .i64 0)) (p_mv rfl) (qac (qab ?_)))
 refine qau ?_
 obtain ⟨o_2, hl, z6⟩ := qaa z5
 obtain ⟨n, hl⟩ := hM.loop _ _ _ hl
 refine qbl (qbw _ (g64_I0 x1 v2 x8) (g64_J0 x1 v2 x8) ?_ n _ _ _ _ hl ⟨rfl, gl rfl, gl g1, gl rfl, gl rfl⟩) ?_
 ·clear z6 hl
  intro s mm_4 t_1 o hi hr
  obtain ⟨x9, m_2⟩ := s
  obtain ⟨rfl, g9, g1, g2, g8⟩ := hi
  unfold g64_b0 at hr
  refine w_seq (w_ops ?_)
  obtain ⟨c10, e10, z7⟩ := qad hr
  refine wsp (p_bin g9 g8 (b_lss.trans (cb e10))) (qac (qab (w_seq ?_)))
  rcases qai z7 with ⟨rfl, z8⟩ | ⟨rfl, z8⟩
  ·refine qas rfl ?_
   refine qbb (qab (w_seq ?_))
   refine qau ?_
   refine w_seq (w_ops (wsp (p_mv g9) (wsp (v := (.i .i64 x9)) (p_mv rfl) (qac (qab (w_seq (w_ops (wsp (v := (.i .i64 x9)) (p_mv rfl) (wsp (p_mv g1) ?_)))))))))
   obtain ⟨c14, e14, z9⟩ := qad z8
   refine wsp (p_bin rfl rfl (b_eql.trans (cb e14))) (wsp (v := (.b c14)) (p_mv rfl) ?_)
   obtain ⟨o, z10, hk⟩ := qaa z9
   refine qbn 9 (g64_J1 x1 v2 x9 x8 m_2 o) ?_ ?_
   ·clear hk
    rcases qai z10 with ⟨rfl, z11⟩ | ⟨rfl, z11⟩
    ·refine qae (v := (.b true)) rfl rfl (qae (v := (.b true)) rfl rfl (qae (v := (.b true)) rfl rfl (qae (v := (.b true)) rfl rfl (qae (v := (.b true)) rfl rfl (qae (v := (.b true)) rfl rfl (qae (v := (.b true)) rfl rfl (qae (v := (.b true)) rfl rfl (wsp (v := (.b true)) (qbj rfl rfl) (qac ?_)))))))))
     cases z11
     exact ⟨_, _, rfl, rfl, gl rfl, gl g1, gl g2, gl rfl, gl g8, gl g9⟩
    ·obtain ⟨v16, e16, z12⟩ := qaa z11
     refine qah (v := v16) rfl (qag (qfq g2 e16)) ?_
     obtain ⟨v17, e17, z13⟩ := qaa z12
     refine qah (v := v17) rfl (s_ld rfl e17) (qah (v := (.i .i64 x9)) rfl (qag (p_mv rfl)) ?_)
     obtain ⟨v19, e19, z14⟩ := qaa z13
     refine qah (v := v19) rfl (qag (o_ixS rfl rfl e19)) ?_
     obtain ⟨v20, e20, z15⟩ := qaa z14
     refine qah (v := v20) rfl (s_ld rfl e20) (qah (v := (.i .i64 x1)) rfl (qag (p_mv g1)) ?_)
     obtain ⟨v22, e22, z16⟩ := qaa z15
     refine qah (v := v22) rfl (qag (o_ixS rfl rfl e22)) ?_
     obtain ⟨v23, e23, z17⟩ := qaa z16
     obtain ⟨c23, rfl, z18⟩ := qbr z17
     refine qah (v := (.b c23)) rfl (s_ld rfl e23) (wsp (v := (.b c23)) (qbd rfl rfl) (qac ?_))
     cases z18
     exact ⟨_, _, rfl, rfl, gl rfl, gl g1, gl g2, gl rfl, gl g8, gl g9⟩
   ·clear z10
    have hr := hk
    clear hk
    obtain ⟨c24, ho⟩ : ∃ z, z = o := ⟨_, rfl⟩
    subst ho
    rintro mm t_2 ⟨rfl, g24, g1, g2, g5, g8, g9⟩
    refine wsp (p_mv g24) ?_
    obtain ⟨o_1, z19, hk⟩ := qaa hr
    refine qbn 4 (g64_J2 x1 v2 x8 x9 o_1) ?_ ?_
    ·clear hk
     rcases qai z19 with ⟨rfl, z20⟩ | ⟨rfl, z20⟩
     ·obtain ⟨v26, e26, z21⟩ := qaa z20
      refine qah (v := v26) rfl (s_ld g2 e26) (qah (v := (.i .i64 x9)) rfl (qag (p_mv g5)) ?_)
      obtain ⟨v28, m_4, e28, z22⟩ := qaf z21
      obtain ⟨c28, rfl, z23⟩ := qbr z22
      refine qah (v := (.b c28)) rfl (qbf (mc rfl (mc rfl mn)) (qaq hM.call e28)) (wsp (v := (.b c28)) (qbj rfl rfl) (qac ?_))
      cases z23
      exact ⟨_, _, rfl, rfl, gl rfl, gl g1, gl g2, gl g8, gl g9⟩
     ·refine qae (v := (.b false)) rfl rfl (qae (v := (.b false)) rfl rfl (qae (v := (.b false)) rfl rfl (wsp (v := (.b false)) (qbd rfl rfl) (qac ?_))))
      cases z20
      exact ⟨_, _, rfl, rfl, gl rfl, gl g1, gl g2, gl g8, gl g9⟩
    ·clear z19
     have hr := hk
     clear hk
     obtain ⟨c29, m_3⟩ := o_1
     rintro mm_1 t_3 ⟨rfl, g29, g1, g2, g8, g9⟩
     refine qac (qab ?_)
     rcases qai hr with ⟨rfl, z24⟩ | ⟨rfl, z24⟩
     ·refine qas g29 ?_
      refine w_seq (w_ops (wsp (v := (.b true)) (p_mv rfl) (qac (qab ?_))))
      refine w_ret ?_
      refine qco ?_
      refine qbm ?_
      cases z24
      exact ⟨_, _, rfl, qcb, rfl, rfl, gl rfl⟩
     ·refine qat g29 ?_
      refine qbb ?_
      refine qbo ?_
      refine qab (w_ops ?_)
      obtain ⟨x30, e30, z25⟩ := qaj z24
      refine wsp (p_bin g9 rfl (b_add.trans (ci e30))) (wsp (v := (.i .i64 x30)) (p_mv rfl) (qac ?_))
      cases z25
      exact ⟨_, _, rfl, rfl, rfl, gl rfl, gl g1, gl g2, gl g8⟩
  ·refine qat rfl ?_
   refine qbz ?_
   refine qbp ?_
   cases z8
   exact ⟨_, _, rfl, qar, rfl, rfl⟩
 ·rcases o_2 with o_2 | o_2
  ·obtain ⟨m_5, ho⟩ : ∃ z, z = o_2 := ⟨_, rfl⟩
   subst ho
   rintro _ mm_2 t_4 ⟨rfl, rfl⟩
   refine qca ?_
   refine qab (w_seq (w_ops (wsp (v := (.b false)) (p_mv rfl) (qac (qab ?_)))))
   refine w_ret ?_
   exact qf qba (rt rfl rn) z6
  ·obtain ⟨c4, m_6⟩ := o_2
   rintro _ mm_3 t_5 ⟨rfl, rfl, g4⟩
   refine qco ?_
   refine qbm ?_
   exact qf qba (rt g4 rn) z6
/- (dibber/vine.family).circles -/
abbrev g65_I0 (x1 : Int) (v2 : AVal) (x9 : Int) (s : Int × Int × Mm) (m1 : Mm) (t1 : Tr) : Prop :=
 match s with
 | (x5, x10, m_2) => m_2 = m1 ∧ t1.get 5 = (.i .i64 x5) ∧ t1.get 10 = (.i .i64 x10) ∧ t1.get 1 = (.i .i64 x1) ∧ t1.get 2 = v2 ∧ t1.get 9 = (.i .i64 x9)
abbrev g65_J0 (x1 : Int) (v2 : AVal) (x9 : Int) (o : (Int × Mm)) (e : AExit) (m1 : Mm) (t1 : Tr) : Prop :=
 match o with
 | (y5, mo) => e = (.exit 0) ∧ mo = m1 ∧ t1.get 5 = (.i .i64 y5) ∧ t1.get 1 = (.i .i64 x1) ∧ t1.get 2 = v2
abbrev g65_J1 (x1 : Int) (v2 : AVal) (x5 : Int) (x10 : Int) (x9 : Int) (m_2 : Mm) (o : Bool) (m1 : Mm) (t1 : Tr) : Prop :=
 match o with
 | c31 => m_2 = m1 ∧ t1.get 31 = (.b c31) ∧ t1.get 1 = (.i .i64 x1) ∧ t1.get 2 = v2 ∧ t1.get 5 = (.i .i64 x5) ∧ t1.get 6 = (.i .i64 x10) ∧ t1.get 9 = (.i .i64 x9) ∧ t1.get 10 = (.i .i64 x10)
abbrev g65_J2 (x1 : Int) (v2 : AVal) (x9 : Int) (x10 : Int) (o : (Int × Mm)) (e : AExit) (m1 : Mm) (t1 : Tr) : Prop :=
 match o with
 | (y5, mo) => e = .norm ∧ mo = m1 ∧ t1.get 5 = (.i .i64 y5) ∧ t1.get 1 = (.i .i64 x1) ∧ t1.get 2 = v2 ∧ t1.get 9 = (.i .i64 x9) ∧ t1.get 10 = (.i .i64 x10)
def g65_b0 (M : Means) (ro : List ABlk) (x1 : Int) (v2 : AVal) (x9 : Int) (x5 : Int) (x10 : Int) (m_2 : Mm) : Option ((Int × Int × Mm) ⊕ ((Int × Mm))) :=
 qap (ltI x10 x9) fun c11 =>
 cond c11 (
  bindO (evP .e (.faddr 1 (.c v2))) fun v13 =>
  bindO (ldM ro m_2 true 1 v13) fun v14 =>
  bindO (evP .e (.ixS 1 (.c v14) (.c (.i .i64 x10)))) fun v16 =>
  bindO (ldM ro m_2 true 1 v16) fun v17 =>
  bindO (evP .e (.ixS 1 (.c v17) (.c (.i .i64 x1)))) fun v19 =>
  bindO (ldM ro m_2 true 1 v19) fun v20 =>
  asB v20 fun c20 =>
  bindO (cond c20 (
   bindO (evP .e (.faddr 1 (.c v2))) fun v22 =>
   bindO (ldM ro m_2 true 1 v22) fun v23 =>
   bindO (evP .e (.ixS 1 (.c v23) (.c (.i .i64 x1)))) fun v25 =>
   bindO (ldM ro m_2 true 1 v25) fun v26 =>
   bindO (evP .e (.ixS 1 (.c v26) (.c (.i .i64 x10)))) fun v28 =>
   bindO (ldM ro m_2 true 1 v28) fun v29 =>
   asB v29 fun c29 =>
   qap (!c29) fun c30 =>
   some c30) (
   some false)) fun c31 =>
  bindO (α := (Int × Mm)) (
   cond c31 (
    bindO (ldM ro m_2 false 2 v2) fun v33 =>
    bindP (callM M.call m_2 65 [v33, (.i .i64 x10)]) fun v35 m_3 =>
    asI .i64 v35 fun x35 =>
    qax (mxV true x5 x35) fun x36 =>
    some (x36, m_3)) (
    some (x5, m_2))) fun ⟨x5_1, m_4⟩ =>
  qax (wr .i64 (x10 + 1)) fun x37 =>
  some (.inl (x5_1, x37, m_4))) (
  some (.inr (x5, m_2)))
abbrev g65_J3 (m_5 : Mm) (o : Int) (e : AExit) (m1 : Mm) (t1 : Tr) : Prop :=
 match o with
 | y5 => e = .norm ∧ m_5 = m1 ∧ t1.get 5 = (.i .i64 y5)
def g65 (M : Means) (ro : List ABlk) (v0 : AVal) (x1 : Int) (m0 : Mm) : Option (AVal × Heap × Nat × Nat) :=
 bindP (stepM ro m0 (.bx 85 2 (.c v0))) fun v2 m_1 =>
 bindO (evP .e (.faddr 0 (.c v2))) fun v7 =>
 bindO (ldM ro m_1 true 1 v7) fun v8 =>
 bindO (evP .e (.len false (.c v8))) fun v9 =>
 asI .i64 v9 fun x9 =>
 bindO (M.loop (S := Int × Int × Mm) (R := (Int × Mm)) (fun s => g65_b0 M ro x1 v2 x9 s.1 s.2.1 s.2.2) (0, 0, m_1)) fun ⟨x5_2, m_5⟩ =>
 bindO (evP .e (.faddr 1 (.c v2))) fun v38 =>
 bindO (ldM ro m_5 true 1 v38) fun v39 =>
 bindO (evP .e (.ixS 1 (.c v39) (.c (.i .i64 x1)))) fun v41 =>
 bindO (ldM ro m_5 true 1 v41) fun v42 =>
 bindO (evP .e (.ixS 1 (.c v42) (.c (.i .i64 x1)))) fun v44 =>
 bindO (ldM ro m_5 true 1 v44) fun v45 =>
 asB v45 fun c45 =>
 bindO (α := Int) (
  cond c45 (
   qax (wr .i64 (x5_2 + 1)) fun x47 =>
   some x47) (
   some x5_2)) fun x5_3 =>
 finM m0.h.length (tupA [(.i .i64 x5_3)]) m_5
theorem g65_ok {ro : List ABlk} {O : qao} {M : Means} (hM : M.Ok ⟨F, O⟩ ro) {v0 x1 h r} (ho : O 65 [v0, (.i .i64 x1)] h = none) (hr : g65 M ro v0 x1 ⟨h, h.length, h.length⟩ = some r) : callX ⟨F, O⟩ ro 65 [v0, (.i .i64 x1)] h = some r := by
 refine qbc (F := ⟨F, O⟩) (fn := fn65) (g := g65 M ro v0 x1) ho rfl rfl hr ?_
 clear ho
 clear hr
 intro m0 t0 ht hr
 have g0 : t0.get 0 = v0 := ht 0
 have g1 : t0.get 1 = (.i .i64 x1) := ht 1
 clear ht
 unfold g65 at hr
 refine w_seq (w_ops ?_)
 obtain ⟨v2, m_1, e2, z1⟩ := qaf hr
 refine qan (s_bx g0 e2) (wsp (v := (.i .i64 0)) (p_mv rfl) (qac (qab (w_seq (w_ops (wsp (v := (.i .i64 0)) (p_mv rfl) (qac (qab (w_seq (w_seq (w_ops ?_)))))))))))
 obtain ⟨v7, e7, z2⟩ := qaa z1
 refine wsp (qfq rfl e7) ?_
 obtain ⟨v8, e8, z3⟩ := qaa z2
 refine qan (s_ld rfl e8) ?_
 obtain ⟨v9, e9, z4⟩ := qaa z3
 obtain ⟨x9, rfl, z5⟩ := qam z4
 refine wsp (o_len rfl e9) (wsp (v := (.i .i64 0)) (p_mv rfl) (qac (qab ?_)))
 refine qau ?_
 obtain ⟨o_2, hl, z6⟩ := qaa z5
 obtain ⟨n, hl⟩ := hM.loop _ _ _ hl
 refine qbl (qbw _ (g65_I0 x1 v2 x9) (g65_J0 x1 v2 x9) ?_ n _ _ _ _ hl ⟨rfl, gl rfl, gl rfl, gl g1, gl rfl, gl rfl⟩) ?_
 ·clear z6 hl
  intro s mm_4 t_1 o hi hr
  obtain ⟨x5, x10, m_2⟩ := s
  obtain ⟨rfl, g5, g10, g1, g2, g9⟩ := hi
  unfold g65_b0 at hr
  refine w_seq (w_ops ?_)
  obtain ⟨c11, e11, z7⟩ := qad hr
  refine wsp (p_bin g10 g9 (b_lss.trans (cb e11))) (qac (qab (w_seq ?_)))
  rcases qai z7 with ⟨rfl, z8⟩ | ⟨rfl, z8⟩
  ·refine qas rfl ?_
   refine qbb (qab (w_seq ?_))
   refine qau ?_
   refine w_seq (w_ops (wsp (p_mv g10) (wsp (v := (.i .i64 x10)) (p_mv rfl) (qac (qab (w_seq (w_ops ?_)))))))
   obtain ⟨v13, e13, z9⟩ := qaa z8
   refine wsp (qfq g2 e13) ?_
   obtain ⟨v14, e14, z10⟩ := qaa z9
   refine qan (s_ld rfl e14) (wsp (v := (.i .i64 x10)) (p_mv rfl) ?_)
   obtain ⟨v16, e16, z11⟩ := qaa z10
   refine wsp (o_ixS rfl rfl e16) ?_
   obtain ⟨v17, e17, z12⟩ := qaa z11
   refine qan (s_ld rfl e17) (wsp (p_mv g1) ?_)
   obtain ⟨v19, e19, z13⟩ := qaa z12
   refine wsp (o_ixS rfl rfl e19) ?_
   obtain ⟨v20, e20, z14⟩ := qaa z13
   obtain ⟨c20, rfl, z15⟩ := qbr z14
   refine qan (s_ld rfl e20) (wsp (v := (.b c20)) (p_mv rfl) ?_)
   obtain ⟨o, z16, hk⟩ := qaa z15
   refine qbn 10 (g65_J1 x1 v2 x5 x10 x9 m_2 o) ?_ ?_
   ·clear hk
    rcases qai z16 with ⟨rfl, z17⟩ | ⟨rfl, z17⟩
    ·obtain ⟨v22, e22, z18⟩ := qaa z17
     refine qah (v := v22) rfl (qag (qfq g2 e22)) ?_
     obtain ⟨v23, e23, z19⟩ := qaa z18
     refine qah (v := v23) rfl (s_ld rfl e23) (qah (v := (.i .i64 x1)) rfl (qag (p_mv g1)) ?_)
     obtain ⟨v25, e25, z20⟩ := qaa z19
     refine qah (v := v25) rfl (qag (o_ixS rfl rfl e25)) ?_
     obtain ⟨v26, e26, z21⟩ := qaa z20
     refine qah (v := v26) rfl (s_ld rfl e26) (qah (v := (.i .i64 x10)) rfl (qag (p_mv rfl)) ?_)
     obtain ⟨v28, e28, z22⟩ := qaa z21
     refine qah (v := v28) rfl (qag (o_ixS rfl rfl e28)) ?_
     obtain ⟨v29, e29, z23⟩ := qaa z22
     obtain ⟨c29, rfl, z24⟩ := qbr z23
     refine qah (v := (.b c29)) rfl (s_ld rfl e29) ?_
     obtain ⟨c30, e30, z25⟩ := qad z24
     refine qah (v := (.b c30)) rfl (qag ((p_not rfl).trans (cb e30))) (wsp (v := (.b c30)) (qbj rfl rfl) (qac ?_))
     cases z25
     exact ⟨_, _, rfl, rfl, gl rfl, gl g1, gl g2, gl g5, gl rfl, gl g9, gl g10⟩
    ·refine qae (v := (.b false)) rfl rfl (qae (v := (.b false)) rfl rfl (qae (v := (.b false)) rfl rfl (qae (v := (.b false)) rfl rfl (qae (v := (.b false)) rfl rfl (qae (v := (.b false)) rfl rfl (qae (v := (.b false)) rfl rfl (qae (v := (.b false)) rfl rfl (qae (v := (.b false)) rfl rfl (wsp (v := (.b false)) (qbd rfl rfl) (qac ?_))))))))))
     cases z17
     exact ⟨_, _, rfl, rfl, gl rfl, gl g1, gl g2, gl g5, gl rfl, gl g9, gl g10⟩
   ·clear z16
    have hr := hk
    clear hk
    obtain ⟨c31, ho⟩ : ∃ z, z = o := ⟨_, rfl⟩
    subst ho
    rintro mm t_2 ⟨rfl, g31, g1, g2, g5, g6, g9, g10⟩
    refine qac (qab ?_)
    obtain ⟨o_1, z26, hk⟩ := qaa hr
    refine qbl (J := g65_J2 x1 v2 x9 x10 o_1) ?_ ?_
    ·clear hk
     rcases qai z26 with ⟨rfl, z27⟩ | ⟨rfl, z27⟩
     ·refine qas g31 ?_
      refine w_ops (wsp (p_mv g5) ?_)
      obtain ⟨v33, e33, z28⟩ := qaa z27
      refine qan (s_ld g2 e33) (wsp (p_mv g6) ?_)
      obtain ⟨v35, m_3, e35, z29⟩ := qaf z28
      obtain ⟨x35, rfl, z30⟩ := qam z29
      refine qan (qbf (mc rfl (mc rfl mn)) (qaq hM.call e35)) ?_
      obtain ⟨x36, e36, z31⟩ := qaj z30
      refine wsp ((p_mx rfl rfl).trans (ci e36)) (wsp (v := (.i .i64 x36)) (p_mv rfl) (qac ?_))
      cases z31
      exact ⟨_, _, rfl, rfl, rfl, gl rfl, gl g1, gl g2, gl g9, gl g10⟩
     ·refine qat g31 ?_
      refine qbb ?_
      cases z27
      exact ⟨_, _, rfl, rfl, rfl, gl g5, gl g1, gl g2, gl g9, gl g10⟩
    ·clear z26
     have hr := hk
     clear hk
     obtain ⟨x5_1, m_4⟩ := o_1
     rintro _ mm_1 t_3 ⟨rfl, rfl, g5, g1, g2, g9, g10⟩
     refine qbo ?_
     refine qab (w_ops ?_)
     obtain ⟨x37, e37, z32⟩ := qaj hr
     refine wsp (p_bin g10 rfl (b_add.trans (ci e37))) (wsp (v := (.i .i64 x37)) (p_mv rfl) (qac ?_))
     cases z32
     exact ⟨_, _, rfl, rfl, rfl, gl g5, gl rfl, gl g1, gl g2, gl g9⟩
  ·refine qat rfl ?_
   refine qbz ?_
   refine qbp ?_
   cases z8
   exact ⟨_, _, rfl, qar, rfl, rfl, gl g5, gl g1, gl g2⟩
 ·obtain ⟨x5_2, m_5⟩ := o_2
  rintro _ mm_3 t_4 ⟨rfl, rfl, g5, g1, g2⟩
  refine qca ?_
  refine qab (w_seq (w_seq (w_ops ?_)))
  obtain ⟨v38, e38, z33⟩ := qaa z6
  refine wsp (qfq g2 e38) ?_
  obtain ⟨v39, e39, z34⟩ := qaa z33
  refine qan (s_ld rfl e39) (wsp (p_mv g1) ?_)
  obtain ⟨v41, e41, z35⟩ := qaa z34
  refine wsp (o_ixS rfl rfl e41) ?_
  obtain ⟨v42, e42, z36⟩ := qaa z35
  refine qan (s_ld rfl e42) (wsp (p_mv g1) ?_)
  obtain ⟨v44, e44, z37⟩ := qaa z36
  refine wsp (o_ixS rfl rfl e44) ?_
  obtain ⟨v45, e45, z38⟩ := qaa z37
  obtain ⟨c45, rfl, z39⟩ := qbr z38
  refine qan (s_ld rfl e45) (qac (qab ?_))
  obtain ⟨o_3, z40, hk⟩ := qaa z39
  refine qbl (J := g65_J3 m_5 o_3) ?_ ?_
  ·clear hk
   rcases qai z40 with ⟨rfl, z41⟩ | ⟨rfl, z41⟩
   ·refine qas rfl ?_
    refine w_ops (wsp (p_mv g5) ?_)
    obtain ⟨x47, e47, z42⟩ := qaj z41
    refine wsp (p_bin rfl rfl (b_add.trans (ci e47))) (wsp (v := (.i .i64 x47)) (p_mv rfl) (qac ?_))
    cases z42
    exact ⟨_, _, rfl, rfl, rfl, gl rfl⟩
   ·refine qat rfl ?_
    refine qbb ?_
    cases z41
    exact ⟨_, _, rfl, rfl, rfl, gl g5⟩
  ·clear z40
   have hr := hk
   clear hk
   obtain ⟨x5_3, ho⟩ : ∃ z, z = o_3 := ⟨_, rfl⟩
   subst ho
   rintro _ mm_2 t_5 ⟨rfl, rfl, g5⟩
   refine qab (w_seq (w_ops (wsp (p_mv g5) (wsp (v := (.i .i64 x5_3)) (p_mv rfl) (qac (qab ?_))))))
   refine w_ret ?_
   exact qf qba (rt rfl rn) hr
/- dibber/vine.readVine -/
abbrev g71_J0 (v0 : AVal) (m0 : Mm) (o : Bool) (m1 : Mm) (t1 : Tr) : Prop :=
 match o with
 | c14 => m0 = m1 ∧ t1.get 14 = (.b c14) ∧ t1.get 0 = v0
abbrev g71_I1 (v0 : AVal) (x17 : Int) (s : Int × Mm) (m1 : Mm) (t1 : Tr) : Prop :=
 match s with
 | (x18, m_1) => m_1 = m1 ∧ t1.get 18 = (.i .i64 x18) ∧ t1.get 4 = v0 ∧ t1.get 16 = v0 ∧ t1.get 17 = (.i .i64 x17)
abbrev g71_J1 (v0 : AVal) (x17 : Int) (o : (Mm ⊕ (AVal × Int × Mm))) (e : AExit) (m1 : Mm) (t1 : Tr) : Prop :=
 match o with
 | (.inl mo) => e = (.exit 0) ∧ mo = m1 ∧ t1.get 4 = v0
 | (.inr (y2, y3, mo)) => e = .ret ∧ mo = m1 ∧ t1.get 2 = y2 ∧ t1.get 3 = (.i .i64 y3)
abbrev g71_J2 (v0 : AVal) (x17 : Int) (x18 : Int) (o : Bool × Mm) (m1 : Mm) (t1 : Tr) : Prop :=
 match o with
 | (c30, m_2) => m_2 = m1 ∧ t1.get 30 = (.b c30) ∧ t1.get 4 = v0 ∧ t1.get 16 = v0 ∧ t1.get 17 = (.i .i64 x17) ∧ t1.get 18 = (.i .i64 x18)
def g71_b1 (M : Means) (ro : List ABlk) (v0 : AVal) (x17 : Int) (x18 : Int) (m_1 : Mm) : Option ((Int × Mm) ⊕ ((Mm ⊕ (AVal × Int × Mm)))) :=
 qap (ltI x18 x17) fun c19 =>
 cond c19 (
  bindO (evP .e (.ixS 1 (.c v0) (.c (.i .i64 x18)))) fun v20 =>
  bindO (ldM ro m_1 true 1 v20) fun v21 =>
  asS v21 fun s21 =>
  bindO (evP .e (.len true (.c (.s s21)))) fun v23 =>
  asI .i64 v23 fun x23 =>
  qap (ltI 8 x23) fun c24 =>
  bindO (cond c24 (
   some (true, m_1)) (
   bindP (callM M.call m_1 92 [v0, (.s s21)]) fun v28 m_3 =>
   asB v28 fun c28 =>
   qap (!c28) fun c29 =>
   some (c29, m_3))) fun ⟨c30, m_2⟩ =>
  cond c30 (
   some (.inr (.inr (AVal.nsl, 5, m_2)))) (
   qax (wr .i64 (x18 + 1)) fun x31 =>
   some (.inl (x31, m_2)))) (
  some (.inr (.inl m_1)))
def g71 (M : Means) (ro : List ABlk) (v0 : AVal) (m0 : Mm) : Option (AVal × Heap × Nat × Nat) :=
 bindO (evP .e (.len false (.c v0))) fun v8 =>
 asI .i64 v8 fun x8 =>
 qap (ltI x8 1) fun c9 =>
 bindO (cond c9 (
  some true) (
  bindO (evP .e (.len false (.c v0))) fun v12 =>
  asI .i64 v12 fun x12 =>
  qap (ltI 6 x12) fun c13 =>
  some c13)) fun c14 =>
 cond c14 (
  finM m0.h.length (tupA [AVal.nsl, (.i .i64 2)]) m0) (
  bindO (evP .e (.len false (.c v0))) fun v17 =>
  asI .i64 v17 fun x17 =>
  bindO (M.loop (S := Int × Mm) (R := (Mm ⊕ (AVal × Int × Mm))) (fun s => g71_b1 M ro v0 x17 s.1 s.2) (0, m0)) fun o_2 => match o_2 with
  | (.inl m_4) =>
   finM m0.h.length (tupA [v0, (.i .i64 0)]) m_4
  | (.inr (v2, x3, m_5)) =>
   finM m0.h.length (tupA [v2, (.i .i64 x3)]) m_5)
theorem g71_ok {ro : List ABlk} {O : qao} {M : Means} (hM : M.Ok ⟨F, O⟩ ro) {v0 h r} (ho : O 71 [v0] h = none) (hr : g71 M ro v0 ⟨h, h.length, h.length⟩ = some r) : callX ⟨F, O⟩ ro 71 [v0] h = some r := by
 refine qbc (F := ⟨F, O⟩) (fn := fn71) (g := g71 M ro v0) ho rfl rfl hr ?_
 clear ho
 clear hr
 intro m0 t0 ht hr
 have g0 : t0.get 0 = v0 := ht 0
 clear ht
 unfold g71 at hr
 refine w_seq (w_ops (wsp (v := AVal.nsl) (p_mv rfl) (wsp (v := (.i .i64 0)) (p_mv rfl) (qac (qab (w_seq (w_seq (w_ops (wsp (p_mv g0) ?_)))))))))
 obtain ⟨v8, e8, z1⟩ := qaa hr
 obtain ⟨x8, rfl, z2⟩ := qam z1
 refine wsp (o_len rfl e8) ?_
 obtain ⟨c9, e9, z3⟩ := qad z2
 refine wsp (p_bin rfl rfl (b_lss.trans (cb e9))) (wsp (v := (.b c9)) (p_mv rfl) ?_)
 obtain ⟨o, z4, hk⟩ := qaa z3
 refine qbn 4 (g71_J0 v0 m0 o) ?_ ?_
 ·clear hk
  rcases qai z4 with ⟨rfl, z5⟩ | ⟨rfl, z5⟩
  ·refine qae (v := (.b true)) rfl rfl (qae (v := (.b true)) rfl rfl (qae (v := (.b true)) rfl rfl (wsp (v := (.b true)) (qbj rfl rfl) (qac ?_))))
   cases z5
   exact ⟨_, _, rfl, rfl, gl rfl, gl g0⟩
  ·refine qah (v := v0) rfl (qag (p_mv g0)) ?_
   obtain ⟨v12, e12, z6⟩ := qaa z5
   obtain ⟨x12, rfl, z7⟩ := qam z6
   refine qah (v := (.i .i64 x12)) rfl (qag (o_len rfl e12)) ?_
   obtain ⟨c13, e13, z8⟩ := qad z7
   refine qah (v := (.b c13)) rfl (qag (p_bin rfl rfl (b_gtr.trans (cb e13)))) (wsp (v := (.b c13)) (qbd rfl rfl) (qac ?_))
   cases z8
   exact ⟨_, _, rfl, rfl, gl rfl, gl g0⟩
 ·clear z4
  have hr := hk
  clear hk
  obtain ⟨c14, ho⟩ : ∃ z, z = o := ⟨_, rfl⟩
  subst ho
  rintro mm t_1 ⟨rfl, g14, g0⟩
  refine qac (qab ?_)
  rcases qai hr with ⟨rfl, z9⟩ | ⟨rfl, z9⟩
  ·refine qas g14 ?_
   refine w_seq (w_ops (wsp (v := AVal.nsl) (p_mv rfl) (wsp (v := (.i .i64 2)) (p_mv rfl) (qac (qab ?_)))))
   refine w_ret ?_
   refine qbm ?_
   exact qf qba (rt rfl (rt rfl rn)) z9
  ·refine qat g14 ?_
   refine qbb (qab (w_seq (w_ops (wsp (p_mv g0) (wsp (v := v0) (p_mv rfl) (qac (qab (w_seq (w_seq (w_ops (wsp (v := v0) (p_mv rfl) ?_)))))))))))
   obtain ⟨v17, e17, z10⟩ := qaa z9
   obtain ⟨x17, rfl, z11⟩ := qam z10
   refine wsp (o_len rfl e17) (wsp (v := (.i .i64 0)) (p_mv rfl) (qac (qab ?_)))
   refine qau ?_
   obtain ⟨o_2, hl, z12⟩ := qaa z11
   obtain ⟨n, hl⟩ := hM.loop _ _ _ hl
   refine qbl (qbw _ (g71_I1 v0 x17) (g71_J1 v0 x17) ?_ n _ _ _ _ hl ⟨rfl, gl rfl, gl rfl, gl rfl, gl rfl⟩) ?_
   ·clear z12 hl
    intro s mm_4 t_2 o hi hr
    obtain ⟨x18, m_1⟩ := s
    obtain ⟨rfl, g18, g4, g16, g17⟩ := hi
    unfold g71_b1 at hr
    refine w_seq (w_ops ?_)
    obtain ⟨c19, e19, z13⟩ := qad hr
    refine wsp (p_bin g18 g17 (b_lss.trans (cb e19))) (qac (qab (w_seq ?_)))
    rcases qai z13 with ⟨rfl, z14⟩ | ⟨rfl, z14⟩
    ·refine qas rfl ?_
     refine qbb (qab (w_seq ?_))
     refine qau ?_
     refine w_seq (w_ops ?_)
     obtain ⟨v20, e20, z15⟩ := qaa z14
     refine wsp (o_ixS g16 g18 e20) ?_
     obtain ⟨v21, e21, z16⟩ := qaa z15
     obtain ⟨s21, rfl, z17⟩ := qck z16
     refine qan (s_ld rfl e21) (wsp (v := (.s s21)) (p_mv rfl) (qac (qab (w_seq (w_ops (wsp (v := (.s s21)) (p_mv rfl) ?_))))))
     obtain ⟨v23, e23, z18⟩ := qaa z17
     obtain ⟨x23, rfl, z19⟩ := qam z18
     refine wsp (o_len rfl e23) ?_
     obtain ⟨c24, e24, z20⟩ := qad z19
     refine wsp (p_bin rfl rfl (b_gtr.trans (cb e24))) (wsp (v := (.b c24)) (p_mv rfl) ?_)
     obtain ⟨o_1, z21, hk⟩ := qaa z20
     refine qbn 5 (g71_J2 v0 x17 x18 o_1) ?_ ?_
     ·clear hk
      rcases qai z21 with ⟨rfl, z22⟩ | ⟨rfl, z22⟩
      ·refine qae (v := (.b true)) rfl rfl (qae (v := (.b true)) rfl rfl (qae (v := (.b true)) rfl rfl (qae (v := (.b true)) rfl rfl (wsp (v := (.b true)) (qbj rfl rfl) (qac ?_)))))
       cases z22
       exact ⟨_, _, rfl, rfl, gl rfl, gl g4, gl g16, gl g17, gl g18⟩
      ·refine qah (v := v0) rfl (qag (p_mv g4)) (qah (v := (.s s21)) rfl (qag (p_mv rfl)) ?_)
       obtain ⟨v28, m_3, e28, z23⟩ := qaf z22
       obtain ⟨c28, rfl, z24⟩ := qbr z23
       refine qah (v := (.b c28)) rfl (qbf (mc rfl (mc rfl mn)) (qaq hM.call e28)) ?_
       obtain ⟨c29, e29, z25⟩ := qad z24
       refine qah (v := (.b c29)) rfl (qag ((p_not rfl).trans (cb e29))) (wsp (v := (.b c29)) (qbd rfl rfl) (qac ?_))
       cases z25
       exact ⟨_, _, rfl, rfl, gl rfl, gl g4, gl g16, gl g17, gl g18⟩
     ·clear z21
      have hr := hk
      clear hk
      obtain ⟨c30, m_2⟩ := o_1
      rintro mm_1 t_3 ⟨rfl, g30, g4, g16, g17, g18⟩
      refine qac (qab ?_)
      rcases qai hr with ⟨rfl, z26⟩ | ⟨rfl, z26⟩
      ·refine qas g30 ?_
       refine w_seq (w_ops (wsp (v := AVal.nsl) (p_mv rfl) (wsp (v := (.i .i64 5)) (p_mv rfl) (qac (qab ?_)))))
       refine w_ret ?_
       refine qco ?_
       refine qbm ?_
       cases z26
       exact ⟨_, _, rfl, qcb, rfl, rfl, gl rfl, gl rfl⟩
      ·refine qat g30 ?_
       refine qbb ?_
       refine qbo ?_
       refine qab (w_ops ?_)
       obtain ⟨x31, e31, z27⟩ := qaj z26
       refine wsp (p_bin g18 rfl (b_add.trans (ci e31))) (wsp (v := (.i .i64 x31)) (p_mv rfl) (qac ?_))
       cases z27
       exact ⟨_, _, rfl, rfl, rfl, gl rfl, gl g4, gl g16, gl g17⟩
    ·refine qat rfl ?_
     refine qbz ?_
     refine qbp ?_
     cases z14
     exact ⟨_, _, rfl, qar, rfl, rfl, gl g4⟩
   ·rcases o_2 with o_2 | o_2
    ·obtain ⟨m_4, ho⟩ : ∃ z, z = o_2 := ⟨_, rfl⟩
     subst ho
     rintro _ mm_2 t_4 ⟨rfl, rfl, g4⟩
     refine qca ?_
     refine qab (w_seq (w_ops (wsp (p_mv g4) (wsp (v := v0) (p_mv rfl) (wsp (v := (.i .i64 0)) (p_mv rfl) (qac (qab ?_)))))))
     refine w_ret ?_
     exact qf qba (rt rfl (rt rfl rn)) z12
    ·obtain ⟨v2, x3, m_5⟩ := o_2
     rintro _ mm_3 t_5 ⟨rfl, rfl, g2, g3⟩
     refine qco ?_
     refine qbm ?_
     exact qf qba (rt g2 (rt g3 rn)) z12
/- (dibber/vine.rules).bud -/

def g72 (M : Means) (ro : List ABlk) (v0 : AVal) (x1 : Int) (m0 : Mm) : Option (AVal × Heap × Nat × Nat) :=
 bindO (some (Mm.base m0)) fun m_1 =>
 bindO (evP .e (.ixS 1 (.c v0) (.c (.i .i64 x1)))) fun v12 =>
 bindO (ldA ro m0.h true 1 v12) fun v13 =>
 asS v13 fun s13 =>
 bindP (callM M.call m_1 89 [(.i .i64 x1)]) fun v15 m_2 =>
 asS v15 fun s15 =>
 chk (!Nat.blt m_2.lw m0.h.length) <|
 bindP (callM M.call m_2 97 [(.s s13), (.s s15)]) fun v16 m_3 =>
 bindO (evP .e (.ext 0 (.c v16))) fun v17 =>
 asS v17 fun s17 =>
 bindO (evP .e (.ext 1 (.c v16))) fun v18 =>
 asB v18 fun c18 =>
 bindO (some (Mm.join m0 m_3)) fun m_4 =>
 qap (!c18) fun c20 =>
 cond c20 (
  finM m0.h.length (tupA [(.b false)]) m_4) (
  bindP (callM M.call m_4 61 [v0, (.s s17)]) fun v24 m_5 =>
  bindO (evP .e (.ext 0 (.c v24))) fun v25 =>
  asI .i64 v25 fun x25 =>
  bindO (evP .e (.ext 1 (.c v24))) fun v26 =>
  asB v26 fun c26 =>
  qap (!c26) fun c28 =>
  finM m0.h.length (tupA [(.b c28)]) m_5)
theorem g72_ok {ro : List ABlk} {O : qao} {M : Means} (hM : M.Ok ⟨F, O⟩ ro) {v0 x1 h r} (ho : O 72 [v0, (.i .i64 x1)] h = none) (hr : g72 M ro v0 x1 ⟨h, h.length, h.length⟩ = some r) : callX ⟨F, O⟩ ro 72 [v0, (.i .i64 x1)] h = some r := by
 refine qbc (F := ⟨F, O⟩) (fn := fn72) (g := g72 M ro v0 x1) ho rfl rfl hr ?_
 clear ho
 clear hr
 intro m0 t0 ht hr
 have g0 : t0.get 0 = v0 := ht 0
 have g1 : t0.get 1 = (.i .i64 x1) := ht 1
 clear ht
 unfold g72 at hr
 refine w_seq (w_ops (wsp (v := (.b false)) (p_mv rfl) (qac (qab (w_seq ?_)))))
 obtain ⟨m_1, ef, z1⟩ := qaa hr
 refine w_flt (af := true) rfl ef ?_
 refine qal (v := v0) (f_P rfl (qag (p_mv g0))) ?_
 refine qal (v := (.i .i64 x1)) (f_P rfl (qag (p_mv g1))) ?_
 obtain ⟨v12, e12, z2⟩ := qaa z1
 refine qal (v := v12) (f_P rfl (qag (o_ixS rfl rfl e12))) ?_
 obtain ⟨v13, e13, z3⟩ := qaa z2
 obtain ⟨s13, rfl, z4⟩ := qck z3
 refine qal (v := (.s s13)) (f_ld rfl e13) ?_
 refine qal (v := (.i .i64 x1)) (f_P rfl (qag (p_mv g1))) ?_
 obtain ⟨v15, m_2, e15, z5⟩ := qaf z4
 obtain ⟨s15, rfl, z6⟩ := qck z5
 obtain ⟨hc15, z7⟩ := qdc z6
 refine qal (v := (.s s15)) (f_M hc15 (qbf (mc rfl mn) (qaq hM.call e15))) ?_
 obtain ⟨v16, m_3, e16, z8⟩ := qaf z7
 refine qal (v := v16) (f_F rfl (qbf (mc rfl (mc rfl mn)) (qaq hM.call e16))) ?_
 refine qal (v := v16) (f_P rfl (qag (p_mv rfl))) ?_
 obtain ⟨v17, e17, z9⟩ := qaa z8
 obtain ⟨s17, rfl, z10⟩ := qck z9
 refine qal (v := (.s s17)) (f_P rfl (qag (o_ext rfl e17))) ?_
 obtain ⟨v18, e18, z11⟩ := qaa z10
 obtain ⟨c18, rfl, z12⟩ := qbr z11
 refine qal (v := (.b c18)) (f_P rfl (qag (o_ext rfl e18))) ?_
 refine qal (v := (.s s17)) (f_P rfl (qag (p_mv rfl))) ?_
 refine qal (v := (.b c18)) (f_P rfl (qag (p_mv rfl))) ?_
 obtain ⟨m_4, ef_1, z13⟩ := qaa z12
 refine qja ef_1 ?_
 refine qab (w_seq (w_seq (w_ops (wsp (v := (.b c18)) (p_mv rfl) ?_))))
 obtain ⟨c20, e20, z14⟩ := qad z13
 refine wsp ((p_not rfl).trans (cb e20)) (qac (qab ?_))
 rcases qai z14 with ⟨rfl, z15⟩ | ⟨rfl, z15⟩
 ·refine qas rfl ?_
  refine w_seq (w_ops (wsp (v := (.b false)) (p_mv rfl) (qac (qab ?_))))
  refine w_ret ?_
  refine qbm ?_
  exact qf qba (rt rfl rn) z15
 ·refine qat rfl ?_
  refine qbb (qab (w_seq (w_ops (wsp (p_mv g0) (wsp (v := (.s s17)) (p_mv rfl) ?_)))))
  obtain ⟨v24, m_5, e24, z16⟩ := qaf z15
  refine qan (qbf (mc rfl (mc rfl mn)) (qaq hM.call e24)) (wsp (v := v24) (p_mv rfl) ?_)
  obtain ⟨v25, e25, z17⟩ := qaa z16
  obtain ⟨x25, rfl, z18⟩ := qam z17
  refine wsp (o_ext rfl e25) ?_
  obtain ⟨v26, e26, z19⟩ := qaa z18
  obtain ⟨c26, rfl, z20⟩ := qbr z19
  refine wsp (o_ext rfl e26) (wsp (v := (.i .i64 x25)) (p_mv rfl) (wsp (v := (.b c26)) (p_mv rfl) (qac (qab (w_seq (w_ops (wsp (v := (.b c26)) (p_mv rfl) ?_)))))))
  obtain ⟨c28, e28, z21⟩ := qad z20
  refine wsp ((p_not rfl).trans (cb e28)) (wsp (v := (.b c28)) (p_mv rfl) (qac (qab ?_)))
  refine w_ret ?_
  exact qf qba (rt rfl rn) z21
/- dibber/vine.readBud -/
abbrev g74_J0 (s1 : List UInt8) (v13 : AVal) (o : Bool × Mm) (m1 : Mm) (t1 : Tr) : Prop :=
 match o with
 | (c26, m_2) => m_2 = m1 ∧ t1.get 26 = (.b c26) ∧ t1.get 1 = (.s s1) ∧ t1.get 7 = v13
def g74 (M : Means) (ro : List ABlk) (v0 : AVal) (s1 : List UInt8) (m0 : Mm) : Option (AVal × Heap × Nat × Nat) :=
 bindP (callM M.call m0 71 [v0]) fun v12 m_1 =>
 bindO (evP .e (.ext 0 (.c v12))) fun v13 =>
 bindO (evP .e (.ext 1 (.c v12))) fun v14 =>
 asI .i64 v14 fun x14 =>
 qap (!eqI x14 0) fun c16 =>
 cond c16 (
  finM m0.h.length (tupA [AVal.nsl, (.i .i64 0), (.i .i64 x14)]) m_1) (
  bindO (evP .e (.len true (.c (.s s1)))) fun v19 =>
  asI .i64 v19 fun x19 =>
  qap (!eqI x19 1) fun c20 =>
  bindO (cond c20 (
   some (true, m_1)) (
   bindP (callM M.call m_1 92 [v13, (.s s1)]) fun v24 m_3 =>
   asB v24 fun c24 =>
   qap (!c24) fun c25 =>
   some (c25, m_3))) fun ⟨c26, m_2⟩ =>
  cond c26 (
   finM m0.h.length (tupA [AVal.nsl, (.i .i64 0), (.i .i64 5)]) m_2) (
   bindO (evP .e (.ixStr (.c (.s s1)) (.c (.i .i64 0)))) fun v28 =>
   asI .u8 v28 fun x28 =>
   bindP (callM M.call m_2 54 [(.i .u8 x28)]) fun v29 m_4 =>
   asI .i64 v29 fun x29 =>
   bindP (callM M.call m_4 72 [v13, (.i .i64 x29)]) fun v32 m_5 =>
   asB v32 fun c32 =>
   qap (!c32) fun c33 =>
   cond c33 (
    finM m0.h.length (tupA [AVal.nsl, (.i .i64 0), (.i .i64 10)]) m_5) (
    finM m0.h.length (tupA [v13, (.i .i64 x29), (.i .i64 0)]) m_5)))
theorem g74_ok {ro : List ABlk} {O : qao} {M : Means} (hM : M.Ok ⟨F, O⟩ ro) {v0 s1 h r} (ho : O 74 [v0, (.s s1)] h = none) (hr : g74 M ro v0 s1 ⟨h, h.length, h.length⟩ = some r) : callX ⟨F, O⟩ ro 74 [v0, (.s s1)] h = some r := by
 refine qbc (F := ⟨F, O⟩) (fn := fn74) (g := g74 M ro v0 s1) ho rfl rfl hr ?_
 clear ho
 clear hr
 intro m0 t0 ht hr
 have g0 : t0.get 0 = v0 := ht 0
 have g1 : t0.get 1 = (.s s1) := ht 1
 clear ht
 unfold g74 at hr
 refine w_seq (w_ops (wsp (v := AVal.nsl) (p_mv rfl) (wsp (v := (.i .i64 0)) (p_mv rfl) (wsp (v := (.i .i64 0)) (p_mv rfl) (qac (qab (w_seq (w_ops (wsp (p_mv g0) ?_)))))))))
 obtain ⟨v12, m_1, e12, z1⟩ := qaf hr
 refine qan (qbf (mc rfl mn) (qaq hM.call e12)) (wsp (v := v12) (p_mv rfl) ?_)
 obtain ⟨v13, e13, z2⟩ := qaa z1
 refine wsp (o_ext rfl e13) ?_
 obtain ⟨v14, e14, z3⟩ := qaa z2
 obtain ⟨x14, rfl, z4⟩ := qam z3
 refine wsp (o_ext rfl e14) (wsp (v := v13) (p_mv rfl) (wsp (v := (.i .i64 x14)) (p_mv rfl) (qac (qab (w_seq (w_seq (w_ops (wsp (v := (.i .i64 x14)) (p_mv rfl) ?_))))))))
 obtain ⟨c16, e16, z5⟩ := qad z4
 refine wsp (p_bin rfl rfl (b_neq.trans (cb e16))) (qac (qab ?_))
 rcases qai z5 with ⟨rfl, z6⟩ | ⟨rfl, z6⟩
 ·refine qas rfl ?_
  refine w_seq (w_ops (wsp (v := (.i .i64 x14)) (p_mv rfl) (wsp (v := AVal.nsl) (p_mv rfl) (wsp (v := (.i .i64 0)) (p_mv rfl) (wsp (v := (.i .i64 x14)) (p_mv rfl) (qac (qab ?_)))))))
  refine w_ret ?_
  refine qbm ?_
  exact qf qba (rt rfl (rt rfl (rt rfl rn))) z6
 ·refine qat rfl ?_
  refine qbb (qab (w_seq (w_seq (w_ops (wsp (p_mv g1) ?_)))))
  obtain ⟨v19, e19, z7⟩ := qaa z6
  obtain ⟨x19, rfl, z8⟩ := qam z7
  refine wsp (o_len rfl e19) ?_
  obtain ⟨c20, e20, z9⟩ := qad z8
  refine wsp (p_bin rfl rfl (b_neq.trans (cb e20))) (wsp (v := (.b c20)) (p_mv rfl) ?_)
  obtain ⟨o, z10, hk⟩ := qaa z9
  refine qbn 5 (g74_J0 s1 v13 o) ?_ ?_
  ·clear hk
   rcases qai z10 with ⟨rfl, z11⟩ | ⟨rfl, z11⟩
   ·refine qae (v := (.b true)) rfl rfl (qae (v := (.b true)) rfl rfl (qae (v := (.b true)) rfl rfl (qae (v := (.b true)) rfl rfl (wsp (v := (.b true)) (qbj rfl rfl) (qac ?_)))))
    cases z11
    exact ⟨_, _, rfl, rfl, gl rfl, gl g1, gl rfl⟩
   ·refine qah (v := v13) rfl (qag (p_mv rfl)) (qah (v := (.s s1)) rfl (qag (p_mv g1)) ?_)
    obtain ⟨v24, m_3, e24, z12⟩ := qaf z11
    obtain ⟨c24, rfl, z13⟩ := qbr z12
    refine qah (v := (.b c24)) rfl (qbf (mc rfl (mc rfl mn)) (qaq hM.call e24)) ?_
    obtain ⟨c25, e25, z14⟩ := qad z13
    refine qah (v := (.b c25)) rfl (qag ((p_not rfl).trans (cb e25))) (wsp (v := (.b c25)) (qbd rfl rfl) (qac ?_))
    cases z14
    exact ⟨_, _, rfl, rfl, gl rfl, gl g1, gl rfl⟩
  ·clear z10
   have hr := hk
   clear hk
   obtain ⟨c26, m_2⟩ := o
   rintro mm t_1 ⟨rfl, g26, g1, g7⟩
   refine qac (qab ?_)
   rcases qai hr with ⟨rfl, z15⟩ | ⟨rfl, z15⟩
   ·refine qas g26 ?_
    refine w_seq (w_ops (wsp (v := AVal.nsl) (p_mv rfl) (wsp (v := (.i .i64 0)) (p_mv rfl) (wsp (v := (.i .i64 5)) (p_mv rfl) (qac (qab ?_))))))
    refine w_ret ?_
    refine qbm ?_
    exact qf qba (rt rfl (rt rfl (rt rfl rn))) z15
   ·refine qat g26 ?_
    refine qbb (qab (w_seq (w_ops (wsp (p_mv g1) ?_))))
    obtain ⟨v28, e28, z16⟩ := qaa z15
    obtain ⟨x28, rfl, z17⟩ := qam z16
    refine wsp (qhg rfl rfl e28) ?_
    obtain ⟨v29, m_4, e29, z18⟩ := qaf z17
    obtain ⟨x29, rfl, z19⟩ := qam z18
    refine qan (qbf (mc rfl mn) (qaq hM.call e29)) (wsp (v := (.i .i64 x29)) (p_mv rfl) (qac (qab (w_seq (w_seq (w_ops (wsp (p_mv g7) (wsp (v := (.i .i64 x29)) (p_mv rfl) ?_))))))))
    obtain ⟨v32, m_5, e32, z20⟩ := qaf z19
    obtain ⟨c32, rfl, z21⟩ := qbr z20
    refine qan (qbf (mc rfl (mc rfl mn)) (qaq hM.call e32)) ?_
    obtain ⟨c33, e33, z22⟩ := qad z21
    refine wsp ((p_not rfl).trans (cb e33)) (qac (qab ?_))
    rcases qai z22 with ⟨rfl, z23⟩ | ⟨rfl, z23⟩
    ·refine qas rfl ?_
     refine w_seq (w_ops (wsp (v := AVal.nsl) (p_mv rfl) (wsp (v := (.i .i64 0)) (p_mv rfl) (wsp (v := (.i .i64 10)) (p_mv rfl) (qac (qab ?_))))))
     refine w_ret ?_
     refine qbm ?_
     exact qf qba (rt rfl (rt rfl (rt rfl rn))) z23
    ·refine qat rfl ?_
     refine qbb (qab (w_seq (w_ops (wsp (p_mv g7) (wsp (v := (.i .i64 x29)) (p_mv rfl) (wsp (v := v13) (p_mv rfl) (wsp (v := (.i .i64 x29)) (p_mv rfl) (wsp (v := (.i .i64 0)) (p_mv rfl) (qac (qab ?_))))))))))
     refine w_ret ?_
     exact qf qba (rt rfl (rt rfl (rt rfl rn))) z23
/- (dibber/vine.rules).endless -/

def g75 (M : Means) (ro : List ABlk) (v0 : AVal) (x1 : Int) (m0 : Mm) : Option (AVal × Heap × Nat × Nat) :=
 bindP (stepM ro m0 (.bx 55 1 (.c v0))) fun v2 m_1 =>
 bindP (stepM ro m_1 (.bx 3 1 (.c (.i .i64 x1)))) fun v3 m_2 =>
 bindO (some (AVal.fn 98 [] [v2, v3])) fun v5 =>
 finM m0.h.length (tupA [v5]) m_2
theorem g75_ok {ro : List ABlk} {O : qao} {M : Means} (hM : M.Ok ⟨F, O⟩ ro) {v0 x1 h r} (ho : O 75 [v0, (.i .i64 x1)] h = none) (hr : g75 M ro v0 x1 ⟨h, h.length, h.length⟩ = some r) : callX ⟨F, O⟩ ro 75 [v0, (.i .i64 x1)] h = some r := by
 refine qbc (F := ⟨F, O⟩) (fn := fn75) (g := g75 M ro v0 x1) ho rfl rfl hr ?_
 clear ho
 clear hr
 intro m0 t0 ht hr
 have g0 : t0.get 0 = v0 := ht 0
 have g1 : t0.get 1 = (.i .i64 x1) := ht 1
 clear ht
 unfold g75 at hr
 refine w_seq (w_ops ?_)
 obtain ⟨v2, m_1, e2, z1⟩ := qaf hr
 refine qan (s_bx g0 e2) ?_
 obtain ⟨v3, m_2, e3, z2⟩ := qaf z1
 refine qan (s_bx g1 e3) (wsp (v := AVal.nfn) (p_mv rfl) (qac (qab (w_seq (w_ops ?_)))))
 obtain ⟨v5, e5, z3⟩ := qaa z2
 refine wsp (Eq.trans (o_mkfn mn (mc rfl (mc rfl mn))) e5) (wsp (v := v5) (p_mv rfl) (qac (qab ?_)))
 refine w_ret ?_
 exact qf qba (rt rfl rn) z3
/- (dibber/vine.many).plus -/

def g86 (M : Means) (ro : List ABlk) (x0 : Int) (x1 : Int) (m0 : Mm) : Option (AVal × Heap × Nat × Nat) :=
 qax (wr .u64 (9223372036854775808 - x1)) fun x7 =>
 qap (ltI x7 x0) fun c8 =>
 cond c8 (
  finM m0.h.length (tupA [(.i .u64 9223372036854775808)]) m0) (
  qax (wr .u64 (x0 + x1)) fun x11 =>
  finM m0.h.length (tupA [(.i .u64 x11)]) m0)
theorem g86_ok {ro : List ABlk} {O : qao} {M : Means} (hM : M.Ok ⟨F, O⟩ ro) {x0 x1 h r} (ho : O 86 [(.i .u64 x0), (.i .u64 x1)] h = none) (hr : g86 M ro x0 x1 ⟨h, h.length, h.length⟩ = some r) : callX ⟨F, O⟩ ro 86 [(.i .u64 x0), (.i .u64 x1)] h = some r := by
 refine qbc (F := ⟨F, O⟩) (fn := fn86) (g := g86 M ro x0 x1) ho rfl rfl hr ?_
 clear ho
 clear hr
 intro m0 t0 ht hr
 have g0 : t0.get 0 = (.i .u64 x0) := ht 0
 have g1 : t0.get 1 = (.i .u64 x1) := ht 1
 clear ht
 unfold g86 at hr
 refine w_seq (w_ops (wsp (v := (.i .u64 0)) (p_mv rfl) (qac (qab (w_seq (w_seq (w_ops (wsp (p_mv g0) (wsp (p_mv g1) ?_)))))))))
 obtain ⟨x7, e7, z1⟩ := qaj hr
 refine wsp (p_bin rfl rfl (b_sub.trans (ci e7))) ?_
 obtain ⟨c8, e8, z2⟩ := qad z1
 refine wsp (p_bin rfl rfl (b_gtr.trans (cb e8))) (qac (qab ?_))
 rcases qai z2 with ⟨rfl, z3⟩ | ⟨rfl, z3⟩
 ·refine qas rfl ?_
  refine w_seq (w_ops (wsp (v := (.i .u64 9223372036854775808)) (p_mv rfl) (qac (qab ?_))))
  refine w_ret ?_
  refine qbm ?_
  exact qf qba (rt rfl rn) z3
 ·refine qat rfl ?_
  refine qbb (qab (w_seq (w_ops (wsp (p_mv g0) (wsp (p_mv g1) ?_)))))
  obtain ⟨x11, e11, z4⟩ := qaj z3
  refine wsp (p_bin rfl rfl (b_add.trans (ci e11))) (wsp (v := (.i .u64 x11)) (p_mv rfl) (qac (qab ?_)))
  refine w_ret ?_
  exact qf qba (rt rfl rn) z4
/- strings.Count -/
abbrev g88_I0 (s1 : List UInt8) (s : List UInt8 × Int × Mm) (m1 : Mm) (t1 : Tr) : Prop :=
 match s with
 | (s0_1, x5, m_3) => m_3 = m1 ∧ t1.get 0 = (.s s0_1) ∧ t1.get 5 = (.i .i64 x5) ∧ t1.get 1 = (.s s1)
abbrev g88_J0 (s1 : List UInt8) (o : (Int × Mm)) (e : AExit) (m1 : Mm) (t1 : Tr) : Prop :=
 match o with
 | (y4, mo) => e = .ret ∧ mo = m1 ∧ t1.get 4 = (.i .i64 y4)
def g88_b0 (M : Means) (ro : List ABlk) (s1 : List UInt8) (s0_1 : List UInt8) (x5 : Int) (m_3 : Mm) : Option ((List UInt8 × Int × Mm) ⊕ ((Int × Mm))) :=
 bindP (callM M.call m_3 101 [(.s s0_1), (.s s1)]) fun v22 m_4 =>
 asI .i64 v22 fun x22 =>
 qap (eqI x22 (-1)) fun c24 =>
 cond c24 (
  some (.inr (x5, m_4))) (
  qax (wr .i64 (x5 + 1)) fun x27 =>
  bindO (evP .e (.len true (.c (.s s1)))) fun v31 =>
  asI .i64 v31 fun x31 =>
  qax (wr .i64 (x22 + x31)) fun x32 =>
  bindO (evP .e (.slStr (.c (.s s0_1)) (some (.c (.i .i64 x32))) none)) fun v33 =>
  asS v33 fun s33 =>
  some (.inl (s33, x27, m_4)))
def g88 (M : Means) (ro : List ABlk) (s0 : List UInt8) (s1 : List UInt8) (m0 : Mm) : Option (AVal × Heap × Nat × Nat) :=
 bindO (evP .e (.len true (.c (.s s1)))) fun v8 =>
 asI .i64 v8 fun x8 =>
 qap (eqI x8 0) fun c9 =>
 cond c9 (
  bindP (callM M.call m0 99 [(.s s0)]) fun v11 m_1 =>
  asI .i64 v11 fun x11 =>
  qax (wr .i64 (x11 + 1)) fun x12 =>
  finM m0.h.length (tupA [(.i .i64 x12)]) m_1) (
  bindO (evP .e (.len true (.c (.s s1)))) fun v14 =>
  asI .i64 v14 fun x14 =>
  qap (eqI x14 1) fun c15 =>
  cond c15 (
   bindO (evP .e (.ixStr (.c (.s s1)) (.c (.i .i64 0)))) fun v18 =>
   asI .u8 v18 fun x18 =>
   bindP (stepM ro m0 (.cnt (.c (.s s0)) (.c (.i .u8 x18)))) fun v19 m_2 =>
   asI .i64 v19 fun x19 =>
   finM m0.h.length (tupA [(.i .i64 x19)]) m_2) (
   bindO (M.loop (S := List UInt8 × Int × Mm) (R := (Int × Mm)) (fun s => g88_b0 M ro s1 s.1 s.2.1 s.2.2) (s0, 0, m0)) fun ⟨x4, m_5⟩ =>
   finM m0.h.length (tupA [(.i .i64 x4)]) m_5))
theorem g88_ok {ro : List ABlk} {O : qao} {M : Means} (hM : M.Ok ⟨F, O⟩ ro) {s0 s1 h r} (ho : O 88 [(.s s0), (.s s1)] h = none) (hr : g88 M ro s0 s1 ⟨h, h.length, h.length⟩ = some r) : callX ⟨F, O⟩ ro 88 [(.s s0), (.s s1)] h = some r := by
 refine qbc (F := ⟨F, O⟩) (fn := fn88) (g := g88 M ro s0 s1) ho rfl rfl hr ?_
 clear ho
 clear hr
 intro m0 t0 ht hr
 have g0 : t0.get 0 = (.s s0) := ht 0
 have g1 : t0.get 1 = (.s s1) := ht 1
 clear ht
 unfold g88 at hr
 refine w_seq (w_ops (wsp (v := (.i .i64 0)) (p_mv rfl) (qac (qab (w_seq (w_seq (w_ops (wsp (p_mv g1) ?_))))))))
 obtain ⟨v8, e8, z1⟩ := qaa hr
 obtain ⟨x8, rfl, z2⟩ := qam z1
 refine wsp (o_len rfl e8) ?_
 obtain ⟨c9, e9, z3⟩ := qad z2
 refine wsp (p_bin rfl rfl (b_eql.trans (cb e9))) (qac (qab ?_))
 rcases qai z3 with ⟨rfl, z4⟩ | ⟨rfl, z4⟩
 ·refine qas rfl ?_
  refine w_seq (w_ops (wsp (p_mv g0) ?_))
  obtain ⟨v11, m_1, e11, z5⟩ := qaf z4
  obtain ⟨x11, rfl, z6⟩ := qam z5
  refine qan (qbf (mc rfl mn) (qaq hM.call e11)) ?_
  obtain ⟨x12, e12, z7⟩ := qaj z6
  refine wsp (p_bin rfl rfl (b_add.trans (ci e12))) (wsp (v := (.i .i64 x12)) (p_mv rfl) (qac (qab ?_)))
  refine w_ret ?_
  refine qbm ?_
  exact qf qba (rt rfl rn) z7
 ·refine qat rfl ?_
  refine qbb (qab (w_seq (w_seq (w_ops (wsp (p_mv g1) ?_)))))
  obtain ⟨v14, e14, z8⟩ := qaa z4
  obtain ⟨x14, rfl, z9⟩ := qam z8
  refine wsp (o_len rfl e14) ?_
  obtain ⟨c15, e15, z10⟩ := qad z9
  refine wsp (p_bin rfl rfl (b_eql.trans (cb e15))) (qac (qab ?_))
  rcases qai z10 with ⟨rfl, z11⟩ | ⟨rfl, z11⟩
  ·refine qas rfl ?_
   refine w_seq (w_ops (wsp (p_mv g0) (wsp (p_mv g1) ?_)))
   obtain ⟨v18, e18, z12⟩ := qaa z11
   obtain ⟨x18, rfl, z13⟩ := qam z12
   refine wsp (qhg rfl rfl e18) ?_
   obtain ⟨v19, m_2, e19, z14⟩ := qaf z13
   obtain ⟨x19, rfl, z15⟩ := qam z14
   refine qan (s_cnt rfl rfl e19) (wsp (v := (.i .i64 x19)) (p_mv rfl) (qac (qab ?_)))
   refine w_ret ?_
   refine qbm ?_
   exact qf qba (rt rfl rn) z15
  ·refine qat rfl ?_
   refine qbb (qab (w_seq (w_ops (wsp (v := (.i .i64 0)) (p_mv rfl) (qac (qab ?_))))))
   refine qau ?_
   obtain ⟨o, hl, z16⟩ := qaa z11
   obtain ⟨n, hl⟩ := hM.loop _ _ _ hl
   refine qbl (qbw _ (g88_I0 s1) (g88_J0 s1) ?_ n _ _ _ _ hl ⟨rfl, gl g0, gl rfl, gl g1⟩) ?_
   ·clear z16 hl
    intro s mm_1 t_1 o hi hr
    obtain ⟨s0_1, x5, m_3⟩ := s
    obtain ⟨rfl, g0, g5, g1⟩ := hi
    unfold g88_b0 at hr
    refine qau ?_
    refine w_seq (w_ops (wsp (p_mv g0) (wsp (p_mv g1) ?_)))
    obtain ⟨v22, m_4, e22, z17⟩ := qaf hr
    obtain ⟨x22, rfl, z18⟩ := qam z17
    refine qan (qbf (mc rfl (mc rfl mn)) (qaq hM.call e22)) (wsp (v := (.i .i64 x22)) (p_mv rfl) (qac (qab (w_seq (w_seq (w_ops (wsp (v := (.i .i64 x22)) (p_mv rfl) ?_)))))))
    obtain ⟨c24, e24, z19⟩ := qad z18
    refine wsp (p_bin rfl rfl (b_eql.trans (cb e24))) (qac (qab ?_))
    rcases qai z19 with ⟨rfl, z20⟩ | ⟨rfl, z20⟩
    ·refine qas rfl ?_
     refine w_seq (w_ops (wsp (p_mv g5) (wsp (v := (.i .i64 x5)) (p_mv rfl) (qac (qab ?_)))))
     refine w_ret ?_
     refine qbm ?_
     refine qco ?_
     cases z20
     exact ⟨_, _, rfl, qcb, rfl, rfl, gl rfl⟩
    ·refine qat rfl ?_
     refine qbb (qab (w_seq (w_ops (wsp (p_mv g5) ?_))))
     obtain ⟨x27, e27, z21⟩ := qaj z20
     refine wsp (p_bin rfl rfl (b_add.trans (ci e27))) (wsp (v := (.i .i64 x27)) (p_mv rfl) (qac (qab (w_ops (wsp (p_mv g0) (wsp (v := (.i .i64 x22)) (p_mv rfl) (wsp (p_mv g1) ?_)))))))
     obtain ⟨v31, e31, z22⟩ := qaa z21
     obtain ⟨x31, rfl, z23⟩ := qam z22
     refine wsp (o_len rfl e31) ?_
     obtain ⟨x32, e32, z24⟩ := qaj z23
     refine wsp (p_bin rfl rfl (b_add.trans (ci e32))) ?_
     obtain ⟨v33, e33, z25⟩ := qaa z24
     obtain ⟨s33, rfl, z26⟩ := qck z25
     refine wsp (o_slStr rfl (os rfl) on e33) (wsp (v := (.s s33)) (p_mv rfl) (qac ?_))
     refine qbo ?_
     cases z26
     exact ⟨_, _, rfl, rfl, rfl, gl rfl, gl rfl, gl g1⟩
   ·obtain ⟨x4, m_5⟩ := o
    rintro _ mm t_2 ⟨rfl, rfl, g4⟩
    refine qco ?_
    exact qf qba (rt g4 rn) z16
/- dibber/vine.letter -/

def g89 (M : Means) (ro : List ABlk) (x0 : Int) (m0 : Mm) : Option (AVal × Heap × Nat × Nat) :=
 qax (wr .u8 x0) fun x4 =>
 qax (wr .u8 (97 + x4)) fun x5 =>
 bindP (stepM ro m0 (.bsl 5 1 [(AVal.i IntKind.u8 0)] 1 [((0, 1), .c (.i .u8 x5))])) fun v6 m_1 =>
 bindO (btsM ro m_1 v6) fun v7 =>
 asS v7 fun s7 =>
 finM m0.h.length (tupA [(.s s7)]) m_1
theorem g89_ok {ro : List ABlk} {O : qao} {M : Means} (hM : M.Ok ⟨F, O⟩ ro) {x0 h r} (ho : O 89 [(.i .i64 x0)] h = none) (hr : g89 M ro x0 ⟨h, h.length, h.length⟩ = some r) : callX ⟨F, O⟩ ro 89 [(.i .i64 x0)] h = some r := by
 refine qbc (F := ⟨F, O⟩) (fn := fn89) (g := g89 M ro x0) ho rfl rfl hr ?_
 clear ho
 clear hr
 intro m0 t0 ht hr
 have g0 : t0.get 0 = (.i .i64 x0) := ht 0
 clear ht
 unfold g89 at hr
 refine w_seq (w_ops (wsp (v := (AVal.s [])) (p_mv rfl) (qac (qab (w_seq (w_ops (wsp (p_mv g0) ?_)))))))
 obtain ⟨x4, e4, z1⟩ := qaj hr
 refine wsp ((qkp rfl).trans (ci e4)) ?_
 obtain ⟨x5, e5, z2⟩ := qaj z1
 refine wsp (p_bin rfl rfl (b_add.trans (ci e5))) ?_
 obtain ⟨v6, m_1, e6, z3⟩ := qaf z2
 refine qan (s_bsl (qc rfl qn) e6) ?_
 obtain ⟨v7, e7, z4⟩ := qaa z3
 obtain ⟨s7, rfl, z5⟩ := qck z4
 refine qan (s_bts rfl e7) (wsp (v := (.s s7)) (p_mv rfl) (qac (qab ?_)))
 refine w_ret ?_
 exact qf qba (rt rfl rn) z5
end Go.Proofs.Ytfohppnelbbepaa.T

/- Plain functions, and that the small machine answers as they do. -/
import Derived.Test.YtfohppnelbbepaaVmP
import Derived.Test.YtfohppnelbbepaaVmAE
open Go.Vm
set_option linter.unusedVariables false
namespace Go.Proofs.Ytfohppnelbbepaa.T
open Go
/- dibber/dibberlaw03.VineKinds -/
abbrev g5_J0 (v0 : AVal) (s1 : List UInt8) (m_4 : Mm) (o : Bool) (m1 : Mm) (t1 : Tr) : Prop :=
 match o with
 | c37 => m_4 = m1 ∧ t1.get 37 = (.b c37) ∧ t1.get 0 = v0 ∧ t1.get 1 = (.s s1)
abbrev g5_J1 (x44 : Int) (x51 : Int) (m_6 : Mm) (o : Bool) (m1 : Mm) (t1 : Tr) : Prop :=
 match o with
 | c59 => m_6 = m1 ∧ t1.get 59 = (.b c59) ∧ t1.get 6 = (.i .i64 x44) ∧ t1.get 8 = (.i .i64 x51)
abbrev g5_J2 (m_6 : Mm) (o : Bool) (m1 : Mm) (t1 : Tr) : Prop :=
 match o with
 | c64 => m_6 = m1 ∧ t1.get 64 = (.b c64)
abbrev g5_J3  (o : Bool × Mm) (m1 : Mm) (t1 : Tr) : Prop :=
 match o with
 | (c67, m_7) => m_7 = m1 ∧ t1.get 67 = (.b c67)
def g5 (M : Means) (ro : List ABlk) (v0 : AVal) (s1 : List UInt8) (m0 : Mm) : Option (AVal × Heap × Nat × Nat) :=
 bindP (callM M.call m0 15 [v0, (.s s1)]) fun v15 m_1 =>
 asB v15 fun c15 =>
 qau (!c15) fun c16 =>
 cond c16 (
  bindP (callM M.call m_1 16 []) fun v17 m_2 =>
  asB v17 fun c17 =>
  finM m0.h.length (tupA [(.b c17)]) m_2) (
  bindP (callM M.call m_1 26 [v0, (.s s1)]) fun v21 m_3 =>
  bindO (evP .e (.ext 0 (.c v21))) fun v22 =>
  asI .i64 v22 fun x22 =>
  bindO (evP .e (.ext 1 (.c v21))) fun v23 =>
  asI .i64 v23 fun x23 =>
  bindP (callM M.call m_3 27 [v0, (.s s1)]) fun v27 m_4 =>
  bindO (evP .e (.ext 0 (.c v27))) fun v28 =>
  asI .i64 v28 fun x28 =>
  bindO (evP .e (.ext 1 (.c v27))) fun v29 =>
  asI .i64 v29 fun x29 =>
  qau (!eqI x22 x28) fun c32 =>
  bindO (cond c32 (
   some true) (
   qau (!eqI x23 x29) fun c36 =>
   some c36)) fun c37 =>
  cond c37 (
   finM m0.h.length (tupA [(.b false)]) m_4) (
   bindP (callM M.call m_4 28 [v0, (.s s1)]) fun v41 m_5 =>
   bindO (evP .e (.ext 0 (.c v41))) fun v42 =>
   asI .i64 v42 fun x42 =>
   bindO (evP .e (.ext 1 (.c v41))) fun v43 =>
   asI .i64 v43 fun x43 =>
   bindO (evP .e (.ext 2 (.c v41))) fun v44 =>
   asI .i64 v44 fun x44 =>
   bindP (callM M.call m_5 29 [v0, (.s s1)]) fun v48 m_6 =>
   bindO (evP .e (.ext 0 (.c v48))) fun v49 =>
   asI .i64 v49 fun x49 =>
   bindO (evP .e (.ext 1 (.c v48))) fun v50 =>
   asI .i64 v50 fun x50 =>
   bindO (evP .e (.ext 2 (.c v48))) fun v51 =>
   asI .i64 v51 fun x51 =>
   qau (eqI x42 x49) fun c54 =>
   bindO (cond c54 (
    qau (eqI x43 x50) fun c58 =>
    some c58) (
    some false)) fun c59 =>
   bindO (cond c59 (
    qau (eqI x44 x51) fun c63 =>
    some c63) (
    some false)) fun c64 =>
   bindO (cond c64 (
    bindP (callM M.call m_6 16 []) fun v66 m_8 =>
    asB v66 fun c66 =>
    some (c66, m_8)) (
    some (false, m_6))) fun ⟨c67, m_7⟩ =>
   finM m0.h.length (tupA [(.b c67)]) m_7))
theorem g5_ok {ro : List ABlk} {O : qao} {M : Means} (hM : M.Ok ⟨F, O⟩ ro) {v0 s1 h r} (ho : O 5 [v0, (.s s1)] h = none) (hr : g5 M ro v0 s1 ⟨h, h.length, h.length⟩ = some r) : callX ⟨F, O⟩ ro 5 [v0, (.s s1)] h = some r := by
 refine qbd (F := ⟨F, O⟩) (fn := fn5) (g := g5 M ro v0 s1) ho rfl rfl hr ?_
 clear ho
 clear hr
 intro m0 t0 ht hr
 have g0 : t0.get 0 = v0 := ht 0
 have g1 : t0.get 1 = (.s s1) := ht 1
 clear ht
 unfold g5 at hr
 refine w_seq (w_ops (qaa (v := (.b false)) (qab (p_mv rfl)) (qae (qad (w_seq (w_seq (w_ops (qaa (qab (p_mv g0)) (qaa (qab (p_mv g1)) ?_)))))))))
 obtain ⟨v15, m_1, e15, z1⟩ := qag hr
 obtain ⟨c15, rfl, z2⟩ := qbp z1
 refine qaa (qbi (mc rfl (mc rfl mn)) (qav hM.call e15)) ?_
 obtain ⟨c16, e16, z3⟩ := qaf z2
 refine qaa (qab ((p_not rfl).trans (cb e16))) (qae (qad ?_))
 rcases qai z3 with ⟨rfl, z4⟩ | ⟨rfl, z4⟩
 ·refine qaq rfl ?_
  refine w_seq (w_ops ?_)
  obtain ⟨v17, m_2, e17, z5⟩ := qag z4
  obtain ⟨c17, rfl, z6⟩ := qbp z5
  refine qaa (qbi mn (qav hM.call e17)) (qaa (v := (.b c17)) (qab (p_mv rfl)) (qae (qad ?_)))
  refine w_ret ?_
  refine qbm ?_
  exact qf qba (rt rfl rn) z6
 ·refine qar rfl ?_
  refine qaz (qad (w_seq (w_ops (qaa (qab (p_mv g0)) (qaa (qab (p_mv g1)) ?_)))))
  obtain ⟨v21, m_3, e21, z7⟩ := qag z4
  refine qaa (qbi (mc rfl (mc rfl mn)) (qav hM.call e21)) (qaa (v := v21) (qab (p_mv rfl)) ?_)
  obtain ⟨v22, e22, z8⟩ := qac z7
  obtain ⟨x22, rfl, z9⟩ := qaj z8
  refine qaa (qab (o_ext rfl e22)) ?_
  obtain ⟨v23, e23, z10⟩ := qac z9
  obtain ⟨x23, rfl, z11⟩ := qaj z10
  refine qaa (qab (o_ext rfl e23)) (qaa (v := (.i .i64 x22)) (qab (p_mv rfl)) (qaa (v := (.i .i64 x23)) (qab (p_mv rfl)) (qae (qad (w_seq (w_ops (qaa (qab (p_mv g0)) (qaa (qab (p_mv g1)) ?_))))))))
  obtain ⟨v27, m_4, e27, z12⟩ := qag z11
  refine qaa (qbi (mc rfl (mc rfl mn)) (qav hM.call e27)) (qaa (v := v27) (qab (p_mv rfl)) ?_)
  obtain ⟨v28, e28, z13⟩ := qac z12
  obtain ⟨x28, rfl, z14⟩ := qaj z13
  refine qaa (qab (o_ext rfl e28)) ?_
  obtain ⟨v29, e29, z15⟩ := qac z14
  obtain ⟨x29, rfl, z16⟩ := qaj z15
  refine qaa (qab (o_ext rfl e29)) (qaa (v := (.i .i64 x28)) (qab (p_mv rfl)) (qaa (v := (.i .i64 x29)) (qab (p_mv rfl)) (qae (qad (w_seq (w_seq (w_ops (qaa (v := (.i .i64 x22)) (qab (p_mv rfl)) (qaa (v := (.i .i64 x28)) (qab (p_mv rfl)) ?_)))))))))
  obtain ⟨c32, e32, z17⟩ := qaf z16
  refine qaa (qab (p_bin rfl rfl (b_neq.trans (cb e32)))) (qaa (v := (.b c32)) (qab (p_mv rfl)) ?_)
  obtain ⟨o, z18, hk⟩ := qac z17
  refine qbz 4 (g5_J0 v0 s1 m_4 o) ?_ ?_
  ·clear hk
   rcases qai z18 with ⟨rfl, z19⟩ | ⟨rfl, z19⟩
   ·refine qam (v := (.b true)) rfl rfl (qam (v := (.b true)) rfl rfl (qam (v := (.b true)) rfl rfl (qaa (v := (.b true)) (qab (qbv rfl rfl)) (qae ?_))))
    cases z19
    exact ⟨_, _, rfl, rfl, gl rfl, gl g0, gl g1⟩
   ·refine qan (v := (.i .i64 x23)) rfl (qab (p_mv rfl)) (qan (v := (.i .i64 x29)) rfl (qab (p_mv rfl)) ?_)
    obtain ⟨c36, e36, z20⟩ := qaf z19
    refine qan (v := (.b c36)) rfl (qab (p_bin rfl rfl (b_neq.trans (cb e36)))) (qaa (v := (.b c36)) (qab (qbw rfl rfl)) (qae ?_))
    cases z20
    exact ⟨_, _, rfl, rfl, gl rfl, gl g0, gl g1⟩
  ·clear z18
   have hr := hk
   clear hk
   obtain ⟨c37, ho⟩ : ∃ z, z = o := ⟨_, rfl⟩
   subst ho
   rintro mm t_1 ⟨rfl, g37, g0, g1⟩
   refine qae (qad ?_)
   rcases qai hr with ⟨rfl, z21⟩ | ⟨rfl, z21⟩
   ·refine qaq g37 ?_
    refine w_seq (w_ops (qaa (v := (.b false)) (qab (p_mv rfl)) (qae (qad ?_))))
    refine w_ret ?_
    refine qbm ?_
    exact qf qba (rt rfl rn) z21
   ·refine qar g37 ?_
    refine qaz (qad (w_seq (w_ops (qaa (qab (p_mv g0)) (qaa (qab (p_mv g1)) ?_)))))
    obtain ⟨v41, m_5, e41, z22⟩ := qag z21
    refine qaa (qbi (mc rfl (mc rfl mn)) (qav hM.call e41)) (qaa (v := v41) (qab (p_mv rfl)) ?_)
    obtain ⟨v42, e42, z23⟩ := qac z22
    obtain ⟨x42, rfl, z24⟩ := qaj z23
    refine qaa (qab (o_ext rfl e42)) ?_
    obtain ⟨v43, e43, z25⟩ := qac z24
    obtain ⟨x43, rfl, z26⟩ := qaj z25
    refine qaa (qab (o_ext rfl e43)) ?_
    obtain ⟨v44, e44, z27⟩ := qac z26
    obtain ⟨x44, rfl, z28⟩ := qaj z27
    refine qaa (qab (o_ext rfl e44)) (qaa (v := (.i .i64 x42)) (qab (p_mv rfl)) (qaa (v := (.i .i64 x43)) (qab (p_mv rfl)) (qaa (v := (.i .i64 x44)) (qab (p_mv rfl)) (qae (qad (w_seq (w_ops (qaa (qab (p_mv g0)) (qaa (qab (p_mv g1)) ?_)))))))))
    obtain ⟨v48, m_6, e48, z29⟩ := qag z28
    refine qaa (qbi (mc rfl (mc rfl mn)) (qav hM.call e48)) (qaa (v := v48) (qab (p_mv rfl)) ?_)
    obtain ⟨v49, e49, z30⟩ := qac z29
    obtain ⟨x49, rfl, z31⟩ := qaj z30
    refine qaa (qab (o_ext rfl e49)) ?_
    obtain ⟨v50, e50, z32⟩ := qac z31
    obtain ⟨x50, rfl, z33⟩ := qaj z32
    refine qaa (qab (o_ext rfl e50)) ?_
    obtain ⟨v51, e51, z34⟩ := qac z33
    obtain ⟨x51, rfl, z35⟩ := qaj z34
    refine qaa (qab (o_ext rfl e51)) (qaa (v := (.i .i64 x49)) (qab (p_mv rfl)) (qaa (v := (.i .i64 x50)) (qab (p_mv rfl)) (qaa (v := (.i .i64 x51)) (qab (p_mv rfl)) (qae (qad (w_seq (w_ops (qaa (v := (.i .i64 x42)) (qab (p_mv rfl)) (qaa (v := (.i .i64 x49)) (qab (p_mv rfl)) ?_)))))))))
    obtain ⟨c54, e54, z36⟩ := qaf z35
    refine qaa (qab (p_bin rfl rfl (b_eql.trans (cb e54)))) (qaa (v := (.b c54)) (qab (p_mv rfl)) ?_)
    obtain ⟨o_1, z37, hk⟩ := qac z36
    refine qbz 4 (g5_J1 x44 x51 m_6 o_1) ?_ ?_
    ·clear hk
     rcases qai z37 with ⟨rfl, z38⟩ | ⟨rfl, z38⟩
     ·refine qan (v := (.i .i64 x43)) rfl (qab (p_mv rfl)) (qan (v := (.i .i64 x50)) rfl (qab (p_mv rfl)) ?_)
      obtain ⟨c58, e58, z39⟩ := qaf z38
      refine qan (v := (.b c58)) rfl (qab (p_bin rfl rfl (b_eql.trans (cb e58)))) (qaa (v := (.b c58)) (qab (qbv rfl rfl)) (qae ?_))
      cases z39
      exact ⟨_, _, rfl, rfl, gl rfl, gl rfl, gl rfl⟩
     ·refine qam (v := (.b false)) rfl rfl (qam (v := (.b false)) rfl rfl (qam (v := (.b false)) rfl rfl (qaa (v := (.b false)) (qab (qbw rfl rfl)) (qae ?_))))
      cases z38
      exact ⟨_, _, rfl, rfl, gl rfl, gl rfl, gl rfl⟩
    ·clear z37
     have hr := hk
     clear hk
     obtain ⟨c59, ho⟩ : ∃ z, z = o_1 := ⟨_, rfl⟩
     subst ho
     rintro mm_1 t_2 ⟨rfl, g59, g6, g8⟩
     refine qaa (qab (p_mv g59)) ?_
     obtain ⟨o_2, z40, hk⟩ := qac hr
     refine qbz 4 (g5_J2 m_6 o_2) ?_ ?_
     ·clear hk
      rcases qai z40 with ⟨rfl, z41⟩ | ⟨rfl, z41⟩
      ·refine qan (v := (.i .i64 x44)) rfl (qab (p_mv g6)) (qan (v := (.i .i64 x51)) rfl (qab (p_mv g8)) ?_)
       obtain ⟨c63, e63, z42⟩ := qaf z41
       refine qan (v := (.b c63)) rfl (qab (p_bin rfl rfl (b_eql.trans (cb e63)))) (qaa (v := (.b c63)) (qab (qbv rfl rfl)) (qae ?_))
       cases z42
       exact ⟨_, _, rfl, rfl, gl rfl⟩
      ·refine qam (v := (.b false)) rfl rfl (qam (v := (.b false)) rfl rfl (qam (v := (.b false)) rfl rfl (qaa (v := (.b false)) (qab (qbw rfl rfl)) (qae ?_))))
       cases z41
       exact ⟨_, _, rfl, rfl, gl rfl⟩
     ·clear z40
      have hr := hk
      clear hk
      obtain ⟨c64, ho⟩ : ∃ z, z = o_2 := ⟨_, rfl⟩
      subst ho
      rintro mm_2 t_3 ⟨rfl, g64⟩
      refine qaa (qab (p_mv g64)) ?_
      obtain ⟨o_3, z43, hk⟩ := qac hr
      refine qbz 2 (g5_J3  o_3) ?_ ?_
      ·clear hk
       rcases qai z43 with ⟨rfl, z44⟩ | ⟨rfl, z44⟩
       ·obtain ⟨v66, m_8, e66, z45⟩ := qag z44
        obtain ⟨c66, rfl, z46⟩ := qbp z45
        refine qan (v := (.b c66)) rfl (qbi mn (qav hM.call e66)) (qaa (v := (.b c66)) (qab (qbv rfl rfl)) (qae ?_))
        cases z46
        exact ⟨_, _, rfl, rfl, gl rfl⟩
       ·refine qam (v := (.b false)) rfl rfl (qaa (v := (.b false)) (qab (qbw rfl rfl)) (qae ?_))
        cases z44
        exact ⟨_, _, rfl, rfl, gl rfl⟩
      ·clear z43
       have hr := hk
       clear hk
       obtain ⟨c67, m_7⟩ := o_3
       rintro mm_3 t_4 ⟨rfl, g67⟩
       refine qaa (qab (p_mv g67)) (qae (qad ?_))
       refine w_ret ?_
       exact qf qba (rt rfl rn) hr
/- dibber/dibberlaw03.few -/
abbrev g15_I0 (v0 : AVal) (s1 : List UInt8) (m0 : Mm) (s : Int) (m1 : Mm) (t1 : Tr) : Prop :=
 match s with
 | x5 => m0 = m1 ∧ t1.get 5 = (.i .i64 x5) ∧ t1.get 0 = v0 ∧ t1.get 1 = (.s s1)
abbrev g15_J0 (v0 : AVal) (s1 : List UInt8) (m0 : Mm) (o : (Unit ⊕ Bool)) (e : AExit) (m1 : Mm) (t1 : Tr) : Prop :=
 match o with
 | (.inl _) => e = (.exit 0) ∧ m0 = m1 ∧ t1.get 1 = (.s s1)
 | (.inr y4) => e = .ret ∧ m0 = m1 ∧ t1.get 4 = (.b y4)
abbrev g15_J1 (v0 : AVal) (s1 : List UInt8) (x5 : Int) (m0 : Mm) (o : Bool) (m1 : Mm) (t1 : Tr) : Prop :=
 match o with
 | c21 => m0 = m1 ∧ t1.get 21 = (.b c21) ∧ t1.get 0 = v0 ∧ t1.get 1 = (.s s1) ∧ t1.get 5 = (.i .i64 x5)
def g15_b0 (M : Means) (ro : List ABlk) (v0 : AVal) (s1 : List UInt8) (m0 : Mm) (x5 : Int) : Option ((Int) ⊕ ((Unit ⊕ Bool))) :=
 bindO (evP .e (.len false (.c v0))) fun v8 =>
 asI .i64 v8 fun x8 =>
 qau (ltI x5 x8) fun c9 =>
 cond c9 (
  qau (!ltI x5 20) fun c13 =>
  bindO (cond c13 (
   some true) (
   bindO (evP .e (.ixS 1 (.c v0) (.c (.i .i64 x5)))) fun v17 =>
   bindO (ldM ro m0 true 1 v17) fun v18 =>
   asS v18 fun s18 =>
   bindO (evP .e (.len true (.c (.s s18)))) fun v19 =>
   asI .i64 v19 fun x19 =>
   qau (ltI 50 x19) fun c20 =>
   some c20)) fun c21 =>
  cond c21 (
   some (.inr (.inr false))) (
   qaw (wr .i64 (x5 + 1)) fun x11 =>
   some (.inl x11))) (
  some (.inr (.inl ())))
def g15 (M : Means) (ro : List ABlk) (v0 : AVal) (s1 : List UInt8) (m0 : Mm) : Option (AVal × Heap × Nat × Nat) :=
 bindO (M.loop (S := Int) (R := (Unit ⊕ Bool)) (fun s => g15_b0 M ro v0 s1 m0 s) 0) fun o_1 => match o_1 with
 | (.inl _) =>
  bindO (evP .e (.len true (.c (.s s1)))) fun v23 =>
  asI .i64 v23 fun x23 =>
  qau (!ltI 100 x23) fun c24 =>
  finM m0.h.length (tupA [(.b c24)]) m0
 | (.inr c4) =>
  finM m0.h.length (tupA [(.b c4)]) m0
theorem g15_ok {ro : List ABlk} {O : qao} {M : Means} (hM : M.Ok ⟨F, O⟩ ro) {v0 s1 h r} (ho : O 15 [v0, (.s s1)] h = none) (hr : g15 M ro v0 s1 ⟨h, h.length, h.length⟩ = some r) : callX ⟨F, O⟩ ro 15 [v0, (.s s1)] h = some r := by
 refine qbd (F := ⟨F, O⟩) (fn := fn15) (g := g15 M ro v0 s1) ho rfl rfl hr ?_
 clear ho
 clear hr
 intro m0 t0 ht hr
 have g0 : t0.get 0 = v0 := ht 0
 have g1 : t0.get 1 = (.s s1) := ht 1
 clear ht
 unfold g15 at hr
 refine w_seq (w_ops (qaa (v := (.b false)) (qab (p_mv rfl)) (qae (qad (w_seq (w_seq (w_ops (qaa (v := (.i .i64 0)) (qab (p_mv rfl)) (qae (qad ?_))))))))))
 refine qas ?_
 obtain ⟨o_1, hl, z1⟩ := qac hr
 obtain ⟨n, hl⟩ := hM.loop _ _ _ hl
 refine qbe (qbs _ (g15_I0 v0 s1 m0) (g15_J0 v0 s1 m0) ?_ n _ _ _ _ hl ⟨rfl, gl rfl, gl g0, gl g1⟩) ?_
 ·clear z1 hl
  intro s mm_3 t_1 o hi hr
  obtain ⟨x5, hs⟩ : ∃ z, z = s := ⟨_, rfl⟩
  subst hs
  obtain ⟨rfl, g5, g0, g1⟩ := hi
  unfold g15_b0 at hr
  refine w_seq (w_seq (w_ops (qaa (qab (p_mv g5)) (qaa (qab (p_mv g0)) ?_))))
  obtain ⟨v8, e8, z2⟩ := qac hr
  obtain ⟨x8, rfl, z3⟩ := qaj z2
  refine qaa (qab (o_len rfl e8)) ?_
  obtain ⟨c9, e9, z4⟩ := qaf z3
  refine qaa (qab (p_bin rfl rfl (b_lss.trans (cb e9)))) (qae (qad ?_))
  rcases qai z4 with ⟨rfl, z5⟩ | ⟨rfl, z5⟩
  ·refine qaq rfl ?_
   refine qaz (qad (w_seq ?_))
   refine qas ?_
   refine w_seq (w_ops (qaa (qab (p_mv g5)) ?_))
   obtain ⟨c13, e13, z6⟩ := qaf z5
   refine qaa (qab (p_bin rfl rfl (b_geq.trans (cb e13)))) (qaa (v := (.b c13)) (qab (p_mv rfl)) ?_)
   obtain ⟨o, z7, hk⟩ := qac z6
   refine qbz 7 (g15_J1 v0 s1 x5 m0 o) ?_ ?_
   ·clear hk
    rcases qai z7 with ⟨rfl, z8⟩ | ⟨rfl, z8⟩
    ·refine qam (v := (.b true)) rfl rfl (qam (v := (.b true)) rfl rfl (qam (v := (.b true)) rfl rfl (qam (v := (.b true)) rfl rfl (qam (v := (.b true)) rfl rfl (qam (v := (.b true)) rfl rfl (qaa (v := (.b true)) (qab (qbv rfl rfl)) (qae ?_)))))))
     cases z8
     exact ⟨_, _, rfl, rfl, gl rfl, gl g0, gl g1, gl g5⟩
    ·refine qan (v := v0) rfl (qab (p_mv g0)) (qan (v := (.i .i64 x5)) rfl (qab (p_mv g5)) ?_)
     obtain ⟨v17, e17, z9⟩ := qac z8
     refine qan (v := v17) rfl (qab (o_ixS rfl rfl e17)) ?_
     obtain ⟨v18, e18, z10⟩ := qac z9
     obtain ⟨s18, rfl, z11⟩ := qcc z10
     refine qan (v := (.s s18)) rfl (s_ld rfl e18) ?_
     obtain ⟨v19, e19, z12⟩ := qac z11
     obtain ⟨x19, rfl, z13⟩ := qaj z12
     refine qan (v := (.i .i64 x19)) rfl (qab (o_len rfl e19)) ?_
     obtain ⟨c20, e20, z14⟩ := qaf z13
     refine qan (v := (.b c20)) rfl (qab (p_bin rfl rfl (b_gtr.trans (cb e20)))) (qaa (v := (.b c20)) (qab (qbw rfl rfl)) (qae ?_))
     cases z14
     exact ⟨_, _, rfl, rfl, gl rfl, gl g0, gl g1, gl g5⟩
   ·clear z7
    have hr := hk
    clear hk
    obtain ⟨c21, ho⟩ : ∃ z, z = o := ⟨_, rfl⟩
    subst ho
    rintro mm t_2 ⟨rfl, g21, g0, g1, g5⟩
    refine qae (qad ?_)
    rcases qai hr with ⟨rfl, z15⟩ | ⟨rfl, z15⟩
    ·refine qaq g21 ?_
     refine w_seq (w_ops (qaa (v := (.b false)) (qab (p_mv rfl)) (qae (qad ?_))))
     refine w_ret ?_
     refine qcj ?_
     refine qbm ?_
     cases z15
     exact ⟨_, _, rfl, qca, rfl, rfl, gl rfl⟩
    ·refine qar g21 ?_
     refine qaz ?_
     refine qbh ?_
     refine qad (w_ops (qaa (qab (p_mv g5)) ?_))
     obtain ⟨x11, e11, z16⟩ := qah z15
     refine qaa (qab (p_bin rfl rfl (b_add.trans (ci e11)))) (qaa (v := (.i .i64 x11)) (qab (p_mv rfl)) (qae ?_))
     cases z16
     exact ⟨_, _, rfl, rfl, rfl, gl rfl, gl g0, gl g1⟩
  ·refine qar rfl ?_
   refine qbt ?_
   refine qbk ?_
   cases z5
   exact ⟨_, _, rfl, qap, rfl, rfl, gl g1⟩
 ·rcases o_1 with o_1 | o_1
  ·rintro _ mm_1 t_3 ⟨rfl, rfl, g1⟩
   refine qbu ?_
   refine qad (w_seq (w_ops (qaa (qab (p_mv g1)) ?_)))
   obtain ⟨v23, e23, z17⟩ := qac z1
   obtain ⟨x23, rfl, z18⟩ := qaj z17
   refine qaa (qab (o_len rfl e23)) ?_
   obtain ⟨c24, e24, z19⟩ := qaf z18
   refine qaa (qab (p_bin rfl rfl (b_leq.trans (cb e24)))) (qaa (v := (.b c24)) (qab (p_mv rfl)) (qae (qad ?_)))
   refine w_ret ?_
   exact qf qba (rt rfl rn) z19
  ·obtain ⟨c4, ho⟩ : ∃ z, z = o_1 := ⟨_, rfl⟩
   subst ho
   rintro _ mm_2 t_4 ⟨rfl, rfl, g4⟩
   refine qcj ?_
   refine qbm ?_
   exact qf qba (rt g4 rn) z1
/- dibber/vine.Dies -/

def g26 (M : Means) (ro : List ABlk) (v0 : AVal) (s1 : List UInt8) (m0 : Mm) : Option (AVal × Heap × Nat × Nat) :=
 bindP (callM M.call m0 60 [v0, (.s s1)]) fun v13 m_1 =>
 bindO (evP .e (.ext 0 (.c v13))) fun v14 =>
 bindO (evP .e (.ext 1 (.c v13))) fun v15 =>
 asI .i64 v15 fun x15 =>
 qau (!eqI x15 0) fun c17 =>
 cond c17 (
  finM m0.h.length (tupA [(.i .i64 0), (.i .i64 x15)]) m_1) (
  bindP (callM M.call m_1 61 [v14, (.s s1)]) fun v22 m_2 =>
  bindO (evP .e (.ext 0 (.c v22))) fun v23 =>
  asI .i64 v23 fun x23 =>
  bindO (evP .e (.ext 1 (.c v22))) fun v24 =>
  asB v24 fun c24 =>
  qau (!c24) fun c26 =>
  cond c26 (
   finM m0.h.length (tupA [(.i .i64 0), (.i .i64 10)]) m_2) (
   finM m0.h.length (tupA [(.i .i64 x23), (.i .i64 0)]) m_2))
theorem g26_ok {ro : List ABlk} {O : qao} {M : Means} (hM : M.Ok ⟨F, O⟩ ro) {v0 s1 h r} (ho : O 26 [v0, (.s s1)] h = none) (hr : g26 M ro v0 s1 ⟨h, h.length, h.length⟩ = some r) : callX ⟨F, O⟩ ro 26 [v0, (.s s1)] h = some r := by
 refine qbd (F := ⟨F, O⟩) (fn := fn26) (g := g26 M ro v0 s1) ho rfl rfl hr ?_
 clear ho
 clear hr
 intro m0 t0 ht hr
 have g0 : t0.get 0 = v0 := ht 0
 have g1 : t0.get 1 = (.s s1) := ht 1
 clear ht
 unfold g26 at hr
 refine w_seq (w_ops (qaa (v := (.i .i64 0)) (qab (p_mv rfl)) (qaa (v := (.i .i64 0)) (qab (p_mv rfl)) (qae (qad (w_seq (w_ops (qaa (qab (p_mv g0)) (qaa (qab (p_mv g1)) ?_)))))))))
 obtain ⟨v13, m_1, e13, z1⟩ := qag hr
 refine qaa (qbi (mc rfl (mc rfl mn)) (qav hM.call e13)) (qaa (v := v13) (qab (p_mv rfl)) ?_)
 obtain ⟨v14, e14, z2⟩ := qac z1
 refine qaa (qab (o_ext rfl e14)) ?_
 obtain ⟨v15, e15, z3⟩ := qac z2
 obtain ⟨x15, rfl, z4⟩ := qaj z3
 refine qaa (qab (o_ext rfl e15)) (qaa (v := v14) (qab (p_mv rfl)) (qaa (v := (.i .i64 x15)) (qab (p_mv rfl)) (qae (qad (w_seq (w_seq (w_ops (qaa (v := (.i .i64 x15)) (qab (p_mv rfl)) ?_))))))))
 obtain ⟨c17, e17, z5⟩ := qaf z4
 refine qaa (qab (p_bin rfl rfl (b_neq.trans (cb e17)))) (qae (qad ?_))
 rcases qai z5 with ⟨rfl, z6⟩ | ⟨rfl, z6⟩
 ·refine qaq rfl ?_
  refine w_seq (w_ops (qaa (v := (.i .i64 x15)) (qab (p_mv rfl)) (qaa (v := (.i .i64 0)) (qab (p_mv rfl)) (qaa (v := (.i .i64 x15)) (qab (p_mv rfl)) (qae (qad ?_))))))
  refine w_ret ?_
  refine qbm ?_
  exact qf qba (rt rfl (rt rfl rn)) z6
 ·refine qar rfl ?_
  refine qaz (qad (w_seq (w_ops (qaa (v := v14) (qab (p_mv rfl)) (qaa (qab (p_mv g1)) ?_)))))
  obtain ⟨v22, m_2, e22, z7⟩ := qag z6
  refine qaa (qbi (mc rfl (mc rfl mn)) (qav hM.call e22)) (qaa (v := v22) (qab (p_mv rfl)) ?_)
  obtain ⟨v23, e23, z8⟩ := qac z7
  obtain ⟨x23, rfl, z9⟩ := qaj z8
  refine qaa (qab (o_ext rfl e23)) ?_
  obtain ⟨v24, e24, z10⟩ := qac z9
  obtain ⟨c24, rfl, z11⟩ := qbp z10
  refine qaa (qab (o_ext rfl e24)) (qaa (v := (.i .i64 x23)) (qab (p_mv rfl)) (qaa (v := (.b c24)) (qab (p_mv rfl)) (qae (qad (w_seq (w_seq (w_ops (qaa (v := (.b c24)) (qab (p_mv rfl)) ?_))))))))
  obtain ⟨c26, e26, z12⟩ := qaf z11
  refine qaa (qab ((p_not rfl).trans (cb e26))) (qae (qad ?_))
  rcases qai z12 with ⟨rfl, z13⟩ | ⟨rfl, z13⟩
  ·refine qaq rfl ?_
   refine w_seq (w_ops (qaa (v := (.i .i64 0)) (qab (p_mv rfl)) (qaa (v := (.i .i64 10)) (qab (p_mv rfl)) (qae (qad ?_)))))
   refine w_ret ?_
   refine qbm ?_
   exact qf qba (rt rfl (rt rfl rn)) z13
  ·refine qar rfl ?_
   refine qaz (qad (w_seq (w_ops (qaa (v := (.i .i64 x23)) (qab (p_mv rfl)) (qaa (v := (.i .i64 x23)) (qab (p_mv rfl)) (qaa (v := (.i .i64 0)) (qab (p_mv rfl)) (qae (qad ?_))))))))
   refine w_ret ?_
   exact qf qba (rt rfl (rt rfl rn)) z13
/- dibber/dibberref03.Dies -/

def g27 (M : Means) (ro : List ABlk) (v0 : AVal) (s1 : List UInt8) (m0 : Mm) : Option (AVal × Heap × Nat × Nat) :=
 bindP (callM M.call m0 42 [v0, (.s s1)]) fun v10 m_1 =>
 asI .i64 v10 fun x10 =>
 qau (!eqI x10 0) fun c12 =>
 cond c12 (
  finM m0.h.length (tupA [(.i .i64 0), (.i .i64 x10)]) m_1) (
  bindP (callM M.call m_1 62 [v0, (.s s1)]) fun v16 m_2 =>
  asI .i64 v16 fun x16 =>
  qau (ltI x16 0) fun c18 =>
  cond c18 (
   finM m0.h.length (tupA [(.i .i64 0), (.i .i64 10)]) m_2) (
   finM m0.h.length (tupA [(.i .i64 x16), (.i .i64 0)]) m_2))
theorem g27_ok {ro : List ABlk} {O : qao} {M : Means} (hM : M.Ok ⟨F, O⟩ ro) {v0 s1 h r} (ho : O 27 [v0, (.s s1)] h = none) (hr : g27 M ro v0 s1 ⟨h, h.length, h.length⟩ = some r) : callX ⟨F, O⟩ ro 27 [v0, (.s s1)] h = some r := by
 refine qbd (F := ⟨F, O⟩) (fn := fn27) (g := g27 M ro v0 s1) ho rfl rfl hr ?_
 clear ho
 clear hr
 intro m0 t0 ht hr
 have g0 : t0.get 0 = v0 := ht 0
 have g1 : t0.get 1 = (.s s1) := ht 1
 clear ht
 unfold g27 at hr
 refine w_seq (w_ops (qaa (v := (.i .i64 0)) (qab (p_mv rfl)) (qaa (v := (.i .i64 0)) (qab (p_mv rfl)) (qae (qad (w_seq (w_ops (qaa (qab (p_mv g0)) (qaa (qab (p_mv g1)) ?_)))))))))
 obtain ⟨v10, m_1, e10, z1⟩ := qag hr
 obtain ⟨x10, rfl, z2⟩ := qaj z1
 refine qaa (qbi (mc rfl (mc rfl mn)) (qav hM.call e10)) (qaa (v := (.i .i64 x10)) (qab (p_mv rfl)) (qae (qad (w_seq (w_seq (w_ops (qaa (v := (.i .i64 x10)) (qab (p_mv rfl)) ?_)))))))
 obtain ⟨c12, e12, z3⟩ := qaf z2
 refine qaa (qab (p_bin rfl rfl (b_neq.trans (cb e12)))) (qae (qad ?_))
 rcases qai z3 with ⟨rfl, z4⟩ | ⟨rfl, z4⟩
 ·refine qaq rfl ?_
  refine w_seq (w_ops (qaa (v := (.i .i64 x10)) (qab (p_mv rfl)) (qaa (v := (.i .i64 0)) (qab (p_mv rfl)) (qaa (v := (.i .i64 x10)) (qab (p_mv rfl)) (qae (qad ?_))))))
  refine w_ret ?_
  refine qbm ?_
  exact qf qba (rt rfl (rt rfl rn)) z4
 ·refine qar rfl ?_
  refine qaz (qad (w_seq (w_ops (qaa (qab (p_mv g0)) (qaa (qab (p_mv g1)) ?_)))))
  obtain ⟨v16, m_2, e16, z5⟩ := qag z4
  obtain ⟨x16, rfl, z6⟩ := qaj z5
  refine qaa (qbi (mc rfl (mc rfl mn)) (qav hM.call e16)) (qaa (v := (.i .i64 x16)) (qab (p_mv rfl)) (qae (qad (w_seq (w_seq (w_ops (qaa (v := (.i .i64 x16)) (qab (p_mv rfl)) ?_)))))))
  obtain ⟨c18, e18, z7⟩ := qaf z6
  refine qaa (qab (p_bin rfl rfl (b_lss.trans (cb e18)))) (qae (qad ?_))
  rcases qai z7 with ⟨rfl, z8⟩ | ⟨rfl, z8⟩
  ·refine qaq rfl ?_
   refine w_seq (w_ops (qaa (v := (.i .i64 0)) (qab (p_mv rfl)) (qaa (v := (.i .i64 10)) (qab (p_mv rfl)) (qae (qad ?_)))))
   refine w_ret ?_
   refine qbm ?_
   exact qf qba (rt rfl (rt rfl rn)) z8
  ·refine qar rfl ?_
   refine qaz (qad (w_seq (w_ops (qaa (v := (.i .i64 x16)) (qab (p_mv rfl)) (qaa (v := (.i .i64 x16)) (qab (p_mv rfl)) (qaa (v := (.i .i64 0)) (qab (p_mv rfl)) (qae (qad ?_))))))))
   refine w_ret ?_
   exact qf qba (rt rfl (rt rfl rn)) z8
/- dibber/vine.Kind -/
abbrev g28_I0 (s1 : List UInt8) (v9 : AVal) (x27 : Int) (s : Int × Int × Mm) (m1 : Mm) (t1 : Tr) : Prop :=
 match s with
 | (x10, x28, m_5) => m_5 = m1 ∧ t1.get 10 = (.i .i64 x10) ∧ t1.get 28 = (.i .i64 x28) ∧ t1.get 1 = (.s s1) ∧ t1.get 9 = v9 ∧ t1.get 27 = (.i .i64 x27)
abbrev g28_J0 (s1 : List UInt8) (v9 : AVal) (x27 : Int) (o : ((Int × Mm) ⊕ (Int × Int × Int × Mm))) (e : AExit) (m1 : Mm) (t1 : Tr) : Prop :=
 match o with
 | (.inl (y10, mo)) => e = (.exit 0) ∧ mo = m1 ∧ t1.get 10 = (.i .i64 y10)
 | (.inr (y4, y5, y6, mo)) => e = .ret ∧ mo = m1 ∧ t1.get 4 = (.i .i64 y4) ∧ t1.get 5 = (.i .i64 y5) ∧ t1.get 6 = (.i .i64 y6)
def g28_b0 (M : Means) (ro : List ABlk) (s1 : List UInt8) (v9 : AVal) (x27 : Int) (x10 : Int) (x28 : Int) (m_5 : Mm) : Option ((Int × Int × Mm) ⊕ (((Int × Mm) ⊕ (Int × Int × Int × Mm)))) :=
 qau (ltI x28 x27) fun c29 =>
 cond c29 (
  bindO (evP .e (.ixStr (.c (.s s1)) (.c (.i .i64 x28)))) fun v33 =>
  asI .u8 v33 fun x33 =>
  bindP (callM M.call m_5 54 [(.i .u8 x33)]) fun v34 m_6 =>
  asI .i64 v34 fun x34 =>
  bindO (ldM ro m_6 false 2 v9) fun v35 =>
  bindP (callM M.call m_6 64 [v35, (.i .i64 x34)]) fun v37 m_7 =>
  asB v37 fun c37 =>
  cond c37 (
   some (.inr (.inr (3, 0, 0, m_7)))) (
   bindO (ldM ro m_7 false 2 v9) fun v39 =>
   bindP (callM M.call m_7 65 [v39, (.i .i64 x34)]) fun v41 m_8 =>
   asI .i64 v41 fun x41 =>
   qaw (mxV true x10 x41) fun x42 =>
   qaw (wr .i64 (x28 + 1)) fun x43 =>
   some (.inl (x42, x43, m_8)))) (
  some (.inr (.inl (x10, m_5))))
def g28 (M : Means) (ro : List ABlk) (v0 : AVal) (s1 : List UInt8) (m0 : Mm) : Option (AVal × Heap × Nat × Nat) :=
 bindP (callM M.call m0 60 [v0, (.s s1)]) fun v16 m_1 =>
 bindO (evP .e (.ext 0 (.c v16))) fun v17 =>
 bindO (evP .e (.ext 1 (.c v16))) fun v18 =>
 asI .i64 v18 fun x18 =>
 qau (!eqI x18 0) fun c20 =>
 cond c20 (
  finM m0.h.length (tupA [(.i .i64 0), (.i .i64 0), (.i .i64 x18)]) m_1) (
  bindP (callM M.call m_1 63 [v17]) fun v24 m_2 =>
  bindO ((fillA [AVal.nsl, AVal.nsl] [((0, 1), v17), ((1, 1), v24)]).map AVal.agg) fun v25 =>
  bindP (stepM ro m_2 (.al 85 [AVal.nsl, AVal.nsl])) fun v9 m_3 =>
  bindP (stepM ro m_3 (.st 2 (.c v9) (.c v25))) fun vn m_4 =>
  bindO (evP .e (.len true (.c (.s s1)))) fun v27 =>
  asI .i64 v27 fun x27 =>
  bindO (M.loop (S := Int × Int × Mm) (R := ((Int × Mm) ⊕ (Int × Int × Int × Mm))) (fun s => g28_b0 M ro s1 v9 x27 s.1 s.2.1 s.2.2) (0, 0, m_4)) fun o => match o with
  | (.inl (x10_1, m_9)) =>
   qau (ltI x10_1 2) fun c45 =>
   cond c45 (
    finM m0.h.length (tupA [(.i .i64 x10_1), (.i .i64 0), (.i .i64 0)]) m_9) (
    qaw (wr .i64 (x10_1 - 1)) fun x48 =>
    finM m0.h.length (tupA [(.i .i64 2), (.i .i64 x48), (.i .i64 0)]) m_9)
  | (.inr (x4, x5, x6, m_10)) =>
   finM m0.h.length (tupA [(.i .i64 x4), (.i .i64 x5), (.i .i64 x6)]) m_10)
theorem g28_ok {ro : List ABlk} {O : qao} {M : Means} (hM : M.Ok ⟨F, O⟩ ro) {v0 s1 h r} (ho : O 28 [v0, (.s s1)] h = none) (hr : g28 M ro v0 s1 ⟨h, h.length, h.length⟩ = some r) : callX ⟨F, O⟩ ro 28 [v0, (.s s1)] h = some r := by
 refine qbd (F := ⟨F, O⟩) (fn := fn28) (g := g28 M ro v0 s1) ho rfl rfl hr ?_
 clear ho
 clear hr
 intro m0 t0 ht hr
 have g0 : t0.get 0 = v0 := ht 0
 have g1 : t0.get 1 = (.s s1) := ht 1
 clear ht
 unfold g28 at hr
 refine w_seq (w_ops (qaa (v := (.i .i64 0)) (qab (p_mv rfl)) (qaa (v := (.i .i64 0)) (qab (p_mv rfl)) (qaa (v := (.i .i64 0)) (qab (p_mv rfl)) (qae (qad (w_seq (w_ops (qaa (qab (p_mv g0)) (qaa (qab (p_mv g1)) ?_))))))))))
 obtain ⟨v16, m_1, e16, z1⟩ := qag hr
 refine qaa (qbi (mc rfl (mc rfl mn)) (qav hM.call e16)) (qaa (v := v16) (qab (p_mv rfl)) ?_)
 obtain ⟨v17, e17, z2⟩ := qac z1
 refine qaa (qab (o_ext rfl e17)) ?_
 obtain ⟨v18, e18, z3⟩ := qac z2
 obtain ⟨x18, rfl, z4⟩ := qaj z3
 refine qaa (qab (o_ext rfl e18)) (qaa (v := v17) (qab (p_mv rfl)) (qaa (v := (.i .i64 x18)) (qab (p_mv rfl)) (qae (qad (w_seq (w_seq (w_ops (qaa (v := (.i .i64 x18)) (qab (p_mv rfl)) ?_))))))))
 obtain ⟨c20, e20, z5⟩ := qaf z4
 refine qaa (qab (p_bin rfl rfl (b_neq.trans (cb e20)))) (qae (qad ?_))
 rcases qai z5 with ⟨rfl, z6⟩ | ⟨rfl, z6⟩
 ·refine qaq rfl ?_
  refine w_seq (w_ops (qaa (v := (.i .i64 x18)) (qab (p_mv rfl)) (qaa (v := (.i .i64 0)) (qab (p_mv rfl)) (qaa (v := (.i .i64 0)) (qab (p_mv rfl)) (qaa (v := (.i .i64 x18)) (qab (p_mv rfl)) (qae (qad ?_)))))))
  refine w_ret ?_
  refine qbm ?_
  exact qf qba (rt rfl (rt rfl (rt rfl rn))) z6
 ·refine qar rfl ?_
  refine qaz (qad (w_seq (w_ops (qaa (v := v17) (qab (p_mv rfl)) (qaa (v := v17) (qab (p_mv rfl)) ?_)))))
  obtain ⟨v24, m_2, e24, z7⟩ := qag z6
  refine qaa (qbi (mc rfl mn) (qav hM.call e24)) ?_
  obtain ⟨v25, e25, z8⟩ := qac z7
  refine qaa (qab (o_build (qc rfl (qc rfl qn)) e25)) ?_
  obtain ⟨v9, m_3, e9, z9⟩ := qag z8
  refine qaa (s_al e9) ?_
  obtain ⟨vn, m_4, en, z10⟩ := qag z9
  refine qdz (s_st rfl rfl en) ?_
  refine qae (qad (w_seq (w_ops (qaa (v := (.i .i64 0)) (qab (p_mv rfl)) (qae (qad (w_seq (w_seq (w_ops (qaa (qab (p_mv g1)) ?_))))))))))
  obtain ⟨v27, e27, z11⟩ := qac z10
  obtain ⟨x27, rfl, z12⟩ := qaj z11
  refine qaa (qab (o_len rfl e27)) (qaa (v := (.i .i64 0)) (qab (p_mv rfl)) (qae (qad ?_)))
  refine qas ?_
  obtain ⟨o, hl, z13⟩ := qac z12
  obtain ⟨n, hl⟩ := hM.loop _ _ _ hl
  refine qbe (qbs _ (g28_I0 s1 v9 x27) (g28_J0 s1 v9 x27) ?_ n _ _ _ _ hl ⟨rfl, gl rfl, gl rfl, gl g1, gl rfl, gl rfl⟩) ?_
  ·clear z13 hl
   intro s mm_2 t_1 o hi hr
   obtain ⟨x10, x28, m_5⟩ := s
   obtain ⟨rfl, g10, g28, g1, g9, g27⟩ := hi
   unfold g28_b0 at hr
   refine w_seq (w_ops ?_)
   obtain ⟨c29, e29, z14⟩ := qaf hr
   refine qaa (qab (p_bin g28 g27 (b_lss.trans (cb e29)))) (qae (qad (w_seq ?_)))
   rcases qai z14 with ⟨rfl, z15⟩ | ⟨rfl, z15⟩
   ·refine qaq rfl ?_
    refine qaz (qad (w_seq ?_))
    refine qas ?_
    refine w_seq (w_ops (qaa (qab (p_mv g28)) (qaa (v := (.i .i64 x28)) (qab (p_mv rfl)) (qae (qad (w_seq (w_ops (qaa (qab (p_mv g1)) (qaa (v := (.i .i64 x28)) (qab (p_mv rfl)) ?_)))))))))
    obtain ⟨v33, e33, z16⟩ := qac z15
    obtain ⟨x33, rfl, z17⟩ := qaj z16
    refine qaa (qab (qdp rfl rfl e33)) ?_
    obtain ⟨v34, m_6, e34, z18⟩ := qag z17
    obtain ⟨x34, rfl, z19⟩ := qaj z18
    refine qaa (qbi (mc rfl mn) (qav hM.call e34)) (qaa (v := (.i .i64 x34)) (qab (p_mv rfl)) (qae (qad (w_seq (w_seq (w_ops ?_))))))
    obtain ⟨v35, e35, z20⟩ := qac z19
    refine qaa (s_ld g9 e35) (qaa (v := (.i .i64 x34)) (qab (p_mv rfl)) ?_)
    obtain ⟨v37, m_7, e37, z21⟩ := qag z20
    obtain ⟨c37, rfl, z22⟩ := qbp z21
    refine qaa (qbi (mc rfl (mc rfl mn)) (qav hM.call e37)) (qae (qad ?_))
    rcases qai z22 with ⟨rfl, z23⟩ | ⟨rfl, z23⟩
    ·refine qaq rfl ?_
     refine w_seq (w_ops (qaa (v := (.i .i64 3)) (qab (p_mv rfl)) (qaa (v := (.i .i64 0)) (qab (p_mv rfl)) (qaa (v := (.i .i64 0)) (qab (p_mv rfl)) (qae (qad ?_))))))
     refine w_ret ?_
     refine qbm ?_
     refine qcj ?_
     refine qbm ?_
     cases z23
     exact ⟨_, _, rfl, qca, rfl, rfl, gl rfl, gl rfl, gl rfl⟩
    ·refine qar rfl ?_
     refine qaz (qad (w_ops (qaa (qab (p_mv g10)) ?_)))
     obtain ⟨v39, e39, z24⟩ := qac z23
     refine qaa (s_ld g9 e39) (qaa (v := (.i .i64 x34)) (qab (p_mv rfl)) ?_)
     obtain ⟨v41, m_8, e41, z25⟩ := qag z24
     obtain ⟨x41, rfl, z26⟩ := qaj z25
     refine qaa (qbi (mc rfl (mc rfl mn)) (qav hM.call e41)) ?_
     obtain ⟨x42, e42, z27⟩ := qah z26
     refine qaa (qab ((p_mx rfl rfl).trans (ci e42))) (qaa (v := (.i .i64 x42)) (qab (p_mv rfl)) (qae ?_))
     refine qbh ?_
     refine qad (w_ops ?_)
     obtain ⟨x43, e43, z28⟩ := qah z27
     refine qaa (qab (p_bin g28 rfl (b_add.trans (ci e43)))) (qaa (v := (.i .i64 x43)) (qab (p_mv rfl)) (qae ?_))
     cases z28
     exact ⟨_, _, rfl, rfl, rfl, gl rfl, gl rfl, gl g1, gl g9, gl g27⟩
   ·refine qar rfl ?_
    refine qbt ?_
    refine qbk ?_
    cases z15
    exact ⟨_, _, rfl, qap, rfl, rfl, gl g10⟩
  ·rcases o with o | o
   ·obtain ⟨x10_1, m_9⟩ := o
    rintro _ mm t_2 ⟨rfl, rfl, g10⟩
    refine qbu ?_
    refine qad (w_seq (w_seq (w_ops (qaa (qab (p_mv g10)) ?_))))
    obtain ⟨c45, e45, z29⟩ := qaf z13
    refine qaa (qab (p_bin rfl rfl (b_lss.trans (cb e45)))) (qae (qad ?_))
    rcases qai z29 with ⟨rfl, z30⟩ | ⟨rfl, z30⟩
    ·refine qaq rfl ?_
     refine w_seq (w_ops (qaa (qab (p_mv g10)) (qaa (v := (.i .i64 x10_1)) (qab (p_mv rfl)) (qaa (v := (.i .i64 0)) (qab (p_mv rfl)) (qaa (v := (.i .i64 0)) (qab (p_mv rfl)) (qae (qad ?_)))))))
     refine w_ret ?_
     refine qbm ?_
     exact qf qba (rt rfl (rt rfl (rt rfl rn))) z30
    ·refine qar rfl ?_
     refine qaz (qad (w_seq (w_ops (qaa (qab (p_mv g10)) ?_))))
     obtain ⟨x48, e48, z31⟩ := qah z30
     refine qaa (qab (p_bin rfl rfl (b_sub.trans (ci e48)))) (qaa (v := (.i .i64 2)) (qab (p_mv rfl)) (qaa (v := (.i .i64 x48)) (qab (p_mv rfl)) (qaa (v := (.i .i64 0)) (qab (p_mv rfl)) (qae (qad ?_)))))
     refine w_ret ?_
     exact qf qba (rt rfl (rt rfl (rt rfl rn))) z31
   ·obtain ⟨x4, x5, x6, m_10⟩ := o
    rintro _ mm_1 t_3 ⟨rfl, rfl, g4, g5, g6⟩
    refine qcj ?_
    refine qbm ?_
    exact qf qba (rt g4 (rt g5 (rt g6 rn))) z13
/- dibber/dibberref03.Kind -/
abbrev g29_I0 (v0 : AVal) (s1 : List UInt8) (v20 : AVal) (s : Int × Int × Mm) (m1 : Mm) (t1 : Tr) : Prop :=
 match s with
 | (x9, x10, m_3) => m_3 = m1 ∧ t1.get 9 = (.i .i64 x9) ∧ t1.get 10 = (.i .i64 x10) ∧ t1.get 0 = v0 ∧ t1.get 1 = (.s s1) ∧ t1.get 8 = v20
abbrev g29_J0 (v0 : AVal) (s1 : List UInt8) (v20 : AVal) (o : ((Int × Mm) ⊕ (Int × Int × Int × Mm))) (e : AExit) (m1 : Mm) (t1 : Tr) : Prop :=
 match o with
 | (.inl (y9, mo)) => e = (.exit 0) ∧ mo = m1 ∧ t1.get 9 = (.i .i64 y9)
 | (.inr (y4, y5, y6, mo)) => e = .ret ∧ mo = m1 ∧ t1.get 4 = (.i .i64 y4) ∧ t1.get 5 = (.i .i64 y5) ∧ t1.get 6 = (.i .i64 y6)
abbrev g29_I1 (v0 : AVal) (s1 : List UInt8) (v20 : AVal) (x9 : Int) (x10 : Int) (x31 : Int) (s : Int × Mm) (m1 : Mm) (t1 : Tr) : Prop :=
 match s with
 | (x12, m_4) => m_4 = m1 ∧ t1.get 12 = (.i .i64 x12) ∧ t1.get 0 = v0 ∧ t1.get 1 = (.s s1) ∧ t1.get 8 = v20 ∧ t1.get 9 = (.i .i64 x9) ∧ t1.get 10 = (.i .i64 x10) ∧ t1.get 11 = (.i .i64 x31)
abbrev g29_J1 (v0 : AVal) (s1 : List UInt8) (v20 : AVal) (x9 : Int) (x10 : Int) (x31 : Int) (o : (Mm ⊕ (Int × Int × Int × Mm))) (e : AExit) (m1 : Mm) (t1 : Tr) : Prop :=
 match o with
 | (.inl mo) => e = (.exit 2) ∧ mo = m1 ∧ t1.get 0 = v0 ∧ t1.get 1 = (.s s1) ∧ t1.get 8 = v20 ∧ t1.get 9 = (.i .i64 x9) ∧ t1.get 10 = (.i .i64 x10) ∧ t1.get 11 = (.i .i64 x31)
 | (.inr (y4, y5, y6, mo)) => e = .ret ∧ mo = m1 ∧ t1.get 4 = (.i .i64 y4) ∧ t1.get 5 = (.i .i64 y5) ∧ t1.get 6 = (.i .i64 y6)
abbrev g29_J2 (v0 : AVal) (s1 : List UInt8) (v20 : AVal) (x9 : Int) (x10 : Int) (x31 : Int) (x12 : Int) (m_4 : Mm) (o : Bool) (m1 : Mm) (t1 : Tr) : Prop :=
 match o with
 | c49 => m_4 = m1 ∧ t1.get 49 = (.b c49) ∧ t1.get 0 = v0 ∧ t1.get 1 = (.s s1) ∧ t1.get 8 = v20 ∧ t1.get 9 = (.i .i64 x9) ∧ t1.get 10 = (.i .i64 x10) ∧ t1.get 11 = (.i .i64 x31) ∧ t1.get 12 = (.i .i64 x12)
abbrev g29_J3 (v0 : AVal) (s1 : List UInt8) (v20 : AVal) (x9 : Int) (x10 : Int) (x31 : Int) (x12 : Int) (o : Bool × Mm) (m1 : Mm) (t1 : Tr) : Prop :=
 match o with
 | (c56, m_5) => m_5 = m1 ∧ t1.get 56 = (.b c56) ∧ t1.get 0 = v0 ∧ t1.get 1 = (.s s1) ∧ t1.get 8 = v20 ∧ t1.get 9 = (.i .i64 x9) ∧ t1.get 10 = (.i .i64 x10) ∧ t1.get 11 = (.i .i64 x31) ∧ t1.get 12 = (.i .i64 x12)
def g29_b1 (M : Means) (ro : List ABlk) (v0 : AVal) (s1 : List UInt8) (v20 : AVal) (x9 : Int) (x10 : Int) (x31 : Int) (x12 : Int) (m_4 : Mm) : Option ((Int × Mm) ⊕ ((Mm ⊕ (Int × Int × Int × Mm)))) :=
 bindO (evP .e (.len false (.c v0))) fun v34 =>
 asI .i64 v34 fun x34 =>
 qau (ltI x12 x34) fun c35 =>
 cond c35 (
  qau (eqI x12 x31) fun c40 =>
  bindO (cond c40 (
   some true) (
   bindO (evP .e (.ixS 1 (.c v20) (.c (.i .i64 x31)))) fun v44 =>
   bindO (ldM ro m_4 true 1 v44) fun v45 =>
   bindO (evP .e (.ixS 1 (.c v45) (.c (.i .i64 x12)))) fun v47 =>
   bindO (ldM ro m_4 true 1 v47) fun v48 =>
   asB v48 fun c48 =>
   some c48)) fun c49 =>
  bindO (cond c49 (
   bindP (callM M.call m_4 67 [v0, v20, (.i .i64 x12)]) fun v54 m_6 =>
   asI .i64 v54 fun x54 =>
   qau (ltI 1 x54) fun c55 =>
   some (c55, m_6)) (
   some (false, m_4))) fun ⟨c56, m_5⟩ =>
  cond c56 (
   some (.inr (.inr (3, 0, 0, m_5)))) (
   qaw (wr .i64 (x12 + 1)) fun x37 =>
   some (.inl (x37, m_5)))) (
  some (.inr (.inl m_4)))
def g29_b0 (M : Means) (ro : List ABlk) (v0 : AVal) (s1 : List UInt8) (v20 : AVal) (x9 : Int) (x10 : Int) (m_3 : Mm) : Option ((Int × Int × Mm) ⊕ (((Int × Mm) ⊕ (Int × Int × Int × Mm)))) :=
 bindO (evP .e (.len true (.c (.s s1)))) fun v23 =>
 asI .i64 v23 fun x23 =>
 qau (ltI x10 x23) fun c24 =>
 cond c24 (
  bindO (evP .e (.ixStr (.c (.s s1)) (.c (.i .i64 x10)))) fun v29 =>
  asI .u8 v29 fun x29 =>
  qaw (wr .u8 (x29 - 97)) fun x30 =>
  qaw (wr .i64 x30) fun x31 =>
  bindO (M.loop (S := Int × Mm) (R := (Mm ⊕ (Int × Int × Int × Mm))) (fun s => g29_b1 M ro v0 s1 v20 x9 x10 x31 s.1 s.2) (0, m_3)) fun o_2 => match o_2 with
  | (.inl m_7) =>
   bindP (callM M.call m_7 68 [v0, v20, (.i .i64 x31)]) fun v61 m_8 =>
   asI .i64 v61 fun x61 =>
   qaw (mxV true x9 x61) fun x62 =>
   qaw (wr .i64 (x10 + 1)) fun x26 =>
   some (.inl (x62, x26, m_8))
  | (.inr (x4, x5, x6, m_9)) =>
   some (.inr (.inr (x4, x5, x6, m_9)))) (
  some (.inr (.inl (x9, m_3))))
def g29 (M : Means) (ro : List ABlk) (v0 : AVal) (s1 : List UInt8) (m0 : Mm) : Option (AVal × Heap × Nat × Nat) :=
 bindP (callM M.call m0 42 [v0, (.s s1)]) fun v15 m_1 =>
 asI .i64 v15 fun x15 =>
 qau (!eqI x15 0) fun c17 =>
 cond c17 (
  finM m0.h.length (tupA [(.i .i64 0), (.i .i64 0), (.i .i64 x15)]) m_1) (
  bindP (callM M.call m_1 66 [v0]) fun v20 m_2 =>
  bindO (M.loop (S := Int × Int × Mm) (R := ((Int × Mm) ⊕ (Int × Int × Int × Mm))) (fun s => g29_b0 M ro v0 s1 v20 s.1 s.2.1 s.2.2) (0, 0, m_2)) fun o_3 => match o_3 with
  | (.inl (x9_1, m_10)) =>
   qau (eqI x9_1 0) fun c65 =>
   cond c65 (
    finM m0.h.length (tupA [(.i .i64 0), (.i .i64 0), (.i .i64 0)]) m_10) (
    qau (eqI x9_1 1) fun c67 =>
    cond c67 (
     finM m0.h.length (tupA [(.i .i64 1), (.i .i64 0), (.i .i64 0)]) m_10) (
     qaw (wr .i64 (x9_1 - 1)) fun x69 =>
     finM m0.h.length (tupA [(.i .i64 2), (.i .i64 x69), (.i .i64 0)]) m_10))
  | (.inr (x4_1, x5_1, x6_1, m_11)) =>
   finM m0.h.length (tupA [(.i .i64 x4_1), (.i .i64 x5_1), (.i .i64 x6_1)]) m_11)
theorem g29_ok {ro : List ABlk} {O : qao} {M : Means} (hM : M.Ok ⟨F, O⟩ ro) {v0 s1 h r} (ho : O 29 [v0, (.s s1)] h = none) (hr : g29 M ro v0 s1 ⟨h, h.length, h.length⟩ = some r) : callX ⟨F, O⟩ ro 29 [v0, (.s s1)] h = some r := by
 refine qbd (F := ⟨F, O⟩) (fn := fn29) (g := g29 M ro v0 s1) ho rfl rfl hr ?_
 clear ho
 clear hr
 intro m0 t0 ht hr
 have g0 : t0.get 0 = v0 := ht 0
 have g1 : t0.get 1 = (.s s1) := ht 1
 clear ht
 unfold g29 at hr
 refine w_seq (w_ops (qaa (v := (.i .i64 0)) (qab (p_mv rfl)) (qaa (v := (.i .i64 0)) (qab (p_mv rfl)) (qaa (v := (.i .i64 0)) (qab (p_mv rfl)) (qae (qad (w_seq (w_ops (qaa (qab (p_mv g0)) (qaa (qab (p_mv g1)) ?_))))))))))
 obtain ⟨v15, m_1, e15, z1⟩ := qag hr
 obtain ⟨x15, rfl, z2⟩ := qaj z1
 refine qaa (qbi (mc rfl (mc rfl mn)) (qav hM.call e15)) (qaa (v := (.i .i64 x15)) (qab (p_mv rfl)) (qae (qad (w_seq (w_seq (w_ops (qaa (v := (.i .i64 x15)) (qab (p_mv rfl)) ?_)))))))
 obtain ⟨c17, e17, z3⟩ := qaf z2
 refine qaa (qab (p_bin rfl rfl (b_neq.trans (cb e17)))) (qae (qad ?_))
 rcases qai z3 with ⟨rfl, z4⟩ | ⟨rfl, z4⟩
 ·refine qaq rfl ?_
  refine w_seq (w_ops (qaa (v := (.i .i64 x15)) (qab (p_mv rfl)) (qaa (v := (.i .i64 0)) (qab (p_mv rfl)) (qaa (v := (.i .i64 0)) (qab (p_mv rfl)) (qaa (v := (.i .i64 x15)) (qab (p_mv rfl)) (qae (qad ?_)))))))
  refine w_ret ?_
  refine qbm ?_
  exact qf qba (rt rfl (rt rfl (rt rfl rn))) z4
 ·refine qar rfl ?_
  refine qaz (qad (w_seq (w_ops (qaa (qab (p_mv g0)) ?_))))
  obtain ⟨v20, m_2, e20, z5⟩ := qag z4
  refine qaa (qbi (mc rfl mn) (qav hM.call e20)) (qaa (v := v20) (qab (p_mv rfl)) (qae (qad (w_seq (w_ops (qaa (v := (.i .i64 0)) (qab (p_mv rfl)) (qae (qad (w_seq (w_seq (w_ops ?_)))))))))))
  refine qaa (v := (.i .i64 0)) (qab (p_mv rfl)) (qae (qad ?_))
  refine qas ?_
  obtain ⟨o_3, hl_1, z6⟩ := qac z5
  obtain ⟨n_1, hl_1⟩ := hM.loop _ _ _ hl_1
  refine qbe (qbs _ (g29_I0 v0 s1 v20) (g29_J0 v0 s1 v20) ?_ n_1 _ _ _ _ hl_1 ⟨rfl, gl rfl, gl rfl, gl g0, gl g1, gl rfl⟩) ?_
  ·clear z6 hl_1
   intro s mm_7 t_1 o hi hr
   obtain ⟨x9, x10, m_3⟩ := s
   obtain ⟨rfl, g9, g10, g0, g1, g8⟩ := hi
   unfold g29_b0 at hr
   refine w_seq (w_seq (w_ops (qaa (qab (p_mv g10)) (qaa (qab (p_mv g1)) ?_))))
   obtain ⟨v23, e23, z7⟩ := qac hr
   obtain ⟨x23, rfl, z8⟩ := qaj z7
   refine qaa (qab (o_len rfl e23)) ?_
   obtain ⟨c24, e24, z9⟩ := qaf z8
   refine qaa (qab (p_bin rfl rfl (b_lss.trans (cb e24)))) (qae (qad ?_))
   rcases qai z9 with ⟨rfl, z10⟩ | ⟨rfl, z10⟩
   ·refine qaq rfl ?_
    refine qaz (qad (w_seq ?_))
    refine qas ?_
    refine w_seq (w_ops (qaa (qab (p_mv g1)) (qaa (qab (p_mv g10)) ?_)))
    obtain ⟨v29, e29, z11⟩ := qac z10
    obtain ⟨x29, rfl, z12⟩ := qaj z11
    refine qaa (qab (qdp rfl rfl e29)) ?_
    obtain ⟨x30, e30, z13⟩ := qah z12
    refine qaa (qab (p_bin rfl rfl (b_sub.trans (ci e30)))) ?_
    obtain ⟨x31, e31, z14⟩ := qah z13
    refine qaa (qab ((p_conv rfl).trans (ci e31))) (qaa (v := (.i .i64 x31)) (qab (p_mv rfl)) (qae (qad (w_seq (w_seq (w_ops (qaa (v := (.i .i64 0)) (qab (p_mv rfl)) (qae (qad ?_)))))))))
    refine qas ?_
    obtain ⟨o_2, hl, z15⟩ := qac z14
    obtain ⟨n, hl⟩ := hM.loop _ _ _ hl
    refine qbe (qbs _ (g29_I1 v0 s1 v20 x9 x10 x31) (g29_J1 v0 s1 v20 x9 x10 x31) ?_ n _ _ _ _ hl ⟨rfl, gl rfl, gl g0, gl g1, gl g8, gl g9, gl g10, gl rfl⟩) ?_
    ·clear z15 hl
     intro s mm_4 t_2 o hi hr
     obtain ⟨x12, m_4⟩ := s
     obtain ⟨rfl, g12, g0, g1, g8, g9, g10, g11⟩ := hi
     unfold g29_b1 at hr
     refine w_seq (w_seq (w_ops (qaa (qab (p_mv g12)) (qaa (qab (p_mv g0)) ?_))))
     obtain ⟨v34, e34, z16⟩ := qac hr
     obtain ⟨x34, rfl, z17⟩ := qaj z16
     refine qaa (qab (o_len rfl e34)) ?_
     obtain ⟨c35, e35, z18⟩ := qaf z17
     refine qaa (qab (p_bin rfl rfl (b_lss.trans (cb e35)))) (qae (qad ?_))
     rcases qai z18 with ⟨rfl, z19⟩ | ⟨rfl, z19⟩
     ·refine qaq rfl ?_
      refine qaz (qad (w_seq ?_))
      refine qas ?_
      refine w_seq (w_ops (qaa (qab (p_mv g12)) (qaa (qab (p_mv g11)) ?_)))
      obtain ⟨c40, e40, z20⟩ := qaf z19
      refine qaa (qab (p_bin rfl rfl (b_eql.trans (cb e40)))) (qaa (v := (.b c40)) (qab (p_mv rfl)) ?_)
      obtain ⟨o, z21, hk⟩ := qac z20
      refine qbz 8 (g29_J2 v0 s1 v20 x9 x10 x31 x12 m_4 o) ?_ ?_
      ·clear hk
       rcases qai z21 with ⟨rfl, z22⟩ | ⟨rfl, z22⟩
       ·refine qam (v := (.b true)) rfl rfl (qam (v := (.b true)) rfl rfl (qam (v := (.b true)) rfl rfl (qam (v := (.b true)) rfl rfl (qam (v := (.b true)) rfl rfl (qam (v := (.b true)) rfl rfl (qam (v := (.b true)) rfl rfl (qaa (v := (.b true)) (qab (qbv rfl rfl)) (qae ?_))))))))
        cases z22
        exact ⟨_, _, rfl, rfl, gl rfl, gl g0, gl g1, gl g8, gl g9, gl g10, gl g11, gl g12⟩
       ·refine qan (v := v20) rfl (qab (p_mv g8)) (qan (v := (.i .i64 x31)) rfl (qab (p_mv g11)) ?_)
        obtain ⟨v44, e44, z23⟩ := qac z22
        refine qan (v := v44) rfl (qab (o_ixS rfl rfl e44)) ?_
        obtain ⟨v45, e45, z24⟩ := qac z23
        refine qan (v := v45) rfl (s_ld rfl e45) (qan (v := (.i .i64 x12)) rfl (qab (p_mv g12)) ?_)
        obtain ⟨v47, e47, z25⟩ := qac z24
        refine qan (v := v47) rfl (qab (o_ixS rfl rfl e47)) ?_
        obtain ⟨v48, e48, z26⟩ := qac z25
        obtain ⟨c48, rfl, z27⟩ := qbp z26
        refine qan (v := (.b c48)) rfl (s_ld rfl e48) (qaa (v := (.b c48)) (qab (qbw rfl rfl)) (qae ?_))
        cases z27
        exact ⟨_, _, rfl, rfl, gl rfl, gl g0, gl g1, gl g8, gl g9, gl g10, gl g11, gl g12⟩
      ·clear z21
       have hr := hk
       clear hk
       obtain ⟨c49, ho⟩ : ∃ z, z = o := ⟨_, rfl⟩
       subst ho
       rintro mm t_3 ⟨rfl, g49, g0, g1, g8, g9, g10, g11, g12⟩
       refine qaa (qab (p_mv g49)) ?_
       obtain ⟨o_1, z28, hk⟩ := qac hr
       refine qbz 6 (g29_J3 v0 s1 v20 x9 x10 x31 x12 o_1) ?_ ?_
       ·clear hk
        rcases qai z28 with ⟨rfl, z29⟩ | ⟨rfl, z29⟩
        ·refine qan (v := v0) rfl (qab (p_mv g0)) (qan (v := v20) rfl (qab (p_mv g8)) (qan (v := (.i .i64 x12)) rfl (qab (p_mv g12)) ?_))
         obtain ⟨v54, m_6, e54, z30⟩ := qag z29
         obtain ⟨x54, rfl, z31⟩ := qaj z30
         refine qan (v := (.i .i64 x54)) rfl (qbi (mc rfl (mc rfl (mc rfl mn))) (qav hM.call e54)) ?_
         obtain ⟨c55, e55, z32⟩ := qaf z31
         refine qan (v := (.b c55)) rfl (qab (p_bin rfl rfl (b_gtr.trans (cb e55)))) (qaa (v := (.b c55)) (qab (qbv rfl rfl)) (qae ?_))
         cases z32
         exact ⟨_, _, rfl, rfl, gl rfl, gl g0, gl g1, gl g8, gl g9, gl g10, gl g11, gl g12⟩
        ·refine qam (v := (.b false)) rfl rfl (qam (v := (.b false)) rfl rfl (qam (v := (.b false)) rfl rfl (qam (v := (.b false)) rfl rfl (qam (v := (.b false)) rfl rfl (qaa (v := (.b false)) (qab (qbw rfl rfl)) (qae ?_))))))
         cases z29
         exact ⟨_, _, rfl, rfl, gl rfl, gl g0, gl g1, gl g8, gl g9, gl g10, gl g11, gl g12⟩
       ·clear z28
        have hr := hk
        clear hk
        obtain ⟨c56, m_5⟩ := o_1
        rintro mm_1 t_4 ⟨rfl, g56, g0, g1, g8, g9, g10, g11, g12⟩
        refine qae (qad ?_)
        rcases qai hr with ⟨rfl, z33⟩ | ⟨rfl, z33⟩
        ·refine qaq g56 ?_
         refine w_seq (w_ops (qaa (v := (.i .i64 3)) (qab (p_mv rfl)) (qaa (v := (.i .i64 0)) (qab (p_mv rfl)) (qaa (v := (.i .i64 0)) (qab (p_mv rfl)) (qae (qad ?_))))))
         refine w_ret ?_
         refine qcj ?_
         refine qbm ?_
         cases z33
         exact ⟨_, _, rfl, qca, rfl, rfl, gl rfl, gl rfl, gl rfl⟩
        ·refine qar g56 ?_
         refine qaz ?_
         refine qbh ?_
         refine qad (w_ops (qaa (qab (p_mv g12)) ?_))
         obtain ⟨x37, e37, z34⟩ := qah z33
         refine qaa (qab (p_bin rfl rfl (b_add.trans (ci e37)))) (qaa (v := (.i .i64 x37)) (qab (p_mv rfl)) (qae ?_))
         cases z34
         exact ⟨_, _, rfl, rfl, rfl, gl rfl, gl g0, gl g1, gl g8, gl g9, gl g10, gl g11⟩
     ·refine qar rfl ?_
      refine qbt ?_
      refine qbk ?_
      cases z19
      exact ⟨_, _, rfl, qap, rfl, rfl, gl g0, gl g1, gl g8, gl g9, gl g10, gl g11⟩
    ·rcases o_2 with o_2 | o_2
     ·obtain ⟨m_7, ho⟩ : ∃ z, z = o_2 := ⟨_, rfl⟩
      subst ho
      rintro _ mm_2 t_5 ⟨rfl, rfl, g0, g1, g8, g9, g10, g11⟩
      refine qbu ?_
      refine qad (w_ops (qaa (qab (p_mv g9)) (qaa (qab (p_mv g0)) (qaa (qab (p_mv g8)) (qaa (qab (p_mv g11)) ?_)))))
      obtain ⟨v61, m_8, e61, z35⟩ := qag z15
      obtain ⟨x61, rfl, z36⟩ := qaj z35
      refine qaa (qbi (mc rfl (mc rfl (mc rfl mn))) (qav hM.call e61)) ?_
      obtain ⟨x62, e62, z37⟩ := qah z36
      refine qaa (qab ((p_mx rfl rfl).trans (ci e62))) (qaa (v := (.i .i64 x62)) (qab (p_mv rfl)) (qae ?_))
      refine qbh ?_
      refine qad (w_ops (qaa (qab (p_mv g10)) ?_))
      obtain ⟨x26, e26, z38⟩ := qah z37
      refine qaa (qab (p_bin rfl rfl (b_add.trans (ci e26)))) (qaa (v := (.i .i64 x26)) (qab (p_mv rfl)) (qae ?_))
      cases z38
      exact ⟨_, _, rfl, rfl, rfl, gl rfl, gl rfl, gl g0, gl g1, gl g8⟩
     ·obtain ⟨x4, x5, x6, m_9⟩ := o_2
      rintro _ mm_3 t_6 ⟨rfl, rfl, g4, g5, g6⟩
      refine qcj ?_
      refine qbm ?_
      refine qcj ?_
      refine qbm ?_
      cases z15
      exact ⟨_, _, rfl, qca, rfl, rfl, gl g4, gl g5, gl g6⟩
   ·refine qar rfl ?_
    refine qbt ?_
    refine qbk ?_
    cases z10
    exact ⟨_, _, rfl, qap, rfl, rfl, gl g9⟩
  ·rcases o_3 with o_3 | o_3
   ·obtain ⟨x9_1, m_10⟩ := o_3
    rintro _ mm_5 t_7 ⟨rfl, rfl, g9⟩
    refine qbu ?_
    refine qad (w_seq (w_seq (w_ops (qaa (qab (p_mv g9)) (qae (qad ?_))))))
    refine qas ?_
    refine w_seq (w_ops ?_)
    obtain ⟨c65, e65, z39⟩ := qaf z6
    refine qaa (qab (p_bin rfl rfl (b_eql.trans (cb e65)))) (qaa (v := (.b c65)) (qab (p_mv rfl)) (qae (qad ?_)))
    rcases qai z39 with ⟨rfl, z40⟩ | ⟨rfl, z40⟩
    ·refine qaq rfl ?_
     refine w_seq (w_ops (qaa (v := (.i .i64 0)) (qab (p_mv rfl)) (qaa (v := (.i .i64 0)) (qab (p_mv rfl)) (qaa (v := (.i .i64 0)) (qab (p_mv rfl)) (qae (qad ?_))))))
     refine w_ret ?_
     refine qcj ?_
     refine qbm ?_
     exact qf qba (rt rfl (rt rfl (rt rfl rn))) z40
    ·refine qar rfl ?_
     refine w_seq (w_ops ?_)
     obtain ⟨c67, e67, z41⟩ := qaf z40
     refine qaa (qab (p_bin rfl rfl (b_eql.trans (cb e67)))) (qaa (v := (.b c67)) (qab (p_mv rfl)) (qae (qad ?_)))
     rcases qai z41 with ⟨rfl, z42⟩ | ⟨rfl, z42⟩
     ·refine qaq rfl ?_
      refine w_seq (w_ops (qaa (v := (.i .i64 1)) (qab (p_mv rfl)) (qaa (v := (.i .i64 0)) (qab (p_mv rfl)) (qaa (v := (.i .i64 0)) (qab (p_mv rfl)) (qae (qad ?_))))))
      refine w_ret ?_
      refine qcj ?_
      refine qbm ?_
      exact qf qba (rt rfl (rt rfl (rt rfl rn))) z42
     ·refine qar rfl ?_
      refine qaz ?_
      refine qbh ?_
      refine qad (w_seq (w_ops (qaa (qab (p_mv g9)) ?_)))
      obtain ⟨x69, e69, z43⟩ := qah z42
      refine qaa (qab (p_bin rfl rfl (b_sub.trans (ci e69)))) (qaa (v := (.i .i64 2)) (qab (p_mv rfl)) (qaa (v := (.i .i64 x69)) (qab (p_mv rfl)) (qaa (v := (.i .i64 0)) (qab (p_mv rfl)) (qae (qad ?_)))))
      refine w_ret ?_
      exact qf qba (rt rfl (rt rfl (rt rfl rn))) z43
   ·obtain ⟨x4_1, x5_1, x6_1, m_11⟩ := o_3
    rintro _ mm_6 t_8 ⟨rfl, rfl, g4, g5, g6⟩
    refine qcj ?_
    refine qbm ?_
    exact qf qba (rt g4 (rt g5 (rt g6 rn))) z6
/- dibber/vine.Factors -/
abbrev g38_J0 (x2 : Int) (v20 : AVal) (x21 : Int) (m_1 : Mm) (o : Bool) (m1 : Mm) (t1 : Tr) : Prop :=
 match o with
 | c31 => m_1 = m1 ∧ t1.get 31 = (.b c31) ∧ t1.get 2 = (.i .i64 x2) ∧ t1.get 8 = v20 ∧ t1.get 9 = (.i .i64 x21)
abbrev k38a0 : ACode := (.ops [(.mk (some 13) none (.pure (.mv (.t 36))))])
abbrev k38c0 : ACode := (.block 1 (.ops [(.mk (some 37) none (.ld true 1 (.t 11))), (.mk (some 38) none (.pure (.mv (.t 13)))), (.mk (some 39) none (.bsl 5 1 [(.i .u8 0)] 1 [((0, 1), (.t 38))])), (.mk (some 40) none (.app 5 1 1 [(.i .u8 0)] (.t 37) (.t 39))), (.mk none none (.st 1 (.t 11) (.t 40)))]))
abbrev g38_P0 (v11 : AVal) (t1 : Tr) : Prop := True ∧ t1.get 11 = v11
def g38_r0 (M : Means) (ro : List ABlk) (v11 : AVal) (b : Nat) (v35 : AVal) (v36 : AVal) (m0 : Mm) : Option (AVal × Heap × Nat × Nat) :=
 bindO (rndB b m0) fun m_4 =>
 bindO (ldM ro m_4 true 1 v11) fun v37 =>
 bindP (stepM ro m_4 (.bsl 5 1 [(AVal.i IntKind.u8 0)] 1 [((0, 1), .c v36)])) fun v39 m_5 =>
 bindP (stepM ro m_5 (.app 5 1 1 [(AVal.i IntKind.u8 0)] (.c v37) (.c v39))) fun v40 m_6 =>
 bindP (stepM ro m_6 (.st 1 (.c v11) (.c v40))) fun vn m_7 =>
 rndE m0.h.length b .norm m_7
abbrev g38_I1 (x2 : Int) (v11 : AVal) (v41 : AVal) (s : Int × Mm) (m1 : Mm) (t1 : Tr) : Prop :=
 match s with
 | (x15, m_10) => m_10 = m1 ∧ t1.get 15 = (.i .i64 x15) ∧ t1.get 2 = (.i .i64 x2) ∧ t1.get 11 = v11 ∧ t1.get 14 = v41
abbrev g38_J1 (x2 : Int) (v11 : AVal) (v41 : AVal) (o : Mm) (e : AExit) (m1 : Mm) (t1 : Tr) : Prop :=
 match o with
 | mo => e = (.exit 2) ∧ mo = m1 ∧ t1.get 14 = v41
def g38_b1 (M : Means) (ro : List ABlk) (x2 : Int) (v11 : AVal) (v41 : AVal) (x15 : Int) (m_10 : Mm) : Option ((Int × Mm) ⊕ (Mm)) :=
 bindO (ldM ro m_10 true 1 v11) fun v44 =>
 bindO (evP .e (.len false (.c v44))) fun v45 =>
 asI .i64 v45 fun x45 =>
 qau (!ltI x45 x15) fun c46 =>
 cond c46 (
  bindO (ldM ro m_10 true 1 v11) fun v50 =>
  qaw (wr .i64 (x15 - x2)) fun x53 =>
  bindO (evP .e (.slS 1 (.c v50) (some (.c (.i .i64 x53))) (some (.c (.i .i64 x15))) none)) fun v55 =>
  bindO (btsM ro m_10 v55) fun v56 =>
  asS v56 fun s56 =>
  bindP (stepM ro m_10 (.mup (.c v41) (.c (.s s56)) (.c (.b true)))) fun vn_1 m_11 =>
  qaw (wr .i64 (x15 + 1)) fun x48 =>
  some (.inl (x48, m_11))) (
  some (.inr m_10))
noncomputable def g38 (M : Means) (ro : List ABlk) (v0 : AVal) (s1 : List UInt8) (x2 : Int) (m0 : Mm) : Option (AVal × Heap × Nat × Nat) :=
 bindP (callM M.call m0 74 [v0, (.s s1)]) fun v19 m_1 =>
 bindO (evP .e (.ext 0 (.c v19))) fun v20 =>
 bindO (evP .e (.ext 1 (.c v19))) fun v21 =>
 asI .i64 v21 fun x21 =>
 bindO (evP .e (.ext 2 (.c v19))) fun v22 =>
 asI .i64 v22 fun x22 =>
 qau (!eqI x22 0) fun c24 =>
 cond c24 (
  finM m0.h.length (tupA [(.i .i64 0), (.i .i64 x22)]) m_1) (
  qau (ltI x2 1) fun c27 =>
  bindO (cond c27 (
   some true) (
   qau (ltI 10 x2) fun c30 =>
   some c30)) fun c31 =>
  cond c31 (
   finM m0.h.length (tupA [(.i .i64 0), (.i .i64 2)]) m_1) (
   bindP (stepM ro m_1 (.al 52 [AVal.nsl])) fun v11 m_2 =>
   bindP (callM M.call m_2 75 [v20, (.i .i64 x21)]) fun v34 m_3 =>
   rngK M.call (g38_P0 v11) [35, 36] k38a0 k38c0 v34 m_3 fun ⟨ex, m_8⟩ => onE ex (
    bindP (stepM ro m_8 .mkm) fun v41 m_9 =>
    bindO (M.loop (S := Int × Mm) (R := Mm) (fun s => g38_b1 M ro x2 v11 v41 s.1 s.2) (x2, m_9)) fun m_12 =>
    bindP (stepM ro m_12 (.mln (.c v41))) fun v58 m_13 =>
    asI .i64 v58 fun x58 =>
    finM m0.h.length (tupA [(.i .i64 x58), (.i .i64 0)]) m_13) (
    none) (fun ix =>
    none)))
theorem g38_r0_ok {ro : List ABlk} {O : qao} {M : Means} (hM : M.Ok ⟨F, O⟩ ro) {v11} {v35} {v36} {b h r bk t p} (hb : lget h b = some (some bk)) (hg : bk.g = some (.lp ⟨t, [35, 36], k38a0, k38c0⟩ .ready p)) (hP : g38_P0 v11 t) (hr : g38_r0 M ro v11 b v35 v36 ⟨h, h.length, h.length⟩ = some r) : qdx ⟨F, O⟩ ro b [v35, v36] h = some r := by
 refine roundX_on (F := ⟨F, O⟩) (g := g38_r0 M ro v11 b v35 v36) hb hg rfl hr ?_
 clear hb hg hr
 intro m0 t0 ht hr
 obtain ⟨-, g11⟩ := hP
 have g35 : t0.get 35 = v35 := by rw [ht]; simp [putPs, qdl]
 have g36 : t0.get 36 = v36 := by rw [ht]; simp [putPs, qdl]
 have g11 : t0.get 11 = v11 := by rw [ht]; simp only [putPs, qdl]; simpa using g11
 clear ht
 unfold g38_r0 at hr
 show W _ _ k38a0 _ _
 unfold k38a0
 refine w_ops (qaa (qab (p_mv g36)) (qae ?_))
 obtain ⟨m_4, eb, z1⟩ := qac hr
 refine qb eb ?_
 unfold k38c0
 refine qas ?_
 refine w_ops ?_
 obtain ⟨v37, e37, z2⟩ := qac z1
 refine qaa (s_ld g11 e37) (qaa (v := v36) (qab (p_mv rfl)) ?_)
 obtain ⟨v39, m_5, e39, z3⟩ := qag z2
 refine qaa (s_bsl (qc rfl qn) e39) ?_
 obtain ⟨v40, m_6, e40, z4⟩ := qag z3
 refine qaa (s_app rfl rfl e40) ?_
 obtain ⟨vn, m_7, en, z5⟩ := qag z4
 refine qdz (s_st g11 rfl en) ?_
 refine qae ?_
 refine qbh ?_
 exact z5

theorem g38_ok {ro : List ABlk} {O : qao} {M : Means} (hM : M.Ok ⟨F, O⟩ ro) {v0 s1 x2 h r} (ho : O 38 [v0, (.s s1), (.i .i64 x2)] h = none) (hr : g38 M ro v0 s1 x2 ⟨h, h.length, h.length⟩ = some r) : callX ⟨F, O⟩ ro 38 [v0, (.s s1), (.i .i64 x2)] h = some r := by
 refine qbd (F := ⟨F, O⟩) (fn := fn38) (g := g38 M ro v0 s1 x2) ho rfl rfl hr ?_
 clear ho
 clear hr
 intro m0 t0 ht hr
 have g0 : t0.get 0 = v0 := ht 0
 have g1 : t0.get 1 = (.s s1) := ht 1
 have g2 : t0.get 2 = (.i .i64 x2) := ht 2
 clear ht
 unfold g38 at hr
 refine w_seq (w_ops (qaa (v := (.i .i64 0)) (qab (p_mv rfl)) (qaa (v := (.i .i64 0)) (qab (p_mv rfl)) (qae (qad (w_seq (w_ops (qaa (qab (p_mv g0)) (qaa (qab (p_mv g1)) ?_)))))))))
 obtain ⟨v19, m_1, e19, z1⟩ := qag hr
 refine qaa (qbi (mc rfl (mc rfl mn)) (qav hM.call e19)) (qaa (v := v19) (qab (p_mv rfl)) ?_)
 obtain ⟨v20, e20, z2⟩ := qac z1
 refine qaa (qab (o_ext rfl e20)) ?_
 obtain ⟨v21, e21, z3⟩ := qac z2
 obtain ⟨x21, rfl, z4⟩ := qaj z3
 refine qaa (qab (o_ext rfl e21)) ?_
 obtain ⟨v22, e22, z5⟩ := qac z4
 obtain ⟨x22, rfl, z6⟩ := qaj z5
 refine qaa (qab (o_ext rfl e22)) (qaa (v := v20) (qab (p_mv rfl)) (qaa (v := (.i .i64 x21)) (qab (p_mv rfl)) (qaa (v := (.i .i64 x22)) (qab (p_mv rfl)) (qae (qad (w_seq (w_seq (w_ops (qaa (v := (.i .i64 x22)) (qab (p_mv rfl)) ?_)))))))))
 obtain ⟨c24, e24, z7⟩ := qaf z6
 refine qaa (qab (p_bin rfl rfl (b_neq.trans (cb e24)))) (qae (qad ?_))
 rcases qai z7 with ⟨rfl, z8⟩ | ⟨rfl, z8⟩
 ·refine qaq rfl ?_
  refine w_seq (w_ops (qaa (v := (.i .i64 x22)) (qab (p_mv rfl)) (qaa (v := (.i .i64 0)) (qab (p_mv rfl)) (qaa (v := (.i .i64 x22)) (qab (p_mv rfl)) (qae (qad ?_))))))
  refine w_ret ?_
  refine qbm ?_
  exact qf qba (rt rfl (rt rfl rn)) z8
 ·refine qar rfl ?_
  refine qaz (qad (w_seq (w_seq (w_ops (qaa (qab (p_mv g2)) ?_)))))
  obtain ⟨c27, e27, z9⟩ := qaf z8
  refine qaa (qab (p_bin rfl rfl (b_lss.trans (cb e27)))) (qaa (v := (.b c27)) (qab (p_mv rfl)) ?_)
  obtain ⟨o, z10, hk⟩ := qac z9
  refine qbz 3 (g38_J0 x2 v20 x21 m_1 o) ?_ ?_
  ·clear hk
   rcases qai z10 with ⟨rfl, z11⟩ | ⟨rfl, z11⟩
   ·refine qam (v := (.b true)) rfl rfl (qam (v := (.b true)) rfl rfl (qaa (v := (.b true)) (qab (qbv rfl rfl)) (qae ?_)))
    cases z11
    exact ⟨_, _, rfl, rfl, gl rfl, gl g2, gl rfl, gl rfl⟩
   ·refine qan (v := (.i .i64 x2)) rfl (qab (p_mv g2)) ?_
    obtain ⟨c30, e30, z12⟩ := qaf z11
    refine qan (v := (.b c30)) rfl (qab (p_bin rfl rfl (b_gtr.trans (cb e30)))) (qaa (v := (.b c30)) (qab (qbw rfl rfl)) (qae ?_))
    cases z12
    exact ⟨_, _, rfl, rfl, gl rfl, gl g2, gl rfl, gl rfl⟩
  ·clear z10
   have hr := hk
   clear hk
   obtain ⟨c31, ho⟩ : ∃ z, z = o := ⟨_, rfl⟩
   subst ho
   rintro mm t_1 ⟨rfl, g31, g2, g8, g9⟩
   refine qae (qad ?_)
   rcases qai hr with ⟨rfl, z13⟩ | ⟨rfl, z13⟩
   ·refine qaq g31 ?_
    refine w_seq (w_ops (qaa (v := (.i .i64 0)) (qab (p_mv rfl)) (qaa (v := (.i .i64 2)) (qab (p_mv rfl)) (qae (qad ?_)))))
    refine w_ret ?_
    refine qbm ?_
    exact qf qba (rt rfl (rt rfl rn)) z13
   ·refine qar g31 ?_
    refine qaz (qad (w_seq (w_ops ?_)))
    obtain ⟨v11, m_2, e11, z14⟩ := qag z13
    refine qaa (s_al e11) (qae (qad (w_seq (w_seq (w_ops (qaa (qab (p_mv g8)) (qaa (qab (p_mv g9)) ?_)))))))
    obtain ⟨v34, m_3, e34, z15⟩ := qag z14
    refine qaa (qbi (mc rfl (mc rfl mn)) (qav hM.call e34)) (qae (qad ?_))
    refine qas ?_
    refine w_rngK hM.call rfl z15 ⟨trivial, gl rfl⟩ ?_
    clear z15
    intro ex m_8 hr
    rcases onE_inv hr with ⟨rfl, z16⟩ | ⟨rfl, z16⟩ | ⟨ix, rfl, z16⟩
    ·refine qbh ?_
     refine qad (w_seq (w_ops ?_))
     obtain ⟨v41, m_9, e41, z17⟩ := qag z16
     refine qaa (s_mkm e41) (qaa (v := v41) (qab (p_mv rfl)) (qae (qad (w_seq (w_seq (w_ops (qaa (qab (p_mv g2)) (qaa (v := (.i .i64 x2)) (qab (p_mv rfl)) (qae (qad ?_))))))))))
     refine qas ?_
     obtain ⟨o_1, hl, z18⟩ := qac z17
     obtain ⟨n, hl⟩ := hM.loop _ _ _ hl
     refine qbe (qbs _ (g38_I1 x2 v11 v41) (g38_J1 x2 v11 v41) ?_ n _ _ _ _ hl ⟨rfl, gl rfl, gl g2, gl rfl, gl rfl⟩) ?_
     ·clear z18 hl
      intro s mm_2 t_2 o hi hr
      obtain ⟨x15, m_10⟩ := s
      obtain ⟨rfl, g15, g2, g11, g14⟩ := hi
      unfold g38_b1 at hr
      refine w_seq (w_seq (w_ops (qaa (qab (p_mv g15)) ?_)))
      obtain ⟨v44, e44, z19⟩ := qac hr
      refine qaa (s_ld g11 e44) ?_
      obtain ⟨v45, e45, z20⟩ := qac z19
      obtain ⟨x45, rfl, z21⟩ := qaj z20
      refine qaa (qab (o_len rfl e45)) ?_
      obtain ⟨c46, e46, z22⟩ := qaf z21
      refine qaa (qab (p_bin rfl rfl (b_leq.trans (cb e46)))) (qae (qad ?_))
      rcases qai z22 with ⟨rfl, z23⟩ | ⟨rfl, z23⟩
      ·refine qaq rfl ?_
       refine qaz (qad (w_seq ?_))
       refine qas ?_
       refine w_ops (qaa (qab (p_mv g14)) ?_)
       obtain ⟨v50, e50, z24⟩ := qac z23
       refine qaa (s_ld g11 e50) (qaa (qab (p_mv g15)) (qaa (qab (p_mv g2)) ?_))
       obtain ⟨x53, e53, z25⟩ := qah z24
       refine qaa (qab (p_bin rfl rfl (b_sub.trans (ci e53)))) (qaa (qab (p_mv g15)) ?_)
       obtain ⟨v55, e55, z26⟩ := qac z25
       refine qaa (qab (o_slS rfl (os rfl) (os rfl) on e55)) ?_
       obtain ⟨v56, e56, z27⟩ := qac z26
       obtain ⟨s56, rfl, z28⟩ := qcc z27
       refine qaa (s_bts rfl e56) ?_
       obtain ⟨vn_1, m_11, en_1, z29⟩ := qag z28
       refine qdz (s_mup rfl rfl rfl en_1) ?_
       refine qae ?_
       refine qbh ?_
       refine qad (w_ops (qaa (qab (p_mv g15)) ?_))
       obtain ⟨x48, e48, z30⟩ := qah z29
       refine qaa (qab (p_bin rfl rfl (b_add.trans (ci e48)))) (qaa (v := (.i .i64 x48)) (qab (p_mv rfl)) (qae ?_))
       cases z30
       exact ⟨_, _, rfl, rfl, rfl, gl rfl, gl g2, gl g11, gl g14⟩
      ·refine qar rfl ?_
       refine qbt ?_
       refine qbk ?_
       cases z23
       exact ⟨_, _, rfl, qap, rfl, rfl, gl g14⟩
     ·obtain ⟨m_12, ho⟩ : ∃ z, z = o_1 := ⟨_, rfl⟩
      subst ho
      rintro _ mm_1 t_3 ⟨rfl, rfl, g14⟩
      refine qbu ?_
      refine qad (w_seq (w_ops (qaa (qab (p_mv g14)) ?_)))
      obtain ⟨v58, m_13, e58, z31⟩ := qag z18
      obtain ⟨x58, rfl, z32⟩ := qaj z31
      refine qaa (s_mln rfl e58) (qaa (v := (.i .i64 x58)) (qab (p_mv rfl)) (qaa (v := (.i .i64 0)) (qab (p_mv rfl)) (qae (qad ?_))))
      refine w_ret ?_
      exact qf qba (rt rfl (rt rfl rn)) z32
    ·cases z16
    ·cases z16
/- dibber/dibberref03.Shoot -/
abbrev g42_J0 (x7 : Int) (o : Bool × Mm) (m1 : Mm) (t1 : Tr) : Prop :=
 match o with
 | (c20, m_2) => m_2 = m1 ∧ t1.get 20 = (.b c20) ∧ t1.get 5 = (.i .i64 x7)
abbrev g42_J1 (x7 : Int) (o : Bool × Mm) (m1 : Mm) (t1 : Tr) : Prop :=
 match o with
 | (c20_1, m_3) => m_3 = m1 ∧ t1.get 20 = (.b c20_1) ∧ t1.get 5 = (.i .i64 x7)
abbrev g42_J2 (m_2 : Mm) (o : Int) (e : AExit) (m1 : Mm) (t1 : Tr) : Prop :=
 match o with
 | y5 => e = .norm ∧ m_2 = m1 ∧ t1.get 5 = (.i .i64 y5)
def g42 (M : Means) (ro : List ABlk) (v0 : AVal) (s1 : List UInt8) (m0 : Mm) : Option (AVal × Heap × Nat × Nat) :=
 bindP (callM M.call m0 46 [v0]) fun v7 m_1 =>
 asI .i64 v7 fun x7 =>
 qau (eqI x7 0) fun c9 =>
 bindO (cond c9 (
  bindO (evP .e (.len true (.c (.s s1)))) fun v12 =>
  asI .i64 v12 fun x12 =>
  qau (ltI 30 x12) fun c13 =>
  bindO (cond c13 (
   some (true, m_1)) (
   bindP (callM M.call m_1 85 [v0, (.s s1)]) fun v17 m_4 =>
   asB v17 fun c17 =>
   qau (!c17) fun c18 =>
   some (c18, m_4))) fun ⟨c20_1, m_3⟩ =>
  some (c20_1, m_3)) (
  some (false, m_1))) fun ⟨c20, m_2⟩ =>
 bindO (α := Int) (
  cond c20 (
   some 5) (
   some x7)) fun x5 =>
 finM m0.h.length (tupA [(.i .i64 x5)]) m_2
theorem g42_ok {ro : List ABlk} {O : qao} {M : Means} (hM : M.Ok ⟨F, O⟩ ro) {v0 s1 h r} (ho : O 42 [v0, (.s s1)] h = none) (hr : g42 M ro v0 s1 ⟨h, h.length, h.length⟩ = some r) : callX ⟨F, O⟩ ro 42 [v0, (.s s1)] h = some r := by
 refine qbd (F := ⟨F, O⟩) (fn := fn42) (g := g42 M ro v0 s1) ho rfl rfl hr ?_
 clear ho
 clear hr
 intro m0 t0 ht hr
 have g0 : t0.get 0 = v0 := ht 0
 have g1 : t0.get 1 = (.s s1) := ht 1
 clear ht
 unfold g42 at hr
 refine w_seq (w_ops (qaa (v := (.i .i64 0)) (qab (p_mv rfl)) (qae (qad (w_seq (w_ops (qaa (qab (p_mv g0)) ?_)))))))
 obtain ⟨v7, m_1, e7, z1⟩ := qag hr
 obtain ⟨x7, rfl, z2⟩ := qaj z1
 refine qaa (qbi (mc rfl mn) (qav hM.call e7)) (qaa (v := (.i .i64 x7)) (qab (p_mv rfl)) (qae (qad (w_seq (w_seq (w_ops (qaa (v := (.i .i64 x7)) (qab (p_mv rfl)) ?_)))))))
 obtain ⟨c9, e9, z3⟩ := qaf z2
 refine qaa (qab (p_bin rfl rfl (b_eql.trans (cb e9)))) (qaa (v := (.b c9)) (qab (p_mv rfl)) ?_)
 obtain ⟨o, z4, hk⟩ := qac z3
 refine qbz 10 (g42_J0 x7 o) ?_ ?_
 ·clear hk
  rcases qai z4 with ⟨rfl, z5⟩ | ⟨rfl, z5⟩
  ·refine qan (v := (.s s1)) rfl (qab (p_mv g1)) ?_
   obtain ⟨v12, e12, z6⟩ := qac z5
   obtain ⟨x12, rfl, z7⟩ := qaj z6
   refine qan (v := (.i .i64 x12)) rfl (qab (o_len rfl e12)) ?_
   obtain ⟨c13, e13, z8⟩ := qaf z7
   refine qan (v := (.b c13)) rfl (qab (p_bin rfl rfl (b_gtr.trans (cb e13)))) (qan (v := (.b c13)) rfl (qab (p_mv rfl)) ?_)
   obtain ⟨o_1, z9, hk⟩ := qac z8
   refine qbz 6 (g42_J1 x7 o_1) ?_ ?_
   ·clear hk
    rcases qai z9 with ⟨rfl, z10⟩ | ⟨rfl, z10⟩
    ·refine qam (v := (.b true)) rfl rfl (qam (v := (.b true)) rfl rfl (qam (v := (.b true)) rfl rfl (qam (v := (.b true)) rfl rfl (qan (v := (.b true)) rfl (qab (qbv rfl rfl)) (qaa (v := (.b true)) (qab (qbv rfl rfl)) (qae ?_))))))
     cases z10
     exact ⟨_, _, rfl, rfl, gl rfl, gl rfl⟩
    ·refine qan (v := v0) rfl (qab (p_mv g0)) (qan (v := (.s s1)) rfl (qab (p_mv g1)) ?_)
     obtain ⟨v17, m_4, e17, z11⟩ := qag z10
     obtain ⟨c17, rfl, z12⟩ := qbp z11
     refine qan (v := (.b c17)) rfl (qbi (mc rfl (mc rfl mn)) (qav hM.call e17)) ?_
     obtain ⟨c18, e18, z13⟩ := qaf z12
     refine qan (v := (.b c18)) rfl (qab ((p_not rfl).trans (cb e18))) (qan (v := (.b c18)) rfl (qab (qbw rfl rfl)) (qaa (v := (.b c18)) (qab (qbv rfl rfl)) (qae ?_)))
     cases z13
     exact ⟨_, _, rfl, rfl, gl rfl, gl rfl⟩
   ·clear z9
    have hr := hk
    clear hk
    obtain ⟨c20_1, m_3⟩ := o_1
    rintro mm t_1 ⟨rfl, g20, g5⟩
    refine qae ?_
    cases hr
    exact ⟨_, _, rfl, rfl, gl g20, gl g5⟩
  ·refine qam (v := (.b false)) rfl rfl (qam (v := (.b false)) rfl rfl (qam (v := (.b false)) rfl rfl (qam (v := (.b false)) rfl rfl (qam (v := und) rfl rfl (qam (v := und) rfl rfl (qam (v := und) rfl rfl (qam (v := und) rfl rfl (qam (v := (.b false)) rfl rfl (qaa (v := (.b false)) (qab (qbw rfl rfl)) (qae ?_))))))))))
   cases z5
   exact ⟨_, _, rfl, rfl, gl rfl, gl rfl⟩
 ·clear z4
  have hr := hk
  clear hk
  obtain ⟨c20, m_2⟩ := o
  rintro mm_1 t_2 ⟨rfl, g20, g5⟩
  refine qae (qad ?_)
  obtain ⟨o_2, z14, hk⟩ := qac hr
  refine qbe (J := g42_J2 m_2 o_2) ?_ ?_
  ·clear hk
   rcases qai z14 with ⟨rfl, z15⟩ | ⟨rfl, z15⟩
   ·refine qaq g20 ?_
    refine w_ops (qaa (v := (.i .i64 5)) (qab (p_mv rfl)) (qae ?_))
    cases z15
    exact ⟨_, _, rfl, rfl, rfl, gl rfl⟩
   ·refine qar g20 ?_
    refine qaz ?_
    cases z15
    exact ⟨_, _, rfl, rfl, rfl, gl g5⟩
  ·clear z14
   have hr := hk
   clear hk
   obtain ⟨x5, ho⟩ : ∃ z, z = o_2 := ⟨_, rfl⟩
   subst ho
   rintro _ mm_2 t_3 ⟨rfl, rfl, g5⟩
   refine qad (w_seq (w_ops (qaa (qab (p_mv g5)) (qaa (v := (.i .i64 x5)) (qab (p_mv rfl)) (qae (qad ?_))))))
   refine w_ret ?_
   exact qf qba (rt rfl rn) hr
/- dibber/dibberref03.Vine -/
abbrev g46_J0 (v0 : AVal) (m0 : Mm) (o : Bool) (m1 : Mm) (t1 : Tr) : Prop :=
 match o with
 | c11 => m0 = m1 ∧ t1.get 11 = (.b c11) ∧ t1.get 0 = v0
abbrev g46_I1 (v0 : AVal) (s : Int × Mm) (m1 : Mm) (t1 : Tr) : Prop :=
 match s with
 | (x3, m_1) => m_1 = m1 ∧ t1.get 3 = (.i .i64 x3) ∧ t1.get 0 = v0
abbrev g46_J1 (v0 : AVal) (o : (Mm ⊕ (Int × Mm))) (e : AExit) (m1 : Mm) (t1 : Tr) : Prop :=
 match o with
 | (.inl mo) => e = (.exit 0) ∧ mo = m1
 | (.inr (y2, mo)) => e = .ret ∧ mo = m1 ∧ t1.get 2 = (.i .i64 y2)
abbrev g46_J2 (v0 : AVal) (x3 : Int) (o : Bool × Mm) (m1 : Mm) (t1 : Tr) : Prop :=
 match o with
 | (c32, m_2) => m_2 = m1 ∧ t1.get 32 = (.b c32) ∧ t1.get 0 = v0 ∧ t1.get 3 = (.i .i64 x3)
def g46_b1 (M : Means) (ro : List ABlk) (v0 : AVal) (x3 : Int) (m_1 : Mm) : Option ((Int × Mm) ⊕ ((Mm ⊕ (Int × Mm)))) :=
 bindO (evP .e (.len false (.c v0))) fun v14 =>
 asI .i64 v14 fun x14 =>
 qau (ltI x3 x14) fun c15 =>
 cond c15 (
  bindO (evP .e (.ixS 1 (.c v0) (.c (.i .i64 x3)))) fun v20 =>
  bindO (ldM ro m_1 true 1 v20) fun v21 =>
  asS v21 fun s21 =>
  bindO (evP .e (.len true (.c (.s s21)))) fun v22 =>
  asI .i64 v22 fun x22 =>
  qau (ltI 8 x22) fun c23 =>
  bindO (cond c23 (
   some (true, m_1)) (
   bindO (evP .e (.ixS 1 (.c v0) (.c (.i .i64 x3)))) fun v28 =>
   bindO (ldM ro m_1 true 1 v28) fun v29 =>
   asS v29 fun s29 =>
   bindP (callM M.call m_1 85 [v0, (.s s29)]) fun v30 m_3 =>
   asB v30 fun c30 =>
   qau (!c30) fun c31 =>
   some (c31, m_3))) fun ⟨c32, m_2⟩ =>
  cond c32 (
   some (.inr (.inr (5, m_2)))) (
   qaw (wr .i64 (x3 + 1)) fun x17 =>
   some (.inl (x17, m_2)))) (
  some (.inr (.inl m_1)))
def g46 (M : Means) (ro : List ABlk) (v0 : AVal) (m0 : Mm) : Option (AVal × Heap × Nat × Nat) :=
 bindO (evP .e (.len false (.c v0))) fun v5 =>
 asI .i64 v5 fun x5 =>
 qau (ltI x5 1) fun c6 =>
 bindO (cond c6 (
  some true) (
  bindO (evP .e (.len false (.c v0))) fun v9 =>
  asI .i64 v9 fun x9 =>
  qau (ltI 6 x9) fun c10 =>
  some c10)) fun c11 =>
 cond c11 (
  finM m0.h.length (tupA [(.i .i64 2)]) m0) (
  bindO (M.loop (S := Int × Mm) (R := (Mm ⊕ (Int × Mm))) (fun s => g46_b1 M ro v0 s.1 s.2) (0, m0)) fun o_2 => match o_2 with
  | (.inl m_4) =>
   finM m0.h.length (tupA [(.i .i64 0)]) m_4
  | (.inr (x2, m_5)) =>
   finM m0.h.length (tupA [(.i .i64 x2)]) m_5)
theorem g46_ok {ro : List ABlk} {O : qao} {M : Means} (hM : M.Ok ⟨F, O⟩ ro) {v0 h r} (ho : O 46 [v0] h = none) (hr : g46 M ro v0 ⟨h, h.length, h.length⟩ = some r) : callX ⟨F, O⟩ ro 46 [v0] h = some r := by
 refine qbd (F := ⟨F, O⟩) (fn := fn46) (g := g46 M ro v0) ho rfl rfl hr ?_
 clear ho
 clear hr
 intro m0 t0 ht hr
 have g0 : t0.get 0 = v0 := ht 0
 clear ht
 unfold g46 at hr
 refine w_seq (w_ops (qaa (v := (.i .i64 0)) (qab (p_mv rfl)) (qae (qad (w_seq (w_seq (w_ops (qaa (qab (p_mv g0)) ?_))))))))
 obtain ⟨v5, e5, z1⟩ := qac hr
 obtain ⟨x5, rfl, z2⟩ := qaj z1
 refine qaa (qab (o_len rfl e5)) ?_
 obtain ⟨c6, e6, z3⟩ := qaf z2
 refine qaa (qab (p_bin rfl rfl (b_lss.trans (cb e6)))) (qaa (v := (.b c6)) (qab (p_mv rfl)) ?_)
 obtain ⟨o, z4, hk⟩ := qac z3
 refine qbz 4 (g46_J0 v0 m0 o) ?_ ?_
 ·clear hk
  rcases qai z4 with ⟨rfl, z5⟩ | ⟨rfl, z5⟩
  ·refine qam (v := (.b true)) rfl rfl (qam (v := (.b true)) rfl rfl (qam (v := (.b true)) rfl rfl (qaa (v := (.b true)) (qab (qbv rfl rfl)) (qae ?_))))
   cases z5
   exact ⟨_, _, rfl, rfl, gl rfl, gl g0⟩
  ·refine qan (v := v0) rfl (qab (p_mv g0)) ?_
   obtain ⟨v9, e9, z6⟩ := qac z5
   obtain ⟨x9, rfl, z7⟩ := qaj z6
   refine qan (v := (.i .i64 x9)) rfl (qab (o_len rfl e9)) ?_
   obtain ⟨c10, e10, z8⟩ := qaf z7
   refine qan (v := (.b c10)) rfl (qab (p_bin rfl rfl (b_gtr.trans (cb e10)))) (qaa (v := (.b c10)) (qab (qbw rfl rfl)) (qae ?_))
   cases z8
   exact ⟨_, _, rfl, rfl, gl rfl, gl g0⟩
 ·clear z4
  have hr := hk
  clear hk
  obtain ⟨c11, ho⟩ : ∃ z, z = o := ⟨_, rfl⟩
  subst ho
  rintro mm t_1 ⟨rfl, g11, g0⟩
  refine qae (qad ?_)
  rcases qai hr with ⟨rfl, z9⟩ | ⟨rfl, z9⟩
  ·refine qaq g11 ?_
   refine w_seq (w_ops (qaa (v := (.i .i64 2)) (qab (p_mv rfl)) (qae (qad ?_))))
   refine w_ret ?_
   refine qbm ?_
   exact qf qba (rt rfl rn) z9
  ·refine qar g11 ?_
   refine qaz (qad (w_seq (w_seq (w_ops (qaa (v := (.i .i64 0)) (qab (p_mv rfl)) (qae (qad ?_)))))))
   refine qas ?_
   obtain ⟨o_2, hl, z10⟩ := qac z9
   obtain ⟨n, hl⟩ := hM.loop _ _ _ hl
   refine qbe (qbs _ (g46_I1 v0) (g46_J1 v0) ?_ n _ _ _ _ hl ⟨rfl, gl rfl, gl g0⟩) ?_
   ·clear z10 hl
    intro s mm_4 t_2 o hi hr
    obtain ⟨x3, m_1⟩ := s
    obtain ⟨rfl, g3, g0⟩ := hi
    unfold g46_b1 at hr
    refine w_seq (w_seq (w_ops (qaa (qab (p_mv g3)) (qaa (qab (p_mv g0)) ?_))))
    obtain ⟨v14, e14, z11⟩ := qac hr
    obtain ⟨x14, rfl, z12⟩ := qaj z11
    refine qaa (qab (o_len rfl e14)) ?_
    obtain ⟨c15, e15, z13⟩ := qaf z12
    refine qaa (qab (p_bin rfl rfl (b_lss.trans (cb e15)))) (qae (qad ?_))
    rcases qai z13 with ⟨rfl, z14⟩ | ⟨rfl, z14⟩
    ·refine qaq rfl ?_
     refine qaz (qad (w_seq ?_))
     refine qas ?_
     refine w_seq (w_ops (qaa (qab (p_mv g0)) (qaa (qab (p_mv g3)) ?_)))
     obtain ⟨v20, e20, z15⟩ := qac z14
     refine qaa (qab (o_ixS rfl rfl e20)) ?_
     obtain ⟨v21, e21, z16⟩ := qac z15
     obtain ⟨s21, rfl, z17⟩ := qcc z16
     refine qaa (s_ld rfl e21) ?_
     obtain ⟨v22, e22, z18⟩ := qac z17
     obtain ⟨x22, rfl, z19⟩ := qaj z18
     refine qaa (qab (o_len rfl e22)) ?_
     obtain ⟨c23, e23, z20⟩ := qaf z19
     refine qaa (qab (p_bin rfl rfl (b_gtr.trans (cb e23)))) (qaa (v := (.b c23)) (qab (p_mv rfl)) ?_)
     obtain ⟨o_1, z21, hk⟩ := qac z20
     refine qbz 8 (g46_J2 v0 x3 o_1) ?_ ?_
     ·clear hk
      rcases qai z21 with ⟨rfl, z22⟩ | ⟨rfl, z22⟩
      ·refine qam (v := (.b true)) rfl rfl (qam (v := (.b true)) rfl rfl (qam (v := (.b true)) rfl rfl (qam (v := (.b true)) rfl rfl (qam (v := (.b true)) rfl rfl (qam (v := (.b true)) rfl rfl (qam (v := (.b true)) rfl rfl (qaa (v := (.b true)) (qab (qbv rfl rfl)) (qae ?_))))))))
       cases z22
       exact ⟨_, _, rfl, rfl, gl rfl, gl g0, gl g3⟩
      ·refine qan (v := v0) rfl (qab (p_mv g0)) (qan (v := v0) rfl (qab (p_mv g0)) (qan (v := (.i .i64 x3)) rfl (qab (p_mv g3)) ?_))
       obtain ⟨v28, e28, z23⟩ := qac z22
       refine qan (v := v28) rfl (qab (o_ixS rfl rfl e28)) ?_
       obtain ⟨v29, e29, z24⟩ := qac z23
       obtain ⟨s29, rfl, z25⟩ := qcc z24
       refine qan (v := (.s s29)) rfl (s_ld rfl e29) ?_
       obtain ⟨v30, m_3, e30, z26⟩ := qag z25
       obtain ⟨c30, rfl, z27⟩ := qbp z26
       refine qan (v := (.b c30)) rfl (qbi (mc rfl (mc rfl mn)) (qav hM.call e30)) ?_
       obtain ⟨c31, e31, z28⟩ := qaf z27
       refine qan (v := (.b c31)) rfl (qab ((p_not rfl).trans (cb e31))) (qaa (v := (.b c31)) (qab (qbw rfl rfl)) (qae ?_))
       cases z28
       exact ⟨_, _, rfl, rfl, gl rfl, gl g0, gl g3⟩
     ·clear z21
      have hr := hk
      clear hk
      obtain ⟨c32, m_2⟩ := o_1
      rintro mm_1 t_3 ⟨rfl, g32, g0, g3⟩
      refine qae (qad ?_)
      rcases qai hr with ⟨rfl, z29⟩ | ⟨rfl, z29⟩
      ·refine qaq g32 ?_
       refine w_seq (w_ops (qaa (v := (.i .i64 5)) (qab (p_mv rfl)) (qae (qad ?_))))
       refine w_ret ?_
       refine qcj ?_
       refine qbm ?_
       cases z29
       exact ⟨_, _, rfl, qca, rfl, rfl, gl rfl⟩
      ·refine qar g32 ?_
       refine qaz ?_
       refine qbh ?_
       refine qad (w_ops (qaa (qab (p_mv g3)) ?_))
       obtain ⟨x17, e17, z30⟩ := qah z29
       refine qaa (qab (p_bin rfl rfl (b_add.trans (ci e17)))) (qaa (v := (.i .i64 x17)) (qab (p_mv rfl)) (qae ?_))
       cases z30
       exact ⟨_, _, rfl, rfl, rfl, gl rfl, gl g0⟩
    ·refine qar rfl ?_
     refine qbt ?_
     refine qbk ?_
     cases z14
     exact ⟨_, _, rfl, qap, rfl, rfl⟩
   ·rcases o_2 with o_2 | o_2
    ·obtain ⟨m_4, ho⟩ : ∃ z, z = o_2 := ⟨_, rfl⟩
     subst ho
     rintro _ mm_2 t_4 ⟨rfl, rfl⟩
     refine qbu ?_
     refine qad (w_seq (w_ops (qaa (v := (.i .i64 0)) (qab (p_mv rfl)) (qae (qad ?_)))))
     refine w_ret ?_
     exact qf qba (rt rfl rn) z10
    ·obtain ⟨x2, m_5⟩ := o_2
     rintro _ mm_3 t_5 ⟨rfl, rfl, g2⟩
     refine qcj ?_
     refine qbm ?_
     exact qf qba (rt g2 rn) z10
/- (dibber/vine.rules).lengths -/
abbrev g48_I0 (x1 : Int) (v10 : AVal) (v13 : AVal) (x15 : Int) (s : Int × Mm) (m1 : Mm) (t1 : Tr) : Prop :=
 match s with
 | (x16, m_3) => m_3 = m1 ∧ t1.get 16 = (.i .i64 x16) ∧ t1.get 1 = (.i .i64 x1) ∧ t1.get 5 = v10 ∧ t1.get 6 = v13 ∧ t1.get 15 = (.i .i64 x15)
abbrev g48_J0 (x1 : Int) (v10 : AVal) (v13 : AVal) (x15 : Int) (o : Mm) (e : AExit) (m1 : Mm) (t1 : Tr) : Prop :=
 match o with
 | mo => e = (.exit 0) ∧ mo = m1 ∧ t1.get 1 = (.i .i64 x1) ∧ t1.get 5 = v10 ∧ t1.get 6 = v13
def g48_b0 (M : Means) (ro : List ABlk) (x1 : Int) (v10 : AVal) (v13 : AVal) (x15 : Int) (x16 : Int) (m_3 : Mm) : Option ((Int × Mm) ⊕ (Mm)) :=
 qau (ltI x16 x15) fun c17 =>
 cond c17 (
  bindO (evP .e (.ixS 1 (.c v13) (.c (.i .i64 x16)))) fun v21 =>
  bindP (stepM ro m_3 (.st 1 (.c v21) (.c (.i .u64 1)))) fun vn m_4 =>
  qaw (wr .i64 (x16 + 1)) fun x22 =>
  some (.inl (x22, m_4))) (
  some (.inr m_3))
abbrev g48_I1 (v10 : AVal) (x1 : Int) (s : AVal × AVal × Int × Mm) (m1 : Mm) (t1 : Tr) : Prop :=
 match s with
 | (v6, v8, x26, m_7) => m_7 = m1 ∧ t1.get 6 = v6 ∧ t1.get 8 = v8 ∧ t1.get 26 = (.i .i64 x26) ∧ t1.get 5 = v10 ∧ t1.get 25 = (.i .i64 x1)
abbrev g48_J1 (v10 : AVal) (x1 : Int) (o : (AVal × Mm)) (e : AExit) (m1 : Mm) (t1 : Tr) : Prop :=
 match o with
 | (y8, mo) => e = (.exit 2) ∧ mo = m1 ∧ t1.get 8 = y8
def g48_b1 (M : Means) (ro : List ABlk) (v10 : AVal) (x1 : Int) (v6 : AVal) (v8 : AVal) (x26 : Int) (m_7 : Mm) : Option ((AVal × AVal × Int × Mm) ⊕ ((AVal × Mm))) :=
 qau (ltI x26 x1) fun c27 =>
 cond c27 (
  bindP (stepM ro m_7 (.bsl 63 1 [AVal.nsl] 1 [((0, 1), .c v6)])) fun v29 m_8 =>
  bindP (callM M.call m_8 57 [v29, v10]) fun v31 m_9 =>
  bindO (evP .e (.ixS 1 (.c v31) (.c (.i .i64 0)))) fun v32 =>
  bindO (ldM ro m_9 true 1 v32) fun v33 =>
  bindP (stepM ro m_9 (.bsl 63 1 [AVal.nsl] 1 [((0, 1), .c v33)])) fun v36 m_10 =>
  bindP (stepM ro m_10 (.app 63 1 24 [AVal.nsl] (.c v8) (.c v36))) fun v37 m_11 =>
  qaw (wr .i64 (x26 + 1)) fun x38 =>
  some (.inl (v33, v37, x38, m_11))) (
  some (.inr (v8, m_7)))
def g48 (M : Means) (ro : List ABlk) (v0 : AVal) (x1 : Int) (m0 : Mm) : Option (AVal × Heap × Nat × Nat) :=
 bindP (callM M.call m0 55 [v0, (AVal.fn 56 [] [])]) fun v10 m_1 =>
 bindO (evP .e (.len false (.c v0))) fun v12 =>
 asI .i64 v12 fun x12 =>
 bindP (stepM ro m_1 (.mk 61 1 8 [(AVal.i IntKind.u64 0)] (.c (.i .i64 x12)) (.c (.i .i64 x12)))) fun v13 m_2 =>
 bindO (evP .e (.len false (.c v13))) fun v15 =>
 asI .i64 v15 fun x15 =>
 bindO (M.loop (S := Int × Mm) (R := Mm) (fun s => g48_b0 M ro x1 v10 v13 x15 s.1 s.2) (0, m_2)) fun m_5 =>
 bindP (stepM ro m_5 (.bsl 63 1 [AVal.nsl] 1 [((0, 1), .c v13)])) fun v24 m_6 =>
 bindO (M.loop (S := AVal × AVal × Int × Mm) (R := (AVal × Mm)) (fun s => g48_b1 M ro v10 x1 s.1 s.2.1 s.2.2.1 s.2.2.2) (v13, v24, 0, m_6)) fun ⟨v8_1, m_12⟩ =>
 finM m0.h.length (tupA [v8_1]) m_12
theorem g48_ok {ro : List ABlk} {O : qao} {M : Means} (hM : M.Ok ⟨F, O⟩ ro) {v0 x1 h r} (ho : O 48 [v0, (.i .i64 x1)] h = none) (hr : g48 M ro v0 x1 ⟨h, h.length, h.length⟩ = some r) : callX ⟨F, O⟩ ro 48 [v0, (.i .i64 x1)] h = some r := by
 refine qbd (F := ⟨F, O⟩) (fn := fn48) (g := g48 M ro v0 x1) ho rfl rfl hr ?_
 clear ho
 clear hr
 intro m0 t0 ht hr
 have g0 : t0.get 0 = v0 := ht 0
 have g1 : t0.get 1 = (.i .i64 x1) := ht 1
 clear ht
 unfold g48 at hr
 refine w_seq (w_ops (qaa (v := AVal.nsl) (qab (p_mv rfl)) (qae (qad (w_seq (w_ops (qaa (qab (p_mv g0)) ?_)))))))
 obtain ⟨v10, m_1, e10, z1⟩ := qag hr
 refine qaa (qbi (mc rfl (mc rfl mn)) (qav hM.call e10)) (qaa (v := v10) (qab (p_mv rfl)) (qae (qad (w_seq (w_ops (qaa (qab (p_mv g0)) ?_))))))
 obtain ⟨v12, e12, z2⟩ := qac z1
 obtain ⟨x12, rfl, z3⟩ := qaj z2
 refine qaa (qab (o_len rfl e12)) ?_
 obtain ⟨v13, m_2, e13, z4⟩ := qag z3
 refine qaa (s_mk rfl rfl e13) (qaa (v := v13) (qab (p_mv rfl)) (qae (qad (w_seq (w_seq (w_ops (qaa (v := v13) (qab (p_mv rfl)) ?_)))))))
 obtain ⟨v15, e15, z5⟩ := qac z4
 obtain ⟨x15, rfl, z6⟩ := qaj z5
 refine qaa (qab (o_len rfl e15)) (qaa (v := (.i .i64 0)) (qab (p_mv rfl)) (qae (qad ?_)))
 refine qas ?_
 obtain ⟨o, hl_1, z7⟩ := qac z6
 obtain ⟨n_1, hl_1⟩ := hM.loop _ _ _ hl_1
 refine qbe (qbs _ (g48_I0 x1 v10 v13 x15) (g48_J0 x1 v10 v13 x15) ?_ n_1 _ _ _ _ hl_1 ⟨rfl, gl rfl, gl g1, gl rfl, gl rfl, gl rfl⟩) ?_
 ·clear z7 hl_1
  intro s mm_3 t_1 o hi hr
  obtain ⟨x16, m_3⟩ := s
  obtain ⟨rfl, g16, g1, g5, g6, g15⟩ := hi
  unfold g48_b0 at hr
  refine w_seq (w_ops ?_)
  obtain ⟨c17, e17, z8⟩ := qaf hr
  refine qaa (qab (p_bin g16 g15 (b_lss.trans (cb e17)))) (qae (qad (w_seq ?_)))
  rcases qai z8 with ⟨rfl, z9⟩ | ⟨rfl, z9⟩
  ·refine qaq rfl ?_
   refine qaz (qad (w_seq ?_))
   refine qas ?_
   refine w_seq (w_ops (qaa (qab (p_mv g16)) (qaa (v := (.i .i64 x16)) (qab (p_mv rfl)) (qae (qad (w_ops (qaa (qab (p_mv g6)) (qaa (v := (.i .i64 x16)) (qab (p_mv rfl)) ?_))))))))
   obtain ⟨v21, e21, z10⟩ := qac z9
   refine qaa (qab (o_ixS rfl rfl e21)) ?_
   obtain ⟨vn, m_4, en, z11⟩ := qag z10
   refine qdz (s_st rfl rfl en) ?_
   refine qae ?_
   refine qbh ?_
   refine qad (w_ops ?_)
   obtain ⟨x22, e22, z12⟩ := qah z11
   refine qaa (qab (p_bin g16 rfl (b_add.trans (ci e22)))) (qaa (v := (.i .i64 x22)) (qab (p_mv rfl)) (qae ?_))
   cases z12
   exact ⟨_, _, rfl, rfl, rfl, gl rfl, gl g1, gl g5, gl g6, gl g15⟩
  ·refine qar rfl ?_
   refine qbt ?_
   refine qbk ?_
   cases z9
   exact ⟨_, _, rfl, qap, rfl, rfl, gl g1, gl g5, gl g6⟩
 ·obtain ⟨m_5, ho⟩ : ∃ z, z = o := ⟨_, rfl⟩
  subst ho
  rintro _ mm_2 t_2 ⟨rfl, rfl, g1, g5, g6⟩
  refine qbu ?_
  refine qad (w_seq (w_ops (qaa (qab (p_mv g6)) ?_)))
  obtain ⟨v24, m_6, e24, z13⟩ := qag z7
  refine qaa (s_bsl (qc rfl qn) e24) (qaa (v := v24) (qab (p_mv rfl)) (qae (qad (w_seq (w_seq (w_ops (qaa (qab (p_mv g1)) (qaa (v := (.i .i64 0)) (qab (p_mv rfl)) (qae (qad ?_))))))))))
  refine qas ?_
  obtain ⟨o_1, hl, z14⟩ := qac z13
  obtain ⟨n, hl⟩ := hM.loop _ _ _ hl
  refine qbe (qbs _ (g48_I1 v10 x1) (g48_J1 v10 x1) ?_ n _ _ _ _ hl ⟨rfl, gl g6, gl rfl, gl rfl, gl g5, gl rfl⟩) ?_
  ·clear z14 hl
   intro s mm_1 t_3 o hi hr
   obtain ⟨v6, v8, x26, m_7⟩ := s
   obtain ⟨rfl, g6, g8, g26, g5, g25⟩ := hi
   unfold g48_b1 at hr
   refine w_seq (w_ops ?_)
   obtain ⟨c27, e27, z15⟩ := qaf hr
   refine qaa (qab (p_bin g26 g25 (b_lss.trans (cb e27)))) (qae (qad (w_seq ?_)))
   rcases qai z15 with ⟨rfl, z16⟩ | ⟨rfl, z16⟩
   ·refine qaq rfl ?_
    refine qaz (qad (w_seq ?_))
    refine qas ?_
    refine w_seq (w_ops (qaa (qab (p_mv g6)) ?_))
    obtain ⟨v29, m_8, e29, z17⟩ := qag z16
    refine qaa (s_bsl (qc rfl qn) e29) (qaa (qab (p_mv g5)) ?_)
    obtain ⟨v31, m_9, e31, z18⟩ := qag z17
    refine qaa (qbi (mc rfl (mc rfl mn)) (qav hM.call e31)) ?_
    obtain ⟨v32, e32, z19⟩ := qac z18
    refine qaa (qab (o_ixS rfl rfl e32)) ?_
    obtain ⟨v33, e33, z20⟩ := qac z19
    refine qaa (s_ld rfl e33) (qaa (v := v33) (qab (p_mv rfl)) (qae (qad (w_ops (qaa (qab (p_mv g8)) (qaa (v := v33) (qab (p_mv rfl)) ?_))))))
    obtain ⟨v36, m_10, e36, z21⟩ := qag z20
    refine qaa (s_bsl (qc rfl qn) e36) ?_
    obtain ⟨v37, m_11, e37, z22⟩ := qag z21
    refine qaa (s_app rfl rfl e37) (qaa (v := v37) (qab (p_mv rfl)) (qae ?_))
    refine qbh ?_
    refine qad (w_ops ?_)
    obtain ⟨x38, e38, z23⟩ := qah z22
    refine qaa (qab (p_bin g26 rfl (b_add.trans (ci e38)))) (qaa (v := (.i .i64 x38)) (qab (p_mv rfl)) (qae ?_))
    cases z23
    exact ⟨_, _, rfl, rfl, rfl, gl rfl, gl rfl, gl rfl, gl g5, gl g25⟩
   ·refine qar rfl ?_
    refine qbt ?_
    refine qbk ?_
    cases z16
    exact ⟨_, _, rfl, qap, rfl, rfl, gl g8⟩
  ·obtain ⟨v8_1, m_12⟩ := o_1
   rintro _ mm t_4 ⟨rfl, rfl, g8⟩
   refine qbu ?_
   refine qad (w_seq (w_ops (qaa (qab (p_mv g8)) (qaa (v := v8_1) (qab (p_mv rfl)) (qae (qad ?_))))))
   refine w_ret ?_
   exact qf qba (rt rfl rn) z14
/- dibber/vine.long -/
abbrev g49_I0 (v0 : AVal) (s1 : List UInt8) (x8 : Int) (s : Int × Int × Mm) (m1 : Mm) (t1 : Tr) : Prop :=
 match s with
 | (x5, x9, m_1) => m_1 = m1 ∧ t1.get 5 = (.i .u64 x5) ∧ t1.get 9 = (.i .i64 x9) ∧ t1.get 0 = v0 ∧ t1.get 1 = (.s s1) ∧ t1.get 8 = (.i .i64 x8)
abbrev g49_J0 (v0 : AVal) (s1 : List UInt8) (x8 : Int) (o : (Int × Mm)) (e : AExit) (m1 : Mm) (t1 : Tr) : Prop :=
 match o with
 | (y5, mo) => e = (.exit 0) ∧ mo = m1 ∧ t1.get 5 = (.i .u64 y5)
def g49_b0 (M : Means) (ro : List ABlk) (v0 : AVal) (s1 : List UInt8) (x8 : Int) (x5 : Int) (x9 : Int) (m_1 : Mm) : Option ((Int × Int × Mm) ⊕ ((Int × Mm))) :=
 qau (ltI x9 x8) fun c10 =>
 cond c10 (
  bindO (evP .e (.ixStr (.c (.s s1)) (.c (.i .i64 x9)))) fun v16 =>
  asI .u8 v16 fun x16 =>
  bindP (callM M.call m_1 54 [(.i .u8 x16)]) fun v17 m_2 =>
  asI .i64 v17 fun x17 =>
  bindO (evP .e (.ixS 1 (.c v0) (.c (.i .i64 x17)))) fun v18 =>
  bindO (ldM ro m_2 true 1 v18) fun v19 =>
  asI .u64 v19 fun x19 =>
  bindP (callM M.call m_2 86 [(.i .u64 x5), (.i .u64 x19)]) fun v20 m_3 =>
  asI .u64 v20 fun x20 =>
  qaw (wr .i64 (x9 + 1)) fun x21 =>
  some (.inl (x20, x21, m_3))) (
  some (.inr (x5, m_1)))
def g49 (M : Means) (ro : List ABlk) (v0 : AVal) (s1 : List UInt8) (m0 : Mm) : Option (AVal × Heap × Nat × Nat) :=
 bindO (evP .e (.len true (.c (.s s1)))) fun v8 =>
 asI .i64 v8 fun x8 =>
 bindO (M.loop (S := Int × Int × Mm) (R := (Int × Mm)) (fun s => g49_b0 M ro v0 s1 x8 s.1 s.2.1 s.2.2) (0, 0, m0)) fun ⟨x5_1, m_4⟩ =>
 finM m0.h.length (tupA [(.i .u64 x5_1)]) m_4
theorem g49_ok {ro : List ABlk} {O : qao} {M : Means} (hM : M.Ok ⟨F, O⟩ ro) {v0 s1 h r} (ho : O 49 [v0, (.s s1)] h = none) (hr : g49 M ro v0 s1 ⟨h, h.length, h.length⟩ = some r) : callX ⟨F, O⟩ ro 49 [v0, (.s s1)] h = some r := by
 refine qbd (F := ⟨F, O⟩) (fn := fn49) (g := g49 M ro v0 s1) ho rfl rfl hr ?_
 clear ho
 clear hr
 intro m0 t0 ht hr
 have g0 : t0.get 0 = v0 := ht 0
 have g1 : t0.get 1 = (.s s1) := ht 1
 clear ht
 unfold g49 at hr
 refine w_seq (w_ops (qaa (v := (.i .u64 0)) (qab (p_mv rfl)) (qae (qad (w_seq (w_ops (qaa (v := (.i .u64 0)) (qab (p_mv rfl)) (qae (qad (w_seq (w_seq ?_)))))))))))
 refine w_ops (qaa (qab (p_mv g1)) ?_)
 obtain ⟨v8, e8, z1⟩ := qac hr
 obtain ⟨x8, rfl, z2⟩ := qaj z1
 refine qaa (qab (o_len rfl e8)) (qaa (v := (.i .i64 0)) (qab (p_mv rfl)) (qae (qad ?_)))
 refine qas ?_
 obtain ⟨o, hl, z3⟩ := qac z2
 obtain ⟨n, hl⟩ := hM.loop _ _ _ hl
 refine qbe (qbs _ (g49_I0 v0 s1 x8) (g49_J0 v0 s1 x8) ?_ n _ _ _ _ hl ⟨rfl, gl rfl, gl rfl, gl g0, gl g1, gl rfl⟩) ?_
 ·clear z3 hl
  intro s mm_1 t_1 o hi hr
  obtain ⟨x5, x9, m_1⟩ := s
  obtain ⟨rfl, g5, g9, g0, g1, g8⟩ := hi
  unfold g49_b0 at hr
  refine w_seq (w_ops ?_)
  obtain ⟨c10, e10, z4⟩ := qaf hr
  refine qaa (qab (p_bin g9 g8 (b_lss.trans (cb e10)))) (qae (qad (w_seq ?_)))
  rcases qai z4 with ⟨rfl, z5⟩ | ⟨rfl, z5⟩
  ·refine qaq rfl ?_
   refine qaz (qad (w_seq ?_))
   refine qas ?_
   refine w_seq (w_ops (qaa (qab (p_mv g9)) (qaa (v := (.i .i64 x9)) (qab (p_mv rfl)) (qae (qad (w_ops (qaa (qab (p_mv g5)) (qaa (qab (p_mv g0)) (qaa (qab (p_mv g1)) (qaa (v := (.i .i64 x9)) (qab (p_mv rfl)) ?_))))))))))
   obtain ⟨v16, e16, z6⟩ := qac z5
   obtain ⟨x16, rfl, z7⟩ := qaj z6
   refine qaa (qab (qdp rfl rfl e16)) ?_
   obtain ⟨v17, m_2, e17, z8⟩ := qag z7
   obtain ⟨x17, rfl, z9⟩ := qaj z8
   refine qaa (qbi (mc rfl mn) (qav hM.call e17)) ?_
   obtain ⟨v18, e18, z10⟩ := qac z9
   refine qaa (qab (o_ixS rfl rfl e18)) ?_
   obtain ⟨v19, e19, z11⟩ := qac z10
   obtain ⟨x19, rfl, z12⟩ := qaj z11
   refine qaa (s_ld rfl e19) ?_
   obtain ⟨v20, m_3, e20, z13⟩ := qag z12
   obtain ⟨x20, rfl, z14⟩ := qaj z13
   refine qaa (qbi (mc rfl (mc rfl mn)) (qav hM.call e20)) (qaa (v := (.i .u64 x20)) (qab (p_mv rfl)) (qae ?_))
   refine qbh ?_
   refine qad (w_ops ?_)
   obtain ⟨x21, e21, z15⟩ := qah z14
   refine qaa (qab (p_bin g9 rfl (b_add.trans (ci e21)))) (qaa (v := (.i .i64 x21)) (qab (p_mv rfl)) (qae ?_))
   cases z15
   exact ⟨_, _, rfl, rfl, rfl, gl rfl, gl rfl, gl g0, gl g1, gl g8⟩
  ·refine qar rfl ?_
   refine qbt ?_
   refine qbk ?_
   cases z5
   exact ⟨_, _, rfl, qap, rfl, rfl, gl g5⟩
 ·obtain ⟨x5_1, m_4⟩ := o
  rintro _ mm t_2 ⟨rfl, rfl, g5⟩
  refine qbu ?_
  refine qad (w_seq (w_ops (qaa (qab (p_mv g5)) (qaa (v := (.i .u64 x5_1)) (qab (p_mv rfl)) (qae (qad ?_))))))
  refine w_ret ?_
  exact qf qba (rt rfl rn) z3
/- dibber/vine.part -/

def g54 (M : Means) (ro : List ABlk) (x0 : Int) (m0 : Mm) : Option (AVal × Heap × Nat × Nat) :=
 qaw (wr .i64 x0) fun x4 =>
 qaw (wr .i64 (x4 - 97)) fun x5 =>
 finM m0.h.length (tupA [(.i .i64 x5)]) m0
theorem g54_ok {ro : List ABlk} {O : qao} {M : Means} (hM : M.Ok ⟨F, O⟩ ro) {x0 h r} (ho : O 54 [(.i .u8 x0)] h = none) (hr : g54 M ro x0 ⟨h, h.length, h.length⟩ = some r) : callX ⟨F, O⟩ ro 54 [(.i .u8 x0)] h = some r := by
 refine qbd (F := ⟨F, O⟩) (fn := fn54) (g := g54 M ro x0) ho rfl rfl hr ?_
 clear ho
 clear hr
 intro m0 t0 ht hr
 have g0 : t0.get 0 = (.i .u8 x0) := ht 0
 clear ht
 unfold g54 at hr
 refine w_seq (w_ops (qaa (v := (.i .i64 0)) (qab (p_mv rfl)) (qae (qad (w_seq (w_ops (qaa (qab (p_mv g0)) ?_)))))))
 obtain ⟨x4, e4, z1⟩ := qah hr
 refine qaa (qab ((p_conv rfl).trans (ci e4))) ?_
 obtain ⟨x5, e5, z2⟩ := qah z1
 refine qaa (qab (p_bin rfl rfl (b_sub.trans (ci e5)))) (qaa (v := (.i .i64 x5)) (qab (p_mv rfl)) (qae (qad ?_)))
 refine w_ret ?_
 exact qf qba (rt rfl rn) z2
/- dibber/vine.matrix[dibber/vine.many] -/
abbrev g55_I0 (v0 : AVal) (v1 : AVal) (v11 : AVal) (x13 : Int) (s : Int × Mm) (m1 : Mm) (t1 : Tr) : Prop :=
 match s with
 | (x14, m_2) => m_2 = m1 ∧ t1.get 14 = (.i .i64 x14) ∧ t1.get 0 = v0 ∧ t1.get 1 = v1 ∧ t1.get 5 = v11 ∧ t1.get 13 = (.i .i64 x13)
abbrev g55_J0 (v0 : AVal) (v1 : AVal) (v11 : AVal) (x13 : Int) (o : Mm) (e : AExit) (m1 : Mm) (t1 : Tr) : Prop :=
 match o with
 | mo => e = (.exit 0) ∧ mo = m1 ∧ t1.get 5 = v11
abbrev g55_I1 (v0 : AVal) (v1 : AVal) (v11 : AVal) (x14 : Int) (x13 : Int) (x18 : Int) (s : Int × Mm) (m1 : Mm) (t1 : Tr) : Prop :=
 match s with
 | (x19, m_3) => m_3 = m1 ∧ t1.get 19 = (.i .i64 x19) ∧ t1.get 0 = v0 ∧ t1.get 1 = v1 ∧ t1.get 5 = v11 ∧ t1.get 6 = (.i .i64 x14) ∧ t1.get 13 = (.i .i64 x13) ∧ t1.get 14 = (.i .i64 x14) ∧ t1.get 17 = v0 ∧ t1.get 18 = (.i .i64 x18)
abbrev g55_J1 (v0 : AVal) (v1 : AVal) (v11 : AVal) (x14 : Int) (x13 : Int) (x18 : Int) (o : Mm) (e : AExit) (m1 : Mm) (t1 : Tr) : Prop :=
 match o with
 | mo => e = (.exit 2) ∧ mo = m1 ∧ t1.get 0 = v0 ∧ t1.get 1 = v1 ∧ t1.get 5 = v11 ∧ t1.get 13 = (.i .i64 x13) ∧ t1.get 14 = (.i .i64 x14)
def g55_b1 (M : Means) (ro : List ABlk) (v0 : AVal) (v1 : AVal) (v11 : AVal) (x14 : Int) (x13 : Int) (x18 : Int) (x19 : Int) (m_3 : Mm) : Option ((Int × Mm) ⊕ (Mm)) :=
 qau (ltI x19 x18) fun c20 =>
 cond c20 (
  bindO (evP .e (.ixS 1 (.c v0) (.c (.i .i64 x19)))) fun v21 =>
  bindO (ldM ro m_3 true 1 v21) fun v22 =>
  asS v22 fun s22 =>
  bindO (some (Mm.base m_3)) fun m_4 =>
  bindO (evP .e (.ixS 1 (.c v11) (.c (.i .i64 x14)))) fun v27 =>
  bindO (ldA ro m_3.h true 1 v27) fun v28 =>
  bindP (callM M.call m_4 89 [(.i .i64 x14)]) fun v32 m_5 =>
  asS v32 fun s32 =>
  chk (!Nat.blt m_5.lw m_3.h.length) <|
  bindP (callM M.call m_5 88 [(.s s22), (.s s32)]) fun v33 m_6 =>
  asI .i64 v33 fun x33 =>
  chk (!Nat.blt m_6.lw m_3.h.length) <|
  bindP (callvM M.call m_6 v1 [(.i .i64 x33)]) fun v34 m_7 =>
  asI .u64 v34 fun x34 =>
  chk (!Nat.blt m_7.lw m_3.h.length) <|
  bindP (stepM ro m_7 (.bsl 61 1 [(AVal.i IntKind.u64 0)] 1 [((0, 1), .c (.i .u64 x34))])) fun v35 m_8 =>
  chk (!Nat.blt m_8.lw m_3.h.length) <|
  bindP (stepM ro m_8 (.app 61 1 8 [(AVal.i IntKind.u64 0)] (.c v28) (.c v35))) fun v36 m_9 =>
  bindO (evP .e (.ixS 1 (.c v11) (.c (.i .i64 x14)))) fun v37 =>
  bindP (stepM ro m_9 (.st 1 (.c v37) (.c v36))) fun vn m_10 =>
  bindO (some (Mm.join m_3 m_10)) fun m_11 =>
  qaw (wr .i64 (x19 + 1)) fun x38 =>
  some (.inl (x38, m_11))) (
  some (.inr m_3))
def g55_b0 (M : Means) (ro : List ABlk) (v0 : AVal) (v1 : AVal) (v11 : AVal) (x13 : Int) (x14 : Int) (m_2 : Mm) : Option ((Int × Mm) ⊕ (Mm)) :=
 qau (ltI x14 x13) fun c15 =>
 cond c15 (
  bindO (evP .e (.len false (.c v0))) fun v18 =>
  asI .i64 v18 fun x18 =>
  bindO (M.loop (S := Int × Mm) (R := Mm) (fun s => g55_b1 M ro v0 v1 v11 x14 x13 x18 s.1 s.2) (0, m_2)) fun m_12 =>
  qaw (wr .i64 (x14 + 1)) fun x39 =>
  some (.inl (x39, m_12))) (
  some (.inr m_2))
def g55 (M : Means) (ro : List ABlk) (v0 : AVal) (v1 : AVal) (m0 : Mm) : Option (AVal × Heap × Nat × Nat) :=
 bindO (evP .e (.len false (.c v0))) fun v10 =>
 asI .i64 v10 fun x10 =>
 bindP (stepM ro m0 (.mk 63 1 24 [AVal.nsl] (.c (.i .i64 x10)) (.c (.i .i64 x10)))) fun v11 m_1 =>
 bindO (evP .e (.len false (.c v0))) fun v13 =>
 asI .i64 v13 fun x13 =>
 bindO (M.loop (S := Int × Mm) (R := Mm) (fun s => g55_b0 M ro v0 v1 v11 x13 s.1 s.2) (0, m_1)) fun m_13 =>
 finM m0.h.length (tupA [v11]) m_13
theorem g55_ok {ro : List ABlk} {O : qao} {M : Means} (hM : M.Ok ⟨F, O⟩ ro) {v0 v1 h r} (ho : O 55 [v0, v1] h = none) (hr : g55 M ro v0 v1 ⟨h, h.length, h.length⟩ = some r) : callX ⟨F, O⟩ ro 55 [v0, v1] h = some r := by
 refine qbd (F := ⟨F, O⟩) (fn := fn55) (g := g55 M ro v0 v1) ho rfl rfl hr ?_
 clear ho
 clear hr
 intro m0 t0 ht hr
 have g0 : t0.get 0 = v0 := ht 0
 have g1 : t0.get 1 = v1 := ht 1
 clear ht
 unfold g55 at hr
 refine w_seq (w_ops (qaa (v := AVal.nsl) (qab (p_mv rfl)) (qae (qad (w_seq (w_ops (qaa (qab (p_mv g0)) ?_)))))))
 obtain ⟨v10, e10, z1⟩ := qac hr
 obtain ⟨x10, rfl, z2⟩ := qaj z1
 refine qaa (qab (o_len rfl e10)) ?_
 obtain ⟨v11, m_1, e11, z3⟩ := qag z2
 refine qaa (s_mk rfl rfl e11) (qaa (v := v11) (qab (p_mv rfl)) (qae (qad (w_seq (w_seq (w_ops (qaa (qab (p_mv g0)) ?_)))))))
 obtain ⟨v13, e13, z4⟩ := qac z3
 obtain ⟨x13, rfl, z5⟩ := qaj z4
 refine qaa (qab (o_len rfl e13)) (qaa (v := (.i .i64 0)) (qab (p_mv rfl)) (qae (qad ?_)))
 refine qas ?_
 obtain ⟨o_1, hl_1, z6⟩ := qac z5
 obtain ⟨n_1, hl_1⟩ := hM.loop _ _ _ hl_1
 refine qbe (qbs _ (g55_I0 v0 v1 v11 x13) (g55_J0 v0 v1 v11 x13) ?_ n_1 _ _ _ _ hl_1 ⟨rfl, gl rfl, gl g0, gl g1, gl rfl, gl rfl⟩) ?_
 ·clear z6 hl_1
  intro s mm_3 t_1 o hi hr
  obtain ⟨x14, m_2⟩ := s
  obtain ⟨rfl, g14, g0, g1, g5, g13⟩ := hi
  unfold g55_b0 at hr
  refine w_seq (w_ops ?_)
  obtain ⟨c15, e15, z7⟩ := qaf hr
  refine qaa (qab (p_bin g14 g13 (b_lss.trans (cb e15)))) (qae (qad (w_seq ?_)))
  rcases qai z7 with ⟨rfl, z8⟩ | ⟨rfl, z8⟩
  ·refine qaq rfl ?_
   refine qaz (qad (w_seq ?_))
   refine qas ?_
   refine w_seq (w_ops (qaa (qab (p_mv g14)) (qaa (v := (.i .i64 x14)) (qab (p_mv rfl)) (qae (qad (w_seq (w_ops (qaa (qab (p_mv g0)) ?_))))))))
   obtain ⟨v18, e18, z9⟩ := qac z8
   obtain ⟨x18, rfl, z10⟩ := qaj z9
   refine qaa (qab (o_len rfl e18)) (qaa (v := (.i .i64 0)) (qab (p_mv rfl)) (qae (qad ?_)))
   refine qas ?_
   obtain ⟨o, hl, z11⟩ := qac z10
   obtain ⟨n, hl⟩ := hM.loop _ _ _ hl
   refine qbe (qbs _ (g55_I1 v0 v1 v11 x14 x13 x18) (g55_J1 v0 v1 v11 x14 x13 x18) ?_ n _ _ _ _ hl ⟨rfl, gl rfl, gl g0, gl g1, gl g5, gl rfl, gl g13, gl g14, gl rfl, gl rfl⟩) ?_
   ·clear z11 hl
    intro s mm_1 t_2 o hi hr
    obtain ⟨x19, m_3⟩ := s
    obtain ⟨rfl, g19, g0, g1, g5, g6, g13, g14, g17, g18⟩ := hi
    unfold g55_b1 at hr
    refine w_seq (w_ops ?_)
    obtain ⟨c20, e20, z12⟩ := qaf hr
    refine qaa (qab (p_bin g19 g18 (b_lss.trans (cb e20)))) (qae (qad (w_seq ?_)))
    rcases qai z12 with ⟨rfl, z13⟩ | ⟨rfl, z13⟩
    ·refine qaq rfl ?_
     refine qaz (qad (w_seq ?_))
     refine qas ?_
     refine w_seq (w_ops ?_)
     obtain ⟨v21, e21, z14⟩ := qac z13
     refine qaa (qab (o_ixS g17 g19 e21)) ?_
     obtain ⟨v22, e22, z15⟩ := qac z14
     obtain ⟨s22, rfl, z16⟩ := qcc z15
     refine qaa (s_ld rfl e22) (qaa (v := (.s s22)) (qab (p_mv rfl)) (qae (qad ?_)))
     obtain ⟨m_4, ef, z17⟩ := qac z16
     refine w_flt (af := true) rfl ef ?_
     refine qal (v := v11) (f_P rfl (qab (p_mv g5))) ?_
     refine qal (v := (.i .i64 x14)) (f_P rfl (qab (p_mv g6))) ?_
     refine qal (v := v11) (f_P rfl (qab (p_mv g5))) ?_
     refine qal (v := (.i .i64 x14)) (f_P rfl (qab (p_mv g6))) ?_
     obtain ⟨v27, e27, z18⟩ := qac z17
     refine qal (v := v27) (f_P rfl (qab (o_ixS rfl rfl e27))) ?_
     obtain ⟨v28, e28, z19⟩ := qac z18
     refine qal (v := v28) (f_ld rfl e28) ?_
     refine qal (v := v1) (f_P rfl (qab (p_mv g1))) ?_
     refine qal (v := (.s s22)) (f_P rfl (qab (p_mv rfl))) ?_
     refine qal (v := (.i .i64 x14)) (f_P rfl (qab (p_mv g6))) ?_
     obtain ⟨v32, m_5, e32, z20⟩ := qag z19
     obtain ⟨s32, rfl, z21⟩ := qcc z20
     obtain ⟨hc32, z22⟩ := qdd z21
     refine qal (v := (.s s32)) (f_M hc32 (qbi (mc rfl mn) (qav hM.call e32))) ?_
     obtain ⟨v33, m_6, e33, z23⟩ := qag z22
     obtain ⟨x33, rfl, z24⟩ := qaj z23
     obtain ⟨hc33, z25⟩ := qdd z24
     refine qal (v := (.i .i64 x33)) (f_M hc33 (qbi (mc rfl (mc rfl mn)) (qav hM.call e33))) ?_
     obtain ⟨v34, m_7, e34, z26⟩ := qag z25
     obtain ⟨x34, rfl, z27⟩ := qaj z26
     obtain ⟨hc34, z28⟩ := qdd z27
     refine qal (v := (.i .u64 x34)) (f_M hc34 (s_callv rfl (mc rfl mn) (callvM_le hM.call e34))) ?_
     obtain ⟨v35, m_8, e35, z29⟩ := qag z28
     obtain ⟨hc35, z30⟩ := qdd z29
     refine qal (v := v35) (f_M hc35 (s_bsl (qc rfl qn) e35)) ?_
     obtain ⟨v36, m_9, e36, z31⟩ := qag z30
     refine qal (v := v36) (f_F rfl (s_app rfl rfl e36)) ?_
     obtain ⟨v37, e37, z32⟩ := qac z31
     refine qal (v := v37) (f_P rfl (qab (o_ixS rfl rfl e37))) ?_
     obtain ⟨vn, m_10, en, z33⟩ := qag z32
     refine wf_stepN (f_F rfl (s_st rfl rfl en)) ?_
     obtain ⟨m_11, ef_1, z34⟩ := qac z33
     refine wf_end ef_1 ?_
     refine qbh ?_
     refine qad (w_ops ?_)
     obtain ⟨x38, e38, z35⟩ := qah z34
     refine qaa (qab (p_bin g19 rfl (b_add.trans (ci e38)))) (qaa (v := (.i .i64 x38)) (qab (p_mv rfl)) (qae ?_))
     cases z35
     exact ⟨_, _, rfl, rfl, rfl, gl rfl, gl g0, gl g1, gl g5, gl g6, gl g13, gl g14, gl g17, gl g18⟩
    ·refine qar rfl ?_
     refine qbt ?_
     refine qbk ?_
     cases z13
     exact ⟨_, _, rfl, qap, rfl, rfl, gl g0, gl g1, gl g5, gl g13, gl g14⟩
   ·obtain ⟨m_12, ho⟩ : ∃ z, z = o := ⟨_, rfl⟩
    subst ho
    rintro _ mm t_3 ⟨rfl, rfl, g0, g1, g5, g13, g14⟩
    refine qbu ?_
    refine qbh ?_
    refine qad (w_ops ?_)
    obtain ⟨x39, e39, z36⟩ := qah z11
    refine qaa (qab (p_bin g14 rfl (b_add.trans (ci e39)))) (qaa (v := (.i .i64 x39)) (qab (p_mv rfl)) (qae ?_))
    cases z36
    exact ⟨_, _, rfl, rfl, rfl, gl rfl, gl g0, gl g1, gl g5, gl g13⟩
  ·refine qar rfl ?_
   refine qbt ?_
   refine qbk ?_
   cases z8
   exact ⟨_, _, rfl, qap, rfl, rfl, gl g5⟩
 ·obtain ⟨m_13, ho⟩ : ∃ z, z = o_1 := ⟨_, rfl⟩
  subst ho
  rintro _ mm_2 t_4 ⟨rfl, rfl, g5⟩
  refine qbu ?_
  refine qad (w_seq (w_ops (qaa (qab (p_mv g5)) (qaa (v := v11) (qab (p_mv rfl)) (qae (qad ?_))))))
  refine w_ret ?_
  exact qf qba (rt rfl rn) z6
/- dibber/vine.asMany -/

def g56 (M : Means) (ro : List ABlk) (x0 : Int) (m0 : Mm) : Option (AVal × Heap × Nat × Nat) :=
 qaw (wr .u64 x0) fun x4 =>
 finM m0.h.length (tupA [(.i .u64 x4)]) m0
theorem g56_ok {ro : List ABlk} {O : qao} {M : Means} (hM : M.Ok ⟨F, O⟩ ro) {x0 h r} (ho : O 56 [(.i .i64 x0)] h = none) (hr : g56 M ro x0 ⟨h, h.length, h.length⟩ = some r) : callX ⟨F, O⟩ ro 56 [(.i .i64 x0)] h = some r := by
 refine qbd (F := ⟨F, O⟩) (fn := fn56) (g := g56 M ro x0) ho rfl rfl hr ?_
 clear ho
 clear hr
 intro m0 t0 ht hr
 have g0 : t0.get 0 = (.i .i64 x0) := ht 0
 clear ht
 unfold g56 at hr
 refine w_seq (w_ops (qaa (v := (.i .u64 0)) (qab (p_mv rfl)) (qae (qad (w_seq (w_ops (qaa (qab (p_mv g0)) ?_)))))))
 obtain ⟨x4, e4, z1⟩ := qah hr
 refine qaa (qab ((p_conv rfl).trans (ci e4))) (qaa (v := (.i .u64 x4)) (qab (p_mv rfl)) (qae (qad ?_)))
 refine w_ret ?_
 exact qf qba (rt rfl rn) z1
/- dibber/vine.product[dibber/vine.many] -/
abbrev g57_I0 (v1 : AVal) (v13 : AVal) (v0 : AVal) (x15 : Int) (s : Int × Mm) (m1 : Mm) (t1 : Tr) : Prop :=
 match s with
 | (x16, m_2) => m_2 = m1 ∧ t1.get 16 = (.i .i64 x16) ∧ t1.get 1 = v1 ∧ t1.get 5 = v13 ∧ t1.get 14 = v0 ∧ t1.get 15 = (.i .i64 x15)
abbrev g57_J0 (v1 : AVal) (v13 : AVal) (v0 : AVal) (x15 : Int) (o : Mm) (e : AExit) (m1 : Mm) (t1 : Tr) : Prop :=
 match o with
 | mo => e = (.exit 0) ∧ mo = m1 ∧ t1.get 5 = v13
abbrev g57_I1 (v1 : AVal) (v13 : AVal) (x16 : Int) (v20 : AVal) (v0 : AVal) (x15 : Int) (x33 : Int) (s : Int × Mm) (m1 : Mm) (t1 : Tr) : Prop :=
 match s with
 | (x34, m_5) => m_5 = m1 ∧ t1.get 34 = (.i .i64 x34) ∧ t1.get 1 = v1 ∧ t1.get 5 = v13 ∧ t1.get 6 = (.i .i64 x16) ∧ t1.get 7 = v20 ∧ t1.get 14 = v0 ∧ t1.get 15 = (.i .i64 x15) ∧ t1.get 16 = (.i .i64 x16) ∧ t1.get 33 = (.i .i64 x33)
abbrev g57_J1 (v1 : AVal) (v13 : AVal) (x16 : Int) (v20 : AVal) (v0 : AVal) (x15 : Int) (x33 : Int) (o : Mm) (e : AExit) (m1 : Mm) (t1 : Tr) : Prop :=
 match o with
 | mo => e = (.exit 2) ∧ mo = m1 ∧ t1.get 1 = v1 ∧ t1.get 5 = v13 ∧ t1.get 14 = v0 ∧ t1.get 15 = (.i .i64 x15) ∧ t1.get 16 = (.i .i64 x16)
abbrev g57_I2 (v1 : AVal) (v13 : AVal) (x16 : Int) (v20 : AVal) (x34 : Int) (v0 : AVal) (x15 : Int) (x33 : Int) (x38 : Int) (s : Int × Mm) (m1 : Mm) (t1 : Tr) : Prop :=
 match s with
 | (x39, m_6) => m_6 = m1 ∧ t1.get 39 = (.i .i64 x39) ∧ t1.get 1 = v1 ∧ t1.get 5 = v13 ∧ t1.get 6 = (.i .i64 x16) ∧ t1.get 7 = v20 ∧ t1.get 8 = (.i .i64 x34) ∧ t1.get 14 = v0 ∧ t1.get 15 = (.i .i64 x15) ∧ t1.get 16 = (.i .i64 x16) ∧ t1.get 33 = (.i .i64 x33) ∧ t1.get 34 = (.i .i64 x34) ∧ t1.get 37 = v20 ∧ t1.get 38 = (.i .i64 x38)
abbrev g57_J2 (v1 : AVal) (v13 : AVal) (x16 : Int) (v20 : AVal) (x34 : Int) (v0 : AVal) (x15 : Int) (x33 : Int) (x38 : Int) (o : Mm) (e : AExit) (m1 : Mm) (t1 : Tr) : Prop :=
 match o with
 | mo => e = (.exit 4) ∧ mo = m1 ∧ t1.get 1 = v1 ∧ t1.get 5 = v13 ∧ t1.get 6 = (.i .i64 x16) ∧ t1.get 7 = v20 ∧ t1.get 14 = v0 ∧ t1.get 15 = (.i .i64 x15) ∧ t1.get 16 = (.i .i64 x16) ∧ t1.get 33 = (.i .i64 x33) ∧ t1.get 34 = (.i .i64 x34)
def g57_b2 (M : Means) (ro : List ABlk) (v1 : AVal) (v13 : AVal) (x16 : Int) (v20 : AVal) (x34 : Int) (v0 : AVal) (x15 : Int) (x33 : Int) (x38 : Int) (x39 : Int) (m_6 : Mm) : Option ((Int × Mm) ⊕ (Mm)) :=
 qau (ltI x39 x38) fun c40 =>
 cond c40 (
  bindO (evP .e (.ixS 1 (.c v20) (.c (.i .i64 x39)))) fun v42 =>
  bindO (ldM ro m_6 true 1 v42) fun v43 =>
  asI .u64 v43 fun x43 =>
  bindO (some (Mm.base m_6)) fun m_7 =>
  bindO (evP .e (.ixS 1 (.c v13) (.c (.i .i64 x16)))) fun v46 =>
  bindO (ldA ro m_6.h true 1 v46) fun v47 =>
  bindO (evP .e (.ixS 1 (.c v13) (.c (.i .i64 x16)))) fun v51 =>
  bindO (ldA ro m_6.h true 1 v51) fun v52 =>
  bindO (evP .e (.ixS 1 (.c v52) (.c (.i .i64 x34)))) fun v54 =>
  bindO (ldA ro m_6.h true 1 v54) fun v55 =>
  asI .u64 v55 fun x55 =>
  bindO (some (AVal.ifc 61 (.i .u64 x55))) fun v56 =>
  bindO (some (AVal.ifc 61 (.i .u64 x43))) fun v58 =>
  bindO (evP .e (.ixS 1 (.c v1) (.c (.i .i64 x39)))) fun v61 =>
  bindO (ldM ro m_7 true 1 v61) fun v62 =>
  bindO (evP .e (.ixS 1 (.c v62) (.c (.i .i64 x34)))) fun v64 =>
  bindO (ldM ro m_7 true 1 v64) fun v65 =>
  asI .u64 v65 fun x65 =>
  bindP (qfb M.call m_7 [(61, (126, [])), (106, (129, [])), (122, (131, []))] v58 [(.i .u64 x65)]) fun v66 m_8 =>
  asI .u64 v66 fun x66 =>
  chk (!Nat.blt m_8.lw m_6.h.length) <|
  bindP (qfb M.call m_8 [(61, (86, [])), (106, (128, [])), (122, (130, []))] v56 [(.i .u64 x66)]) fun v67 m_9 =>
  asI .u64 v67 fun x67 =>
  chk (!Nat.blt m_9.lw m_6.h.length) <|
  bindO (evP .e (.ixS 1 (.c v47) (.c (.i .i64 x34)))) fun v68 =>
  bindP (stepM ro m_9 (.st 1 (.c v68) (.c (.i .u64 x67)))) fun vn_1 m_10 =>
  bindO (some (Mm.join m_6 m_10)) fun m_11 =>
  qaw (wr .i64 (x39 + 1)) fun x69 =>
  some (.inl (x69, m_11))) (
  some (.inr m_6))
def g57_b1 (M : Means) (ro : List ABlk) (v1 : AVal) (v13 : AVal) (x16 : Int) (v20 : AVal) (v0 : AVal) (x15 : Int) (x33 : Int) (x34 : Int) (m_5 : Mm) : Option ((Int × Mm) ⊕ (Mm)) :=
 qau (ltI x34 x33) fun c35 =>
 cond c35 (
  bindO (evP .e (.len false (.c v20))) fun v38 =>
  asI .i64 v38 fun x38 =>
  bindO (M.loop (S := Int × Mm) (R := Mm) (fun s => g57_b2 M ro v1 v13 x16 v20 x34 v0 x15 x33 x38 s.1 s.2) (0, m_5)) fun m_12 =>
  qaw (wr .i64 (x34 + 1)) fun x70 =>
  some (.inl (x70, m_12))) (
  some (.inr m_5))
def g57_b0 (M : Means) (ro : List ABlk) (v1 : AVal) (v13 : AVal) (v0 : AVal) (x15 : Int) (x16 : Int) (m_2 : Mm) : Option ((Int × Mm) ⊕ (Mm)) :=
 qau (ltI x16 x15) fun c17 =>
 cond c17 (
  bindO (evP .e (.ixS 1 (.c v0) (.c (.i .i64 x16)))) fun v19 =>
  bindO (ldM ro m_2 true 1 v19) fun v20 =>
  bindO (evP .e (.ixS 1 (.c v1) (.c (.i .i64 0)))) fun v24 =>
  bindO (ldM ro m_2 true 1 v24) fun v25 =>
  bindO (evP .e (.len false (.c v25))) fun v26 =>
  asI .i64 v26 fun x26 =>
  bindP (stepM ro m_2 (.mk 61 1 8 [(AVal.i IntKind.u64 0)] (.c (.i .i64 x26)) (.c (.i .i64 x26)))) fun v27 m_3 =>
  bindO (evP .e (.ixS 1 (.c v13) (.c (.i .i64 x16)))) fun v28 =>
  bindP (stepM ro m_3 (.st 1 (.c v28) (.c v27))) fun vn m_4 =>
  bindO (evP .e (.ixS 1 (.c v13) (.c (.i .i64 x16)))) fun v31 =>
  bindO (ldM ro m_4 true 1 v31) fun v32 =>
  bindO (evP .e (.len false (.c v32))) fun v33 =>
  asI .i64 v33 fun x33 =>
  bindO (M.loop (S := Int × Mm) (R := Mm) (fun s => g57_b1 M ro v1 v13 x16 v20 v0 x15 x33 s.1 s.2) (0, m_4)) fun m_13 =>
  qaw (wr .i64 (x16 + 1)) fun x71 =>
  some (.inl (x71, m_13))) (
  some (.inr m_2))
def g57 (M : Means) (ro : List ABlk) (v0 : AVal) (v1 : AVal) (m0 : Mm) : Option (AVal × Heap × Nat × Nat) :=
 bindO (evP .e (.len false (.c v0))) fun v12 =>
 asI .i64 v12 fun x12 =>
 bindP (stepM ro m0 (.mk 63 1 24 [AVal.nsl] (.c (.i .i64 x12)) (.c (.i .i64 x12)))) fun v13 m_1 =>
 bindO (evP .e (.len false (.c v0))) fun v15 =>
 asI .i64 v15 fun x15 =>
 bindO (M.loop (S := Int × Mm) (R := Mm) (fun s => g57_b0 M ro v1 v13 v0 x15 s.1 s.2) (0, m_1)) fun m_14 =>
 finM m0.h.length (tupA [v13]) m_14
theorem g57_ok {ro : List ABlk} {O : qao} {M : Means} (hM : M.Ok ⟨F, O⟩ ro) {v0 v1 h r} (ho : O 57 [v0, v1] h = none) (hr : g57 M ro v0 v1 ⟨h, h.length, h.length⟩ = some r) : callX ⟨F, O⟩ ro 57 [v0, v1] h = some r := by
 refine qbd (F := ⟨F, O⟩) (fn := fn57) (g := g57 M ro v0 v1) ho rfl rfl hr ?_
 clear ho
 clear hr
 intro m0 t0 ht hr
 have g0 : t0.get 0 = v0 := ht 0
 have g1 : t0.get 1 = v1 := ht 1
 clear ht
 unfold g57 at hr
 refine w_seq (w_ops (qaa (v := AVal.nsl) (qab (p_mv rfl)) (qae (qad (w_seq (w_ops (qaa (qab (p_mv g0)) ?_)))))))
 obtain ⟨v12, e12, z1⟩ := qac hr
 obtain ⟨x12, rfl, z2⟩ := qaj z1
 refine qaa (qab (o_len rfl e12)) ?_
 obtain ⟨v13, m_1, e13, z3⟩ := qag z2
 refine qaa (s_mk rfl rfl e13) (qaa (v := v13) (qab (p_mv rfl)) (qae (qad (w_seq (w_seq (w_ops (qaa (qab (p_mv g0)) ?_)))))))
 obtain ⟨v15, e15, z4⟩ := qac z3
 obtain ⟨x15, rfl, z5⟩ := qaj z4
 refine qaa (qab (o_len rfl e15)) (qaa (v := (.i .i64 0)) (qab (p_mv rfl)) (qae (qad ?_)))
 refine qas ?_
 obtain ⟨o_2, hl_2, z6⟩ := qac z5
 obtain ⟨n_2, hl_2⟩ := hM.loop _ _ _ hl_2
 refine qbe (qbs _ (g57_I0 v1 v13 v0 x15) (g57_J0 v1 v13 v0 x15) ?_ n_2 _ _ _ _ hl_2 ⟨rfl, gl rfl, gl g1, gl rfl, gl rfl, gl rfl⟩) ?_
 ·clear z6 hl_2
  intro s mm_5 t_1 o hi hr
  obtain ⟨x16, m_2⟩ := s
  obtain ⟨rfl, g16, g1, g5, g14, g15⟩ := hi
  unfold g57_b0 at hr
  refine w_seq (w_ops ?_)
  obtain ⟨c17, e17, z7⟩ := qaf hr
  refine qaa (qab (p_bin g16 g15 (b_lss.trans (cb e17)))) (qae (qad (w_seq ?_)))
  rcases qai z7 with ⟨rfl, z8⟩ | ⟨rfl, z8⟩
  ·refine qaq rfl ?_
   refine qaz (qad (w_seq ?_))
   refine qas ?_
   refine w_seq (w_ops (qaa (qab (p_mv g16)) ?_))
   obtain ⟨v19, e19, z9⟩ := qac z8
   refine qaa (qab (o_ixS g14 g16 e19)) ?_
   obtain ⟨v20, e20, z10⟩ := qac z9
   refine qaa (s_ld rfl e20) (qaa (v := (.i .i64 x16)) (qab (p_mv rfl)) (qaa (v := v20) (qab (p_mv rfl)) (qae (qad (w_seq (w_ops (qaa (qab (p_mv g5)) (qaa (v := (.i .i64 x16)) (qab (p_mv rfl)) (qaa (qab (p_mv g1)) ?_)))))))))
   obtain ⟨v24, e24, z11⟩ := qac z10
   refine qaa (qab (o_ixS rfl rfl e24)) ?_
   obtain ⟨v25, e25, z12⟩ := qac z11
   refine qaa (s_ld rfl e25) ?_
   obtain ⟨v26, e26, z13⟩ := qac z12
   obtain ⟨x26, rfl, z14⟩ := qaj z13
   refine qaa (qab (o_len rfl e26)) ?_
   obtain ⟨v27, m_3, e27, z15⟩ := qag z14
   refine qaa (s_mk rfl rfl e27) ?_
   obtain ⟨v28, e28, z16⟩ := qac z15
   refine qaa (qab (o_ixS rfl rfl e28)) ?_
   obtain ⟨vn, m_4, en, z17⟩ := qag z16
   refine qdz (s_st rfl rfl en) ?_
   refine qae (qad (w_seq (w_ops (qaa (qab (p_mv g5)) (qaa (v := (.i .i64 x16)) (qab (p_mv rfl)) ?_)))))
   obtain ⟨v31, e31, z18⟩ := qac z17
   refine qaa (qab (o_ixS rfl rfl e31)) ?_
   obtain ⟨v32, e32, z19⟩ := qac z18
   refine qaa (s_ld rfl e32) ?_
   obtain ⟨v33, e33, z20⟩ := qac z19
   obtain ⟨x33, rfl, z21⟩ := qaj z20
   refine qaa (qab (o_len rfl e33)) (qaa (v := (.i .i64 0)) (qab (p_mv rfl)) (qae (qad ?_)))
   refine qas ?_
   obtain ⟨o_1, hl_1, z22⟩ := qac z21
   obtain ⟨n_1, hl_1⟩ := hM.loop _ _ _ hl_1
   refine qbe (qbs _ (g57_I1 v1 v13 x16 v20 v0 x15 x33) (g57_J1 v1 v13 x16 v20 v0 x15 x33) ?_ n_1 _ _ _ _ hl_1 ⟨rfl, gl rfl, gl g1, gl g5, gl rfl, gl rfl, gl g14, gl g15, gl g16, gl rfl⟩) ?_
   ·clear z22 hl_1
    intro s mm_3 t_2 o hi hr
    obtain ⟨x34, m_5⟩ := s
    obtain ⟨rfl, g34, g1, g5, g6, g7, g14, g15, g16, g33⟩ := hi
    unfold g57_b1 at hr
    refine w_seq (w_ops ?_)
    obtain ⟨c35, e35, z23⟩ := qaf hr
    refine qaa (qab (p_bin g34 g33 (b_lss.trans (cb e35)))) (qae (qad (w_seq ?_)))
    rcases qai z23 with ⟨rfl, z24⟩ | ⟨rfl, z24⟩
    ·refine qaq rfl ?_
     refine qaz (qad (w_seq ?_))
     refine qas ?_
     refine w_seq (w_ops (qaa (qab (p_mv g34)) (qaa (v := (.i .i64 x34)) (qab (p_mv rfl)) (qae (qad (w_seq (w_ops (qaa (qab (p_mv g7)) ?_))))))))
     obtain ⟨v38, e38, z25⟩ := qac z24
     obtain ⟨x38, rfl, z26⟩ := qaj z25
     refine qaa (qab (o_len rfl e38)) (qaa (v := (.i .i64 0)) (qab (p_mv rfl)) (qae (qad ?_)))
     refine qas ?_
     obtain ⟨o, hl, z27⟩ := qac z26
     obtain ⟨n, hl⟩ := hM.loop _ _ _ hl
     refine qbe (qbs _ (g57_I2 v1 v13 x16 v20 x34 v0 x15 x33 x38) (g57_J2 v1 v13 x16 v20 x34 v0 x15 x33 x38) ?_ n _ _ _ _ hl ⟨rfl, gl rfl, gl g1, gl g5, gl g6, gl g7, gl rfl, gl g14, gl g15, gl g16, gl g33, gl g34, gl rfl, gl rfl⟩) ?_
     ·clear z27 hl
      intro s mm_1 t_3 o hi hr
      obtain ⟨x39, m_6⟩ := s
      obtain ⟨rfl, g39, g1, g5, g6, g7, g8, g14, g15, g16, g33, g34, g37, g38⟩ := hi
      unfold g57_b2 at hr
      refine w_seq (w_ops ?_)
      obtain ⟨c40, e40, z28⟩ := qaf hr
      refine qaa (qab (p_bin g39 g38 (b_lss.trans (cb e40)))) (qae (qad (w_seq ?_)))
      rcases qai z28 with ⟨rfl, z29⟩ | ⟨rfl, z29⟩
      ·refine qaq rfl ?_
       refine qaz (qad (w_seq ?_))
       refine qas ?_
       refine w_seq (w_ops (qaa (qab (p_mv g39)) ?_))
       obtain ⟨v42, e42, z30⟩ := qac z29
       refine qaa (qab (o_ixS g37 g39 e42)) ?_
       obtain ⟨v43, e43, z31⟩ := qac z30
       obtain ⟨x43, rfl, z32⟩ := qaj z31
       refine qaa (s_ld rfl e43) (qaa (v := (.i .i64 x39)) (qab (p_mv rfl)) (qaa (v := (.i .u64 x43)) (qab (p_mv rfl)) (qae (qad ?_))))
       obtain ⟨m_7, ef, z33⟩ := qac z32
       refine w_flt (af := true) rfl ef ?_
       refine qal (v := v13) (f_P rfl (qab (p_mv g5))) ?_
       refine qal (v := (.i .i64 x16)) (f_P rfl (qab (p_mv g6))) ?_
       obtain ⟨v46, e46, z34⟩ := qac z33
       refine qal (v := v46) (f_P rfl (qab (o_ixS rfl rfl e46))) ?_
       obtain ⟨v47, e47, z35⟩ := qac z34
       refine qal (v := v47) (f_ld rfl e47) ?_
       refine qal (v := (.i .i64 x34)) (f_P rfl (qab (p_mv g8))) ?_
       refine qal (v := v13) (f_P rfl (qab (p_mv g5))) ?_
       refine qal (v := (.i .i64 x16)) (f_P rfl (qab (p_mv g6))) ?_
       obtain ⟨v51, e51, z36⟩ := qac z35
       refine qal (v := v51) (f_P rfl (qab (o_ixS rfl rfl e51))) ?_
       obtain ⟨v52, e52, z37⟩ := qac z36
       refine qal (v := v52) (f_ld rfl e52) ?_
       refine qal (v := (.i .i64 x34)) (f_P rfl (qab (p_mv g8))) ?_
       obtain ⟨v54, e54, z38⟩ := qac z37
       refine qal (v := v54) (f_P rfl (qab (o_ixS rfl rfl e54))) ?_
       obtain ⟨v55, e55, z39⟩ := qac z38
       obtain ⟨x55, rfl, z40⟩ := qaj z39
       refine qal (v := (.i .u64 x55)) (f_ld rfl e55) ?_
       obtain ⟨v56, e56, z41⟩ := qac z40
       refine qal (v := v56) (f_P rfl (qab (o_mki rfl e56))) ?_
       refine qal (v := (.i .u64 x43)) (f_P rfl (qab (p_mv rfl))) ?_
       obtain ⟨v58, e58, z42⟩ := qac z41
       refine qal (v := v58) (f_P rfl (qab (o_mki rfl e58))) ?_
       refine qal (v := v1) (f_P rfl (qab (p_mv g1))) ?_
       refine qal (v := (.i .i64 x39)) (f_P rfl (qab (p_mv rfl))) ?_
       obtain ⟨v61, e61, z43⟩ := qac z42
       refine qal (v := v61) (f_P rfl (qab (o_ixS rfl rfl e61))) ?_
       obtain ⟨v62, e62, z44⟩ := qac z43
       refine qal (v := v62) (f_P rfl (s_ld rfl e62)) ?_
       refine qal (v := (.i .i64 x34)) (f_P rfl (qab (p_mv g8))) ?_
       obtain ⟨v64, e64, z45⟩ := qac z44
       refine qal (v := v64) (f_P rfl (qab (o_ixS rfl rfl e64))) ?_
       obtain ⟨v65, e65, z46⟩ := qac z45
       obtain ⟨x65, rfl, z47⟩ := qaj z46
       refine qal (v := (.i .u64 x65)) (f_P rfl (s_ld rfl e65)) ?_
       obtain ⟨v66, m_8, e66, z48⟩ := qag z47
       obtain ⟨x66, rfl, z49⟩ := qaj z48
       obtain ⟨hc66, z50⟩ := qdd z49
       refine qal (v := (.i .u64 x66)) (f_M hc66 (s_calli rfl (mc rfl mn) (calliM_le hM.call e66))) ?_
       obtain ⟨v67, m_9, e67, z51⟩ := qag z50
       obtain ⟨x67, rfl, z52⟩ := qaj z51
       obtain ⟨hc67, z53⟩ := qdd z52
       refine qal (v := (.i .u64 x67)) (f_M hc67 (s_calli rfl (mc rfl mn) (calliM_le hM.call e67))) ?_
       obtain ⟨v68, e68, z54⟩ := qac z53
       refine qal (v := v68) (f_P rfl (qab (o_ixS rfl rfl e68))) ?_
       obtain ⟨vn_1, m_10, en_1, z55⟩ := qag z54
       refine wf_stepN (f_F rfl (s_st rfl rfl en_1)) ?_
       obtain ⟨m_11, ef_1, z56⟩ := qac z55
       refine wf_end ef_1 ?_
       refine qbh ?_
       refine qad (w_ops ?_)
       obtain ⟨x69, e69, z57⟩ := qah z56
       refine qaa (qab (p_bin g39 rfl (b_add.trans (ci e69)))) (qaa (v := (.i .i64 x69)) (qab (p_mv rfl)) (qae ?_))
       cases z57
       exact ⟨_, _, rfl, rfl, rfl, gl rfl, gl g1, gl g5, gl g6, gl g7, gl g8, gl g14, gl g15, gl g16, gl g33, gl g34, gl g37, gl g38⟩
      ·refine qar rfl ?_
       refine qbt ?_
       refine qbk ?_
       cases z29
       exact ⟨_, _, rfl, qap, rfl, rfl, gl g1, gl g5, gl g6, gl g7, gl g14, gl g15, gl g16, gl g33, gl g34⟩
     ·obtain ⟨m_12, ho⟩ : ∃ z, z = o := ⟨_, rfl⟩
      subst ho
      rintro _ mm t_4 ⟨rfl, rfl, g1, g5, g6, g7, g14, g15, g16, g33, g34⟩
      refine qbu ?_
      refine qbh ?_
      refine qad (w_ops ?_)
      obtain ⟨x70, e70, z58⟩ := qah z27
      refine qaa (qab (p_bin g34 rfl (b_add.trans (ci e70)))) (qaa (v := (.i .i64 x70)) (qab (p_mv rfl)) (qae ?_))
      cases z58
      exact ⟨_, _, rfl, rfl, rfl, gl rfl, gl g1, gl g5, gl g6, gl g7, gl g14, gl g15, gl g16, gl g33⟩
    ·refine qar rfl ?_
     refine qbt ?_
     refine qbk ?_
     cases z24
     exact ⟨_, _, rfl, qap, rfl, rfl, gl g1, gl g5, gl g14, gl g15, gl g16⟩
   ·obtain ⟨m_13, ho⟩ : ∃ z, z = o_1 := ⟨_, rfl⟩
    subst ho
    rintro _ mm_2 t_5 ⟨rfl, rfl, g1, g5, g14, g15, g16⟩
    refine qbu ?_
    refine qbh ?_
    refine qad (w_ops ?_)
    obtain ⟨x71, e71, z59⟩ := qah z22
    refine qaa (qab (p_bin g16 rfl (b_add.trans (ci e71)))) (qaa (v := (.i .i64 x71)) (qab (p_mv rfl)) (qae ?_))
    cases z59
    exact ⟨_, _, rfl, rfl, rfl, gl rfl, gl g1, gl g5, gl g14, gl g15⟩
  ·refine qar rfl ?_
   refine qbt ?_
   refine qbk ?_
   cases z8
   exact ⟨_, _, rfl, qap, rfl, rfl, gl g5⟩
 ·obtain ⟨m_14, ho⟩ : ∃ z, z = o_2 := ⟨_, rfl⟩
  subst ho
  rintro _ mm_4 t_6 ⟨rfl, rfl, g5⟩
  refine qbu ?_
  refine qad (w_seq (w_ops (qaa (qab (p_mv g5)) (qaa (v := v13) (qab (p_mv rfl)) (qae (qad ?_))))))
  refine w_ret ?_
  exact qf qba (rt rfl rn) z6
/- dibber/dibberref03.counts -/
abbrev g58_I0 (v0 : AVal) (s1 : List UInt8) (x2 : Int) (v16 : AVal) (s : Int × Mm) (m1 : Mm) (t1 : Tr) : Prop :=
 match s with
 | (x8, m_2) => m_2 = m1 ∧ t1.get 8 = (.i .i64 x8) ∧ t1.get 0 = v0 ∧ t1.get 1 = (.s s1) ∧ t1.get 2 = (.i .i64 x2) ∧ t1.get 7 = v16
abbrev g58_J0 (v0 : AVal) (s1 : List UInt8) (x2 : Int) (v16 : AVal) (o : Mm) (e : AExit) (m1 : Mm) (t1 : Tr) : Prop :=
 match o with
 | mo => e = (.exit 0) ∧ mo = m1 ∧ t1.get 0 = v0 ∧ t1.get 2 = (.i .i64 x2) ∧ t1.get 7 = v16
def g58_b0 (M : Means) (ro : List ABlk) (v0 : AVal) (s1 : List UInt8) (x2 : Int) (v16 : AVal) (x8 : Int) (m_2 : Mm) : Option ((Int × Mm) ⊕ (Mm)) :=
 bindO (evP .e (.len true (.c (.s s1)))) fun v19 =>
 asI .i64 v19 fun x19 =>
 qau (ltI x8 x19) fun c20 =>
 cond c20 (
  bindO (evP .e (.ixStr (.c (.s s1)) (.c (.i .i64 x8)))) fun v26 =>
  asI .u8 v26 fun x26 =>
  qaw (wr .u8 (x26 - 97)) fun x27 =>
  qaw (wr .i64 x27) fun x28 =>
  bindO (evP .e (.ixS 1 (.c v16) (.c (.i .i64 x28)))) fun v29 =>
  bindO (ldM ro m_2 true 1 v29) fun v30 =>
  asI .u64 v30 fun x30 =>
  qaw (wr .u64 (x30 + 1)) fun x31 =>
  bindO (evP .e (.ixS 1 (.c v16) (.c (.i .i64 x28)))) fun v32 =>
  bindP (stepM ro m_2 (.st 1 (.c v32) (.c (.i .u64 x31)))) fun vn m_3 =>
  qaw (wr .i64 (x8 + 1)) fun x22 =>
  some (.inl (x22, m_3))) (
  some (.inr m_2))
abbrev g58_I1 (v0 : AVal) (x2 : Int) (s : AVal × Int × Mm) (m1 : Mm) (t1 : Tr) : Prop :=
 match s with
 | (v7, x9, m_5) => m_5 = m1 ∧ t1.get 7 = v7 ∧ t1.get 9 = (.i .i64 x9) ∧ t1.get 0 = v0 ∧ t1.get 2 = (.i .i64 x2)
abbrev g58_J1 (v0 : AVal) (x2 : Int) (o : (AVal × Mm)) (e : AExit) (m1 : Mm) (t1 : Tr) : Prop :=
 match o with
 | (y7, mo) => e = (.exit 2) ∧ mo = m1 ∧ t1.get 7 = y7
abbrev g58_I2 (v0 : AVal) (x2 : Int) (v7 : AVal) (x9 : Int) (v40 : AVal) (s : Int × Mm) (m1 : Mm) (t1 : Tr) : Prop :=
 match s with
 | (x11, m_7) => m_7 = m1 ∧ t1.get 11 = (.i .i64 x11) ∧ t1.get 0 = v0 ∧ t1.get 2 = (.i .i64 x2) ∧ t1.get 7 = v7 ∧ t1.get 9 = (.i .i64 x9) ∧ t1.get 10 = v40
abbrev g58_J2 (v0 : AVal) (x2 : Int) (v7 : AVal) (x9 : Int) (v40 : AVal) (o : Mm) (e : AExit) (m1 : Mm) (t1 : Tr) : Prop :=
 match o with
 | mo => e = (.exit 4) ∧ mo = m1 ∧ t1.get 0 = v0 ∧ t1.get 2 = (.i .i64 x2) ∧ t1.get 9 = (.i .i64 x9) ∧ t1.get 10 = v40
abbrev g58_I3 (v0 : AVal) (x2 : Int) (v7 : AVal) (x9 : Int) (v40 : AVal) (x11 : Int) (s : Int × Mm) (m1 : Mm) (t1 : Tr) : Prop :=
 match s with
 | (x12, m_8) => m_8 = m1 ∧ t1.get 12 = (.i .i64 x12) ∧ t1.get 0 = v0 ∧ t1.get 2 = (.i .i64 x2) ∧ t1.get 7 = v7 ∧ t1.get 9 = (.i .i64 x9) ∧ t1.get 10 = v40 ∧ t1.get 11 = (.i .i64 x11)
abbrev g58_J3 (v0 : AVal) (x2 : Int) (v7 : AVal) (x9 : Int) (v40 : AVal) (x11 : Int) (o : Mm) (e : AExit) (m1 : Mm) (t1 : Tr) : Prop :=
 match o with
 | mo => e = (.exit 6) ∧ mo = m1 ∧ t1.get 0 = v0 ∧ t1.get 2 = (.i .i64 x2) ∧ t1.get 7 = v7 ∧ t1.get 9 = (.i .i64 x9) ∧ t1.get 10 = v40 ∧ t1.get 11 = (.i .i64 x11)
def g58_b3 (M : Means) (ro : List ABlk) (v0 : AVal) (x2 : Int) (v7 : AVal) (x9 : Int) (v40 : AVal) (x11 : Int) (x12 : Int) (m_8 : Mm) : Option ((Int × Mm) ⊕ (Mm)) :=
 bindO (evP .e (.ixS 1 (.c v0) (.c (.i .i64 x11)))) fun v50 =>
 bindO (ldM ro m_8 true 1 v50) fun v51 =>
 asS v51 fun s51 =>
 bindO (evP .e (.len true (.c (.s s51)))) fun v52 =>
 asI .i64 v52 fun x52 =>
 qau (ltI x12 x52) fun c53 =>
 cond c53 (
  bindO (evP .e (.ixS 1 (.c v0) (.c (.i .i64 x11)))) fun v58 =>
  bindO (ldM ro m_8 true 1 v58) fun v59 =>
  asS v59 fun s59 =>
  bindO (evP .e (.ixStr (.c (.s s59)) (.c (.i .i64 x12)))) fun v61 =>
  asI .u8 v61 fun x61 =>
  qaw (wr .u8 (x61 - 97)) fun x62 =>
  qaw (wr .i64 x62) fun x63 =>
  bindO (some (Mm.base m_8)) fun m_9 =>
  bindO (evP .e (.ixS 1 (.c v40) (.c (.i .i64 x63)))) fun v68 =>
  bindO (ldM ro m_9 true 1 v68) fun v69 =>
  asI .u64 v69 fun x69 =>
  bindO (evP .e (.ixS 1 (.c v7) (.c (.i .i64 x11)))) fun v72 =>
  bindO (ldM ro m_9 true 1 v72) fun v73 =>
  asI .u64 v73 fun x73 =>
  bindP (callM M.call m_9 87 [(.i .u64 x69), (.i .u64 x73)]) fun v74 m_10 =>
  asI .u64 v74 fun x74 =>
  bindO (evP .e (.ixS 1 (.c v40) (.c (.i .i64 x63)))) fun v75 =>
  bindP (stepM ro m_10 (.st 1 (.c v75) (.c (.i .u64 x74)))) fun vn_1 m_11 =>
  bindO (some (Mm.join m_8 m_11)) fun m_12 =>
  qaw (wr .i64 (x12 + 1)) fun x55 =>
  some (.inl (x55, m_12))) (
  some (.inr m_8))
def g58_b2 (M : Means) (ro : List ABlk) (v0 : AVal) (x2 : Int) (v7 : AVal) (x9 : Int) (v40 : AVal) (x11 : Int) (m_7 : Mm) : Option ((Int × Mm) ⊕ (Mm)) :=
 bindO (evP .e (.len false (.c v0))) fun v43 =>
 asI .i64 v43 fun x43 =>
 qau (ltI x11 x43) fun c44 =>
 cond c44 (
  bindO (M.loop (S := Int × Mm) (R := Mm) (fun s => g58_b3 M ro v0 x2 v7 x9 v40 x11 s.1 s.2) (0, m_7)) fun m_13 =>
  qaw (wr .i64 (x11 + 1)) fun x46 =>
  some (.inl (x46, m_13))) (
  some (.inr m_7))
def g58_b1 (M : Means) (ro : List ABlk) (v0 : AVal) (x2 : Int) (v7 : AVal) (x9 : Int) (m_5 : Mm) : Option ((AVal × Int × Mm) ⊕ ((AVal × Mm))) :=
 qau (ltI x9 x2) fun c35 =>
 cond c35 (
  bindO (evP .e (.len false (.c v0))) fun v39 =>
  asI .i64 v39 fun x39 =>
  bindP (stepM ro m_5 (.mk 60 1 8 [(AVal.i IntKind.u64 0)] (.c (.i .i64 x39)) (.c (.i .i64 x39)))) fun v40 m_6 =>
  bindO (M.loop (S := Int × Mm) (R := Mm) (fun s => g58_b2 M ro v0 x2 v7 x9 v40 s.1 s.2) (0, m_6)) fun m_14 =>
  qaw (wr .i64 (x9 + 1)) fun x37 =>
  some (.inl (v40, x37, m_14))) (
  some (.inr (v7, m_5)))
def g58 (M : Means) (ro : List ABlk) (v0 : AVal) (s1 : List UInt8) (x2 : Int) (m0 : Mm) : Option (AVal × Heap × Nat × Nat) :=
 bindO (evP .e (.len false (.c v0))) fun v15 =>
 asI .i64 v15 fun x15 =>
 bindP (stepM ro m0 (.mk 60 1 8 [(AVal.i IntKind.u64 0)] (.c (.i .i64 x15)) (.c (.i .i64 x15)))) fun v16 m_1 =>
 bindO (M.loop (S := Int × Mm) (R := Mm) (fun s => g58_b0 M ro v0 s1 x2 v16 s.1 s.2) (0, m_1)) fun m_4 =>
 bindO (M.loop (S := AVal × Int × Mm) (R := (AVal × Mm)) (fun s => g58_b1 M ro v0 x2 s.1 s.2.1 s.2.2) (v16, 0, m_4)) fun ⟨v7_1, m_15⟩ =>
 finM m0.h.length (tupA [v7_1]) m_15
theorem g58_ok {ro : List ABlk} {O : qao} {M : Means} (hM : M.Ok ⟨F, O⟩ ro) {v0 s1 x2 h r} (ho : O 58 [v0, (.s s1), (.i .i64 x2)] h = none) (hr : g58 M ro v0 s1 x2 ⟨h, h.length, h.length⟩ = some r) : callX ⟨F, O⟩ ro 58 [v0, (.s s1), (.i .i64 x2)] h = some r := by
 refine qbd (F := ⟨F, O⟩) (fn := fn58) (g := g58 M ro v0 s1 x2) ho rfl rfl hr ?_
 clear ho
 clear hr
 intro m0 t0 ht hr
 have g0 : t0.get 0 = v0 := ht 0
 have g1 : t0.get 1 = (.s s1) := ht 1
 have g2 : t0.get 2 = (.i .i64 x2) := ht 2
 clear ht
 unfold g58 at hr
 refine w_seq (w_ops (qaa (v := AVal.nsl) (qab (p_mv rfl)) (qae (qad (w_seq (w_ops (qaa (qab (p_mv g0)) ?_)))))))
 obtain ⟨v15, e15, z1⟩ := qac hr
 obtain ⟨x15, rfl, z2⟩ := qaj z1
 refine qaa (qab (o_len rfl e15)) ?_
 obtain ⟨v16, m_1, e16, z3⟩ := qag z2
 refine qaa (s_mk rfl rfl e16) (qaa (v := v16) (qab (p_mv rfl)) (qae (qad (w_seq (w_seq (w_ops (qaa (v := (.i .i64 0)) (qab (p_mv rfl)) (qae (qad ?_)))))))))
 refine qas ?_
 obtain ⟨o, hl_3, z4⟩ := qac z3
 obtain ⟨n_3, hl_3⟩ := hM.loop _ _ _ hl_3
 refine qbe (qbs _ (g58_I0 v0 s1 x2 v16) (g58_J0 v0 s1 x2 v16) ?_ n_3 _ _ _ _ hl_3 ⟨rfl, gl rfl, gl g0, gl g1, gl g2, gl rfl⟩) ?_
 ·clear z4 hl_3
  intro s mm_7 t_1 o hi hr
  obtain ⟨x8, m_2⟩ := s
  obtain ⟨rfl, g8, g0, g1, g2, g7⟩ := hi
  unfold g58_b0 at hr
  refine w_seq (w_seq (w_ops (qaa (qab (p_mv g8)) (qaa (qab (p_mv g1)) ?_))))
  obtain ⟨v19, e19, z5⟩ := qac hr
  obtain ⟨x19, rfl, z6⟩ := qaj z5
  refine qaa (qab (o_len rfl e19)) ?_
  obtain ⟨c20, e20, z7⟩ := qaf z6
  refine qaa (qab (p_bin rfl rfl (b_lss.trans (cb e20)))) (qae (qad ?_))
  rcases qai z7 with ⟨rfl, z8⟩ | ⟨rfl, z8⟩
  ·refine qaq rfl ?_
   refine qaz (qad (w_seq ?_))
   refine qas ?_
   refine w_ops (qaa (qab (p_mv g7)) (qaa (qab (p_mv g1)) (qaa (qab (p_mv g8)) ?_)))
   obtain ⟨v26, e26, z9⟩ := qac z8
   obtain ⟨x26, rfl, z10⟩ := qaj z9
   refine qaa (qab (qdp rfl rfl e26)) ?_
   obtain ⟨x27, e27, z11⟩ := qah z10
   refine qaa (qab (p_bin rfl rfl (b_sub.trans (ci e27)))) ?_
   obtain ⟨x28, e28, z12⟩ := qah z11
   refine qaa (qab ((p_conv rfl).trans (ci e28))) ?_
   obtain ⟨v29, e29, z13⟩ := qac z12
   refine qaa (qab (o_ixS rfl rfl e29)) ?_
   obtain ⟨v30, e30, z14⟩ := qac z13
   obtain ⟨x30, rfl, z15⟩ := qaj z14
   refine qaa (s_ld rfl e30) ?_
   obtain ⟨x31, e31, z16⟩ := qah z15
   refine qaa (qab (p_bin rfl rfl (b_add.trans (ci e31)))) ?_
   obtain ⟨v32, e32, z17⟩ := qac z16
   refine qaa (qab (o_ixS rfl rfl e32)) ?_
   obtain ⟨vn, m_3, en, z18⟩ := qag z17
   refine qdz (s_st rfl rfl en) ?_
   refine qae ?_
   refine qbh ?_
   refine qad (w_ops (qaa (qab (p_mv g8)) ?_))
   obtain ⟨x22, e22, z19⟩ := qah z18
   refine qaa (qab (p_bin rfl rfl (b_add.trans (ci e22)))) (qaa (v := (.i .i64 x22)) (qab (p_mv rfl)) (qae ?_))
   cases z19
   exact ⟨_, _, rfl, rfl, rfl, gl rfl, gl g0, gl g1, gl g2, gl g7⟩
  ·refine qar rfl ?_
   refine qbt ?_
   refine qbk ?_
   cases z8
   exact ⟨_, _, rfl, qap, rfl, rfl, gl g0, gl g2, gl g7⟩
 ·obtain ⟨m_4, ho⟩ : ∃ z, z = o := ⟨_, rfl⟩
  subst ho
  rintro _ mm_6 t_2 ⟨rfl, rfl, g0, g2, g7⟩
  refine qbu ?_
  refine qad (w_seq (w_seq (w_ops (qaa (v := (.i .i64 0)) (qab (p_mv rfl)) (qae (qad ?_))))))
  refine qas ?_
  obtain ⟨o_3, hl_2, z20⟩ := qac z4
  obtain ⟨n_2, hl_2⟩ := hM.loop _ _ _ hl_2
  refine qbe (qbs _ (g58_I1 v0 x2) (g58_J1 v0 x2) ?_ n_2 _ _ _ _ hl_2 ⟨rfl, gl g7, gl rfl, gl g0, gl g2⟩) ?_
  ·clear z20 hl_2
   intro s mm_5 t_3 o hi hr
   obtain ⟨v7, x9, m_5⟩ := s
   obtain ⟨rfl, g7, g9, g0, g2⟩ := hi
   unfold g58_b1 at hr
   refine w_seq (w_seq (w_ops (qaa (qab (p_mv g9)) (qaa (qab (p_mv g2)) ?_))))
   obtain ⟨c35, e35, z21⟩ := qaf hr
   refine qaa (qab (p_bin rfl rfl (b_lss.trans (cb e35)))) (qae (qad ?_))
   rcases qai z21 with ⟨rfl, z22⟩ | ⟨rfl, z22⟩
   ·refine qaq rfl ?_
    refine qaz (qad (w_seq ?_))
    refine qas ?_
    refine w_seq (w_ops (qaa (qab (p_mv g0)) ?_))
    obtain ⟨v39, e39, z23⟩ := qac z22
    obtain ⟨x39, rfl, z24⟩ := qaj z23
    refine qaa (qab (o_len rfl e39)) ?_
    obtain ⟨v40, m_6, e40, z25⟩ := qag z24
    refine qaa (s_mk rfl rfl e40) (qaa (v := v40) (qab (p_mv rfl)) (qae (qad (w_seq (w_seq (w_ops (qaa (v := (.i .i64 0)) (qab (p_mv rfl)) (qae (qad ?_)))))))))
    refine qas ?_
    obtain ⟨o_2, hl_1, z26⟩ := qac z25
    obtain ⟨n_1, hl_1⟩ := hM.loop _ _ _ hl_1
    refine qbe (qbs _ (g58_I2 v0 x2 v7 x9 v40) (g58_J2 v0 x2 v7 x9 v40) ?_ n_1 _ _ _ _ hl_1 ⟨rfl, gl rfl, gl g0, gl g2, gl g7, gl g9, gl rfl⟩) ?_
    ·clear z26 hl_1
     intro s mm_3 t_4 o hi hr
     obtain ⟨x11, m_7⟩ := s
     obtain ⟨rfl, g11, g0, g2, g7, g9, g10⟩ := hi
     unfold g58_b2 at hr
     refine w_seq (w_seq (w_ops (qaa (qab (p_mv g11)) (qaa (qab (p_mv g0)) ?_))))
     obtain ⟨v43, e43, z27⟩ := qac hr
     obtain ⟨x43, rfl, z28⟩ := qaj z27
     refine qaa (qab (o_len rfl e43)) ?_
     obtain ⟨c44, e44, z29⟩ := qaf z28
     refine qaa (qab (p_bin rfl rfl (b_lss.trans (cb e44)))) (qae (qad ?_))
     rcases qai z29 with ⟨rfl, z30⟩ | ⟨rfl, z30⟩
     ·refine qaq rfl ?_
      refine qaz (qad (w_seq ?_))
      refine qas ?_
      refine w_seq (w_ops (qaa (v := (.i .i64 0)) (qab (p_mv rfl)) (qae (qad ?_))))
      refine qas ?_
      obtain ⟨o_1, hl, z31⟩ := qac z30
      obtain ⟨n, hl⟩ := hM.loop _ _ _ hl
      refine qbe (qbs _ (g58_I3 v0 x2 v7 x9 v40 x11) (g58_J3 v0 x2 v7 x9 v40 x11) ?_ n _ _ _ _ hl ⟨rfl, gl rfl, gl g0, gl g2, gl g7, gl g9, gl g10, gl g11⟩) ?_
      ·clear z31 hl
       intro s mm_1 t_5 o hi hr
       obtain ⟨x12, m_8⟩ := s
       obtain ⟨rfl, g12, g0, g2, g7, g9, g10, g11⟩ := hi
       unfold g58_b3 at hr
       refine w_seq (w_seq (w_ops (qaa (qab (p_mv g12)) (qaa (qab (p_mv g0)) (qaa (qab (p_mv g11)) ?_)))))
       obtain ⟨v50, e50, z32⟩ := qac hr
       refine qaa (qab (o_ixS rfl rfl e50)) ?_
       obtain ⟨v51, e51, z33⟩ := qac z32
       obtain ⟨s51, rfl, z34⟩ := qcc z33
       refine qaa (s_ld rfl e51) ?_
       obtain ⟨v52, e52, z35⟩ := qac z34
       obtain ⟨x52, rfl, z36⟩ := qaj z35
       refine qaa (qab (o_len rfl e52)) ?_
       obtain ⟨c53, e53, z37⟩ := qaf z36
       refine qaa (qab (p_bin rfl rfl (b_lss.trans (cb e53)))) (qae (qad ?_))
       rcases qai z37 with ⟨rfl, z38⟩ | ⟨rfl, z38⟩
       ·refine qaq rfl ?_
        refine qaz (qad (w_seq ?_))
        refine qas ?_
        refine w_seq (w_ops (qaa (qab (p_mv g0)) (qaa (qab (p_mv g11)) ?_)))
        obtain ⟨v58, e58, z39⟩ := qac z38
        refine qaa (qab (o_ixS rfl rfl e58)) ?_
        obtain ⟨v59, e59, z40⟩ := qac z39
        obtain ⟨s59, rfl, z41⟩ := qcc z40
        refine qaa (s_ld rfl e59) (qaa (qab (p_mv g12)) ?_)
        obtain ⟨v61, e61, z42⟩ := qac z41
        obtain ⟨x61, rfl, z43⟩ := qaj z42
        refine qaa (qab (qdp rfl rfl e61)) ?_
        obtain ⟨x62, e62, z44⟩ := qah z43
        refine qaa (qab (p_bin rfl rfl (b_sub.trans (ci e62)))) ?_
        obtain ⟨x63, e63, z45⟩ := qah z44
        refine qaa (qab ((p_conv rfl).trans (ci e63))) (qaa (v := (.i .i64 x63)) (qab (p_mv rfl)) (qae (qad ?_)))
        obtain ⟨m_9, ef, z46⟩ := qac z45
        refine w_flt (af := false) rfl ef ?_
        refine qal (v := v40) (f_P rfl (qab (p_mv g10))) ?_
        refine qal (v := (.i .i64 x63)) (f_P rfl (qab (p_mv rfl))) ?_
        refine qal (v := v40) (f_P rfl (qab (p_mv g10))) ?_
        refine qal (v := (.i .i64 x63)) (f_P rfl (qab (p_mv rfl))) ?_
        obtain ⟨v68, e68, z47⟩ := qac z46
        refine qal (v := v68) (f_P rfl (qab (o_ixS rfl rfl e68))) ?_
        obtain ⟨v69, e69, z48⟩ := qac z47
        obtain ⟨x69, rfl, z49⟩ := qaj z48
        refine qal (v := (.i .u64 x69)) (f_P rfl (s_ld rfl e69)) ?_
        refine qal (v := v7) (f_P rfl (qab (p_mv g7))) ?_
        refine qal (v := (.i .i64 x11)) (f_P rfl (qab (p_mv g11))) ?_
        obtain ⟨v72, e72, z50⟩ := qac z49
        refine qal (v := v72) (f_P rfl (qab (o_ixS rfl rfl e72))) ?_
        obtain ⟨v73, e73, z51⟩ := qac z50
        obtain ⟨x73, rfl, z52⟩ := qaj z51
        refine qal (v := (.i .u64 x73)) (f_P rfl (s_ld rfl e73)) ?_
        obtain ⟨v74, m_10, e74, z53⟩ := qag z52
        obtain ⟨x74, rfl, z54⟩ := qaj z53
        refine qal (v := (.i .u64 x74)) (f_N (qbi (mc rfl (mc rfl mn)) (qav hM.call e74))) ?_
        obtain ⟨v75, e75, z55⟩ := qac z54
        refine qal (v := v75) (f_P rfl (qab (o_ixS rfl rfl e75))) ?_
        obtain ⟨vn_1, m_11, en_1, z56⟩ := qag z55
        refine wf_stepN (f_N (s_st rfl rfl en_1)) ?_
        obtain ⟨m_12, ef_1, z57⟩ := qac z56
        refine wf_end ef_1 ?_
        refine qbh ?_
        refine qad (w_ops (qaa (qab (p_mv g12)) ?_))
        obtain ⟨x55, e55, z58⟩ := qah z57
        refine qaa (qab (p_bin rfl rfl (b_add.trans (ci e55)))) (qaa (v := (.i .i64 x55)) (qab (p_mv rfl)) (qae ?_))
        cases z58
        exact ⟨_, _, rfl, rfl, rfl, gl rfl, gl g0, gl g2, gl g7, gl g9, gl g10, gl g11⟩
       ·refine qar rfl ?_
        refine qbt ?_
        refine qbk ?_
        cases z38
        exact ⟨_, _, rfl, qap, rfl, rfl, gl g0, gl g2, gl g7, gl g9, gl g10, gl g11⟩
      ·obtain ⟨m_13, ho⟩ : ∃ z, z = o_1 := ⟨_, rfl⟩
       subst ho
       rintro _ mm t_6 ⟨rfl, rfl, g0, g2, g7, g9, g10, g11⟩
       refine qbu ?_
       refine qbh ?_
       refine qad (w_ops (qaa (qab (p_mv g11)) ?_))
       obtain ⟨x46, e46, z59⟩ := qah z31
       refine qaa (qab (p_bin rfl rfl (b_add.trans (ci e46)))) (qaa (v := (.i .i64 x46)) (qab (p_mv rfl)) (qae ?_))
       cases z59
       exact ⟨_, _, rfl, rfl, rfl, gl rfl, gl g0, gl g2, gl g7, gl g9, gl g10⟩
     ·refine qar rfl ?_
      refine qbt ?_
      refine qbk ?_
      cases z30
      exact ⟨_, _, rfl, qap, rfl, rfl, gl g0, gl g2, gl g9, gl g10⟩
    ·obtain ⟨m_14, ho⟩ : ∃ z, z = o_2 := ⟨_, rfl⟩
     subst ho
     rintro _ mm_2 t_7 ⟨rfl, rfl, g0, g2, g9, g10⟩
     refine qbu ?_
     refine qad (w_ops (qaa (qab (p_mv g10)) (qaa (v := v40) (qab (p_mv rfl)) (qae ?_))))
     refine qbh ?_
     refine qad (w_ops (qaa (qab (p_mv g9)) ?_))
     obtain ⟨x37, e37, z60⟩ := qah z26
     refine qaa (qab (p_bin rfl rfl (b_add.trans (ci e37)))) (qaa (v := (.i .i64 x37)) (qab (p_mv rfl)) (qae ?_))
     cases z60
     exact ⟨_, _, rfl, rfl, rfl, gl rfl, gl rfl, gl g0, gl g2⟩
   ·refine qar rfl ?_
    refine qbt ?_
    refine qbk ?_
    cases z22
    exact ⟨_, _, rfl, qap, rfl, rfl, gl g7⟩
  ·obtain ⟨v7_1, m_15⟩ := o_3
   rintro _ mm_4 t_8 ⟨rfl, rfl, g7⟩
   refine qbu ?_
   refine qad (w_seq (w_ops (qaa (qab (p_mv g7)) (qaa (v := v7_1) (qab (p_mv rfl)) (qae (qad ?_))))))
   refine w_ret ?_
   exact qf qba (rt rfl rn) z20
/- dibber/vine.read -/
abbrev g60_J0 (v11 : AVal) (o : Bool × Mm) (m1 : Mm) (t1 : Tr) : Prop :=
 match o with
 | (c24, m_2) => m_2 = m1 ∧ t1.get 24 = (.b c24) ∧ t1.get 6 = v11
def g60 (M : Means) (ro : List ABlk) (v0 : AVal) (s1 : List UInt8) (m0 : Mm) : Option (AVal × Heap × Nat × Nat) :=
 bindP (callM M.call m0 71 [v0]) fun v10 m_1 =>
 bindO (evP .e (.ext 0 (.c v10))) fun v11 =>
 bindO (evP .e (.ext 1 (.c v10))) fun v12 =>
 asI .i64 v12 fun x12 =>
 qau (!eqI x12 0) fun c14 =>
 cond c14 (
  finM m0.h.length (tupA [AVal.nsl, (.i .i64 x12)]) m_1) (
  bindO (evP .e (.len true (.c (.s s1)))) fun v17 =>
  asI .i64 v17 fun x17 =>
  qau (ltI 30 x17) fun c18 =>
  bindO (cond c18 (
   some (true, m_1)) (
   bindP (callM M.call m_1 92 [v11, (.s s1)]) fun v22 m_3 =>
   asB v22 fun c22 =>
   qau (!c22) fun c23 =>
   some (c23, m_3))) fun ⟨c24, m_2⟩ =>
  cond c24 (
   finM m0.h.length (tupA [AVal.nsl, (.i .i64 5)]) m_2) (
   finM m0.h.length (tupA [v11, (.i .i64 0)]) m_2))
theorem g60_ok {ro : List ABlk} {O : qao} {M : Means} (hM : M.Ok ⟨F, O⟩ ro) {v0 s1 h r} (ho : O 60 [v0, (.s s1)] h = none) (hr : g60 M ro v0 s1 ⟨h, h.length, h.length⟩ = some r) : callX ⟨F, O⟩ ro 60 [v0, (.s s1)] h = some r := by
 refine qbd (F := ⟨F, O⟩) (fn := fn60) (g := g60 M ro v0 s1) ho rfl rfl hr ?_
 clear ho
 clear hr
 intro m0 t0 ht hr
 have g0 : t0.get 0 = v0 := ht 0
 have g1 : t0.get 1 = (.s s1) := ht 1
 clear ht
 unfold g60 at hr
 refine w_seq (w_ops (qaa (v := AVal.nsl) (qab (p_mv rfl)) (qaa (v := (.i .i64 0)) (qab (p_mv rfl)) (qae (qad (w_seq (w_ops (qaa (qab (p_mv g0)) ?_))))))))
 obtain ⟨v10, m_1, e10, z1⟩ := qag hr
 refine qaa (qbi (mc rfl mn) (qav hM.call e10)) (qaa (v := v10) (qab (p_mv rfl)) ?_)
 obtain ⟨v11, e11, z2⟩ := qac z1
 refine qaa (qab (o_ext rfl e11)) ?_
 obtain ⟨v12, e12, z3⟩ := qac z2
 obtain ⟨x12, rfl, z4⟩ := qaj z3
 refine qaa (qab (o_ext rfl e12)) (qaa (v := v11) (qab (p_mv rfl)) (qaa (v := (.i .i64 x12)) (qab (p_mv rfl)) (qae (qad (w_seq (w_seq (w_ops (qaa (v := (.i .i64 x12)) (qab (p_mv rfl)) ?_))))))))
 obtain ⟨c14, e14, z5⟩ := qaf z4
 refine qaa (qab (p_bin rfl rfl (b_neq.trans (cb e14)))) (qae (qad ?_))
 rcases qai z5 with ⟨rfl, z6⟩ | ⟨rfl, z6⟩
 ·refine qaq rfl ?_
  refine w_seq (w_ops (qaa (v := (.i .i64 x12)) (qab (p_mv rfl)) (qaa (v := AVal.nsl) (qab (p_mv rfl)) (qaa (v := (.i .i64 x12)) (qab (p_mv rfl)) (qae (qad ?_))))))
  refine w_ret ?_
  refine qbm ?_
  exact qf qba (rt rfl (rt rfl rn)) z6
 ·refine qar rfl ?_
  refine qaz (qad (w_seq (w_seq (w_ops (qaa (qab (p_mv g1)) ?_)))))
  obtain ⟨v17, e17, z7⟩ := qac z6
  obtain ⟨x17, rfl, z8⟩ := qaj z7
  refine qaa (qab (o_len rfl e17)) ?_
  obtain ⟨c18, e18, z9⟩ := qaf z8
  refine qaa (qab (p_bin rfl rfl (b_gtr.trans (cb e18)))) (qaa (v := (.b c18)) (qab (p_mv rfl)) ?_)
  obtain ⟨o, z10, hk⟩ := qac z9
  refine qbz 5 (g60_J0 v11 o) ?_ ?_
  ·clear hk
   rcases qai z10 with ⟨rfl, z11⟩ | ⟨rfl, z11⟩
   ·refine qam (v := (.b true)) rfl rfl (qam (v := (.b true)) rfl rfl (qam (v := (.b true)) rfl rfl (qam (v := (.b true)) rfl rfl (qaa (v := (.b true)) (qab (qbv rfl rfl)) (qae ?_)))))
    cases z11
    exact ⟨_, _, rfl, rfl, gl rfl, gl rfl⟩
   ·refine qan (v := v11) rfl (qab (p_mv rfl)) (qan (v := (.s s1)) rfl (qab (p_mv g1)) ?_)
    obtain ⟨v22, m_3, e22, z12⟩ := qag z11
    obtain ⟨c22, rfl, z13⟩ := qbp z12
    refine qan (v := (.b c22)) rfl (qbi (mc rfl (mc rfl mn)) (qav hM.call e22)) ?_
    obtain ⟨c23, e23, z14⟩ := qaf z13
    refine qan (v := (.b c23)) rfl (qab ((p_not rfl).trans (cb e23))) (qaa (v := (.b c23)) (qab (qbw rfl rfl)) (qae ?_))
    cases z14
    exact ⟨_, _, rfl, rfl, gl rfl, gl rfl⟩
  ·clear z10
   have hr := hk
   clear hk
   obtain ⟨c24, m_2⟩ := o
   rintro mm t_1 ⟨rfl, g24, g6⟩
   refine qae (qad ?_)
   rcases qai hr with ⟨rfl, z15⟩ | ⟨rfl, z15⟩
   ·refine qaq g24 ?_
    refine w_seq (w_ops (qaa (v := AVal.nsl) (qab (p_mv rfl)) (qaa (v := (.i .i64 5)) (qab (p_mv rfl)) (qae (qad ?_)))))
    refine w_ret ?_
    refine qbm ?_
    exact qf qba (rt rfl (rt rfl rn)) z15
   ·refine qar g24 ?_
    refine qaz (qad (w_seq (w_ops (qaa (qab (p_mv g6)) (qaa (v := v11) (qab (p_mv rfl)) (qaa (v := (.i .i64 0)) (qab (p_mv rfl)) (qae (qad ?_))))))))
    refine w_ret ?_
    exact qf qba (rt rfl (rt rfl rn)) z15
/- (dibber/vine.rules).dies -/
abbrev g61_I0 (s1 : List UInt8) (v11 : AVal) (x12 : Int) (s : Int × Mm) (m1 : Mm) (t1 : Tr) : Prop :=
 match s with
 | (x13, m_2) => m_2 = m1 ∧ t1.get 13 = (.i .i64 x13) ∧ t1.get 1 = (.s s1) ∧ t1.get 11 = v11 ∧ t1.get 12 = (.i .i64 x12)
abbrev g61_J0 (s1 : List UInt8) (v11 : AVal) (x12 : Int) (o : (Mm ⊕ (Int × Bool × Mm))) (e : AExit) (m1 : Mm) (t1 : Tr) : Prop :=
 match o with
 | (.inl mo) => e = (.exit 0) ∧ mo = m1
 | (.inr (y4, y5, mo)) => e = .ret ∧ mo = m1 ∧ t1.get 4 = (.i .i64 y4) ∧ t1.get 5 = (.b y5)
def g61_b0 (M : Means) (ro : List ABlk) (s1 : List UInt8) (v11 : AVal) (x12 : Int) (x13 : Int) (m_2 : Mm) : Option ((Int × Mm) ⊕ ((Mm ⊕ (Int × Bool × Mm)))) :=
 qau (ltI x13 x12) fun c14 =>
 cond c14 (
  bindO (evP .e (.ixS 1 (.c v11) (.c (.i .i64 x13)))) fun v16 =>
  bindO (ldM ro m_2 true 1 v16) fun v17 =>
  bindP (callM M.call m_2 49 [v17, (.s s1)]) fun v20 m_3 =>
  asI .u64 v20 fun x20 =>
  qau (eqI x20 0) fun c21 =>
  cond c21 (
   some (.inr (.inr (x13, true, m_3)))) (
   qaw (wr .i64 (x13 + 1)) fun x23 =>
   some (.inl (x23, m_3)))) (
  some (.inr (.inl m_2)))
def g61 (M : Means) (ro : List ABlk) (v0 : AVal) (s1 : List UInt8) (m0 : Mm) : Option (AVal × Heap × Nat × Nat) :=
 bindO (evP .e (.len false (.c v0))) fun v10 =>
 asI .i64 v10 fun x10 =>
 bindP (callM M.call m0 48 [v0, (.i .i64 x10)]) fun v11 m_1 =>
 bindO (evP .e (.len false (.c v11))) fun v12 =>
 asI .i64 v12 fun x12 =>
 bindO (M.loop (S := Int × Mm) (R := (Mm ⊕ (Int × Bool × Mm))) (fun s => g61_b0 M ro s1 v11 x12 s.1 s.2) (0, m_1)) fun o => match o with
 | (.inl m_4) =>
  finM m0.h.length (tupA [(.i .i64 0), (.b false)]) m_4
 | (.inr (x4, c5, m_5)) =>
  finM m0.h.length (tupA [(.i .i64 x4), (.b c5)]) m_5
theorem g61_ok {ro : List ABlk} {O : qao} {M : Means} (hM : M.Ok ⟨F, O⟩ ro) {v0 s1 h r} (ho : O 61 [v0, (.s s1)] h = none) (hr : g61 M ro v0 s1 ⟨h, h.length, h.length⟩ = some r) : callX ⟨F, O⟩ ro 61 [v0, (.s s1)] h = some r := by
 refine qbd (F := ⟨F, O⟩) (fn := fn61) (g := g61 M ro v0 s1) ho rfl rfl hr ?_
 clear ho
 clear hr
 intro m0 t0 ht hr
 have g0 : t0.get 0 = v0 := ht 0
 have g1 : t0.get 1 = (.s s1) := ht 1
 clear ht
 unfold g61 at hr
 refine w_seq (w_ops (qaa (v := (.i .i64 0)) (qab (p_mv rfl)) (qaa (v := (.b false)) (qab (p_mv rfl)) (qae (qad (w_seq (w_seq (w_ops (qaa (qab (p_mv g0)) (qaa (qab (p_mv g0)) ?_))))))))))
 obtain ⟨v10, e10, z1⟩ := qac hr
 obtain ⟨x10, rfl, z2⟩ := qaj z1
 refine qaa (qab (o_len rfl e10)) ?_
 obtain ⟨v11, m_1, e11, z3⟩ := qag z2
 refine qaa (qbi (mc rfl (mc rfl mn)) (qav hM.call e11)) ?_
 obtain ⟨v12, e12, z4⟩ := qac z3
 obtain ⟨x12, rfl, z5⟩ := qaj z4
 refine qaa (qab (o_len rfl e12)) (qaa (v := (.i .i64 0)) (qab (p_mv rfl)) (qae (qad ?_)))
 refine qas ?_
 obtain ⟨o, hl, z6⟩ := qac z5
 obtain ⟨n, hl⟩ := hM.loop _ _ _ hl
 refine qbe (qbs _ (g61_I0 s1 v11 x12) (g61_J0 s1 v11 x12) ?_ n _ _ _ _ hl ⟨rfl, gl rfl, gl g1, gl rfl, gl rfl⟩) ?_
 ·clear z6 hl
  intro s mm_2 t_1 o hi hr
  obtain ⟨x13, m_2⟩ := s
  obtain ⟨rfl, g13, g1, g11, g12⟩ := hi
  unfold g61_b0 at hr
  refine w_seq (w_ops ?_)
  obtain ⟨c14, e14, z7⟩ := qaf hr
  refine qaa (qab (p_bin g13 g12 (b_lss.trans (cb e14)))) (qae (qad (w_seq ?_)))
  rcases qai z7 with ⟨rfl, z8⟩ | ⟨rfl, z8⟩
  ·refine qaq rfl ?_
   refine qaz (qad (w_seq ?_))
   refine qas ?_
   refine w_seq (w_ops (qaa (qab (p_mv g13)) ?_))
   obtain ⟨v16, e16, z9⟩ := qac z8
   refine qaa (qab (o_ixS g11 g13 e16)) ?_
   obtain ⟨v17, e17, z10⟩ := qac z9
   refine qaa (s_ld rfl e17) (qaa (v := (.i .i64 x13)) (qab (p_mv rfl)) (qaa (v := v17) (qab (p_mv rfl)) (qae (qad (w_seq (w_ops (qaa (v := v17) (qab (p_mv rfl)) (qaa (qab (p_mv g1)) ?_))))))))
   obtain ⟨v20, m_3, e20, z11⟩ := qag z10
   obtain ⟨x20, rfl, z12⟩ := qaj z11
   refine qaa (qbi (mc rfl (mc rfl mn)) (qav hM.call e20)) ?_
   obtain ⟨c21, e21, z13⟩ := qaf z12
   refine qaa (qab (p_bin rfl rfl (b_eql.trans (cb e21)))) (qae (qad ?_))
   rcases qai z13 with ⟨rfl, z14⟩ | ⟨rfl, z14⟩
   ·refine qaq rfl ?_
    refine w_seq (w_ops (qaa (v := (.i .i64 x13)) (qab (p_mv rfl)) (qaa (v := (.i .i64 x13)) (qab (p_mv rfl)) (qaa (v := (.b true)) (qab (p_mv rfl)) (qae (qad ?_))))))
    refine w_ret ?_
    refine qcj ?_
    refine qbm ?_
    cases z14
    exact ⟨_, _, rfl, qca, rfl, rfl, gl rfl, gl rfl⟩
   ·refine qar rfl ?_
    refine qaz ?_
    refine qbh ?_
    refine qad (w_ops ?_)
    obtain ⟨x23, e23, z15⟩ := qah z14
    refine qaa (qab (p_bin g13 rfl (b_add.trans (ci e23)))) (qaa (v := (.i .i64 x23)) (qab (p_mv rfl)) (qae ?_))
    cases z15
    exact ⟨_, _, rfl, rfl, rfl, gl rfl, gl g1, gl g11, gl g12⟩
  ·refine qar rfl ?_
   refine qbt ?_
   refine qbk ?_
   cases z8
   exact ⟨_, _, rfl, qap, rfl, rfl⟩
 ·rcases o with o | o
  ·obtain ⟨m_4, ho⟩ : ∃ z, z = o := ⟨_, rfl⟩
   subst ho
   rintro _ mm t_2 ⟨rfl, rfl⟩
   refine qbu ?_
   refine qad (w_seq (w_ops (qaa (v := (.i .i64 0)) (qab (p_mv rfl)) (qaa (v := (.b false)) (qab (p_mv rfl)) (qae (qad ?_))))))
   refine w_ret ?_
   exact qf qba (rt rfl (rt rfl rn)) z6
  ·obtain ⟨x4, c5, m_5⟩ := o
   rintro _ mm_1 t_3 ⟨rfl, rfl, g4, g5⟩
   refine qcj ?_
   refine qbm ?_
   exact qf qba (rt g4 (rt g5 rn)) z6
/- dibber/dibberref03.dies -/
abbrev g62_I0 (v0 : AVal) (s1 : List UInt8) (s : Int × Mm) (m1 : Mm) (t1 : Tr) : Prop :=
 match s with
 | (x5, m_1) => m_1 = m1 ∧ t1.get 5 = (.i .i64 x5) ∧ t1.get 0 = v0 ∧ t1.get 1 = (.s s1)
abbrev g62_J0 (v0 : AVal) (s1 : List UInt8) (o : (Mm ⊕ (Int × Mm))) (e : AExit) (m1 : Mm) (t1 : Tr) : Prop :=
 match o with
 | (.inl mo) => e = (.exit 0) ∧ mo = m1
 | (.inr (y4, mo)) => e = .ret ∧ mo = m1 ∧ t1.get 4 = (.i .i64 y4)
abbrev g62_I1 (v0 : AVal) (s1 : List UInt8) (x5 : Int) (v18 : AVal) (m_2 : Mm) (s : Bool × Int) (m1 : Mm) (t1 : Tr) : Prop :=
 match s with
 | (c7, x8) => m_2 = m1 ∧ t1.get 7 = (.b c7) ∧ t1.get 8 = (.i .i64 x8) ∧ t1.get 0 = v0 ∧ t1.get 1 = (.s s1) ∧ t1.get 5 = (.i .i64 x5) ∧ t1.get 6 = v18
abbrev g62_J1 (v0 : AVal) (s1 : List UInt8) (x5 : Int) (v18 : AVal) (m_2 : Mm) (o : Bool) (e : AExit) (m1 : Mm) (t1 : Tr) : Prop :=
 match o with
 | y7 => e = (.exit 2) ∧ m_2 = m1 ∧ t1.get 7 = (.b y7) ∧ t1.get 0 = v0 ∧ t1.get 1 = (.s s1) ∧ t1.get 5 = (.i .i64 x5)
abbrev g62_J2 (v0 : AVal) (s1 : List UInt8) (x5 : Int) (v18 : AVal) (x8 : Int) (m_2 : Mm) (o : Bool) (m1 : Mm) (t1 : Tr) : Prop :=
 match o with
 | c32 => m_2 = m1 ∧ t1.get 32 = (.b c32) ∧ t1.get 0 = v0 ∧ t1.get 1 = (.s s1) ∧ t1.get 5 = (.i .i64 x5) ∧ t1.get 6 = v18 ∧ t1.get 8 = (.i .i64 x8)
def g62_b1 (M : Means) (ro : List ABlk) (v0 : AVal) (s1 : List UInt8) (x5 : Int) (v18 : AVal) (m_2 : Mm) (c7 : Bool) (x8 : Int) : Option ((Bool × Int) ⊕ (Bool)) :=
 bindO (evP .e (.len false (.c v18))) fun v21 =>
 asI .i64 v21 fun x21 =>
 qau (ltI x8 x21) fun c22 =>
 cond c22 (
  bindO (cond c7 (
   some true) (
   bindO (evP .e (.ixS 1 (.c v18) (.c (.i .i64 x8)))) fun v29 =>
   bindO (ldM ro m_2 true 1 v29) fun v30 =>
   asI .u64 v30 fun x30 =>
   qau (ltI 0 x30) fun c31 =>
   some c31)) fun c32 =>
  qaw (wr .i64 (x8 + 1)) fun x24 =>
  some (.inl (c32, x24))) (
  some (.inr c7))
def g62_b0 (M : Means) (ro : List ABlk) (v0 : AVal) (s1 : List UInt8) (x5 : Int) (m_1 : Mm) : Option ((Int × Mm) ⊕ ((Mm ⊕ (Int × Mm)))) :=
 bindO (evP .e (.len false (.c v0))) fun v11 =>
 asI .i64 v11 fun x11 =>
 qau (!ltI x11 x5) fun c12 =>
 cond c12 (
  bindP (callM M.call m_1 58 [v0, (.s s1), (.i .i64 x5)]) fun v18 m_2 =>
  bindO (M.loop (S := Bool × Int) (R := Bool) (fun s => g62_b1 M ro v0 s1 x5 v18 m_2 s.1 s.2) (false, 0)) fun c7_1 =>
  qau (!c7_1) fun c34 =>
  cond c34 (
   some (.inr (.inr (x5, m_2)))) (
   qaw (wr .i64 (x5 + 1)) fun x14 =>
   some (.inl (x14, m_2)))) (
  some (.inr (.inl m_1)))
def g62 (M : Means) (ro : List ABlk) (v0 : AVal) (s1 : List UInt8) (m0 : Mm) : Option (AVal × Heap × Nat × Nat) :=
 bindO (M.loop (S := Int × Mm) (R := (Mm ⊕ (Int × Mm))) (fun s => g62_b0 M ro v0 s1 s.1 s.2) (0, m0)) fun o_2 => match o_2 with
 | (.inl m_3) =>
  finM m0.h.length (tupA [(.i .i64 (-1))]) m_3
 | (.inr (x4, m_4)) =>
  finM m0.h.length (tupA [(.i .i64 x4)]) m_4
theorem g62_ok {ro : List ABlk} {O : qao} {M : Means} (hM : M.Ok ⟨F, O⟩ ro) {v0 s1 h r} (ho : O 62 [v0, (.s s1)] h = none) (hr : g62 M ro v0 s1 ⟨h, h.length, h.length⟩ = some r) : callX ⟨F, O⟩ ro 62 [v0, (.s s1)] h = some r := by
 refine qbd (F := ⟨F, O⟩) (fn := fn62) (g := g62 M ro v0 s1) ho rfl rfl hr ?_
 clear ho
 clear hr
 intro m0 t0 ht hr
 have g0 : t0.get 0 = v0 := ht 0
 have g1 : t0.get 1 = (.s s1) := ht 1
 clear ht
 unfold g62 at hr
 refine w_seq (w_ops (qaa (v := (.i .i64 0)) (qab (p_mv rfl)) (qae (qad (w_seq (w_seq (w_ops (qaa (v := (.i .i64 0)) (qab (p_mv rfl)) (qae (qad ?_))))))))))
 refine qas ?_
 obtain ⟨o_2, hl_1, z1⟩ := qac hr
 obtain ⟨n_1, hl_1⟩ := hM.loop _ _ _ hl_1
 refine qbe (qbs _ (g62_I0 v0 s1) (g62_J0 v0 s1) ?_ n_1 _ _ _ _ hl_1 ⟨rfl, gl rfl, gl g0, gl g1⟩) ?_
 ·clear z1 hl_1
  intro s mm_5 t_1 o hi hr
  obtain ⟨x5, m_1⟩ := s
  obtain ⟨rfl, g5, g0, g1⟩ := hi
  unfold g62_b0 at hr
  refine w_seq (w_seq (w_ops (qaa (qab (p_mv g5)) (qaa (qab (p_mv g0)) ?_))))
  obtain ⟨v11, e11, z2⟩ := qac hr
  obtain ⟨x11, rfl, z3⟩ := qaj z2
  refine qaa (qab (o_len rfl e11)) ?_
  obtain ⟨c12, e12, z4⟩ := qaf z3
  refine qaa (qab (p_bin rfl rfl (b_leq.trans (cb e12)))) (qae (qad ?_))
  rcases qai z4 with ⟨rfl, z5⟩ | ⟨rfl, z5⟩
  ·refine qaq rfl ?_
   refine qaz (qad (w_seq ?_))
   refine qas ?_
   refine w_seq (w_ops (qaa (qab (p_mv g0)) (qaa (qab (p_mv g1)) (qaa (qab (p_mv g5)) ?_))))
   obtain ⟨v18, m_2, e18, z6⟩ := qag z5
   refine qaa (qbi (mc rfl (mc rfl (mc rfl mn))) (qav hM.call e18)) (qaa (v := v18) (qab (p_mv rfl)) (qae (qad (w_seq (w_ops (qaa (v := (.b false)) (qab (p_mv rfl)) (qae (qad (w_seq (w_seq (w_ops ?_)))))))))))
   refine qaa (v := (.i .i64 0)) (qab (p_mv rfl)) (qae (qad ?_))
   refine qas ?_
   obtain ⟨o_1, hl, z7⟩ := qac z6
   obtain ⟨n, hl⟩ := hM.loop _ _ _ hl
   refine qbe (qbs _ (g62_I1 v0 s1 x5 v18 m_2) (g62_J1 v0 s1 x5 v18 m_2) ?_ n _ _ _ _ hl ⟨rfl, gl rfl, gl rfl, gl g0, gl g1, gl g5, gl rfl⟩) ?_
   ·clear z7 hl
    intro s mm_2 t_2 o hi hr
    obtain ⟨c7, x8⟩ := s
    obtain ⟨rfl, g7, g8, g0, g1, g5, g6⟩ := hi
    unfold g62_b1 at hr
    refine w_seq (w_seq (w_ops (qaa (qab (p_mv g8)) (qaa (qab (p_mv g6)) ?_))))
    obtain ⟨v21, e21, z8⟩ := qac hr
    obtain ⟨x21, rfl, z9⟩ := qaj z8
    refine qaa (qab (o_len rfl e21)) ?_
    obtain ⟨c22, e22, z10⟩ := qaf z9
    refine qaa (qab (p_bin rfl rfl (b_lss.trans (cb e22)))) (qae (qad ?_))
    rcases qai z10 with ⟨rfl, z11⟩ | ⟨rfl, z11⟩
    ·refine qaq rfl ?_
     refine qaz (qad (w_seq ?_))
     refine qas ?_
     refine w_ops (qaa (qab (p_mv g7)) (qaa (v := (.b c7)) (qab (p_mv rfl)) ?_))
     obtain ⟨o, z12, hk⟩ := qac z11
     refine qbz 6 (g62_J2 v0 s1 x5 v18 x8 m_2 o) ?_ ?_
     ·clear hk
      rcases qai z12 with ⟨rfl, z13⟩ | ⟨rfl, z13⟩
      ·refine qam (v := (.b true)) rfl rfl (qam (v := (.b true)) rfl rfl (qam (v := (.b true)) rfl rfl (qam (v := (.b true)) rfl rfl (qam (v := (.b true)) rfl rfl (qaa (v := (.b true)) (qab (qbv rfl rfl)) (qae ?_))))))
       cases z13
       exact ⟨_, _, rfl, rfl, gl rfl, gl g0, gl g1, gl g5, gl g6, gl g8⟩
      ·refine qan (v := v18) rfl (qab (p_mv g6)) (qan (v := (.i .i64 x8)) rfl (qab (p_mv g8)) ?_)
       obtain ⟨v29, e29, z14⟩ := qac z13
       refine qan (v := v29) rfl (qab (o_ixS rfl rfl e29)) ?_
       obtain ⟨v30, e30, z15⟩ := qac z14
       obtain ⟨x30, rfl, z16⟩ := qaj z15
       refine qan (v := (.i .u64 x30)) rfl (s_ld rfl e30) ?_
       obtain ⟨c31, e31, z17⟩ := qaf z16
       refine qan (v := (.b c31)) rfl (qab (p_bin rfl rfl (b_gtr.trans (cb e31)))) (qaa (v := (.b c31)) (qab (qbw rfl rfl)) (qae ?_))
       cases z17
       exact ⟨_, _, rfl, rfl, gl rfl, gl g0, gl g1, gl g5, gl g6, gl g8⟩
     ·clear z12
      have hr := hk
      clear hk
      obtain ⟨c32, ho⟩ : ∃ z, z = o := ⟨_, rfl⟩
      subst ho
      rintro mm t_3 ⟨rfl, g32, g0, g1, g5, g6, g8⟩
      refine qaa (qab (p_mv g32)) (qae ?_)
      refine qbh ?_
      refine qad (w_ops (qaa (qab (p_mv g8)) ?_))
      obtain ⟨x24, e24, z18⟩ := qah hr
      refine qaa (qab (p_bin rfl rfl (b_add.trans (ci e24)))) (qaa (v := (.i .i64 x24)) (qab (p_mv rfl)) (qae ?_))
      cases z18
      exact ⟨_, _, rfl, rfl, rfl, gl rfl, gl rfl, gl g0, gl g1, gl g5, gl g6⟩
    ·refine qar rfl ?_
     refine qbt ?_
     refine qbk ?_
     cases z11
     exact ⟨_, _, rfl, qap, rfl, rfl, gl g7, gl g0, gl g1, gl g5⟩
   ·obtain ⟨c7_1, ho⟩ : ∃ z, z = o_1 := ⟨_, rfl⟩
    subst ho
    rintro _ mm_1 t_4 ⟨rfl, rfl, g7, g0, g1, g5⟩
    refine qbu ?_
    refine qad (w_seq (w_ops (qaa (qab (p_mv g7)) ?_)))
    obtain ⟨c34, e34, z19⟩ := qaf z7
    refine qaa (qab ((p_not rfl).trans (cb e34))) (qae (qad ?_))
    rcases qai z19 with ⟨rfl, z20⟩ | ⟨rfl, z20⟩
    ·refine qaq rfl ?_
     refine w_seq (w_ops (qaa (qab (p_mv g5)) (qaa (v := (.i .i64 x5)) (qab (p_mv rfl)) (qae (qad ?_)))))
     refine w_ret ?_
     refine qcj ?_
     refine qbm ?_
     cases z20
     exact ⟨_, _, rfl, qca, rfl, rfl, gl rfl⟩
    ·refine qar rfl ?_
     refine qaz ?_
     refine qbh ?_
     refine qad (w_ops (qaa (qab (p_mv g5)) ?_))
     obtain ⟨x14, e14, z21⟩ := qah z20
     refine qaa (qab (p_bin rfl rfl (b_add.trans (ci e14)))) (qaa (v := (.i .i64 x14)) (qab (p_mv rfl)) (qae ?_))
     cases z21
     exact ⟨_, _, rfl, rfl, rfl, gl rfl, gl g0, gl g1⟩
  ·refine qar rfl ?_
   refine qbt ?_
   refine qbk ?_
   cases z5
   exact ⟨_, _, rfl, qap, rfl, rfl⟩
 ·rcases o_2 with o_2 | o_2
  ·obtain ⟨m_3, ho⟩ : ∃ z, z = o_2 := ⟨_, rfl⟩
   subst ho
   rintro _ mm_3 t_5 ⟨rfl, rfl⟩
   refine qbu ?_
   refine qad (w_seq (w_ops (qaa (v := (.i .i64 (-1))) (qab (p_mv rfl)) (qae (qad ?_)))))
   refine w_ret ?_
   exact qf qba (rt rfl rn) z1
  ·obtain ⟨x4, m_4⟩ := o_2
   rintro _ mm_4 t_6 ⟨rfl, rfl, g4⟩
   refine qcj ?_
   refine qbm ?_
   exact qf qba (rt g4 rn) z1
/- (dibber/vine.rules).descent -/
abbrev g63_I0 (v0 : AVal) (v7 : AVal) (v9 : AVal) (x11 : Int) (s : Int × Mm) (m1 : Mm) (t1 : Tr) : Prop :=
 match s with
 | (x12, m_3) => m_3 = m1 ∧ t1.get 12 = (.i .i64 x12) ∧ t1.get 0 = v0 ∧ t1.get 3 = v7 ∧ t1.get 4 = v9 ∧ t1.get 11 = (.i .i64 x11)
abbrev g63_J0 (v0 : AVal) (v7 : AVal) (v9 : AVal) (x11 : Int) (o : Mm) (e : AExit) (m1 : Mm) (t1 : Tr) : Prop :=
 match o with
 | mo => e = (.exit 0) ∧ mo = m1 ∧ t1.get 0 = v0 ∧ t1.get 3 = v7 ∧ t1.get 4 = v9
def g63_b0 (M : Means) (ro : List ABlk) (v0 : AVal) (v7 : AVal) (v9 : AVal) (x11 : Int) (x12 : Int) (m_3 : Mm) : Option ((Int × Mm) ⊕ (Mm)) :=
 qau (ltI x12 x11) fun c13 =>
 cond c13 (
  bindO (evP .e (.ixS 1 (.c v9) (.c (.i .i64 x12)))) fun v17 =>
  bindO (ldM ro m_3 true 1 v17) fun v18 =>
  bindO (evP .e (.ixS 1 (.c v18) (.c (.i .i64 x12)))) fun v20 =>
  bindP (stepM ro m_3 (.st 1 (.c v20) (.c (.b true)))) fun vn m_4 =>
  qaw (wr .i64 (x12 + 1)) fun x21 =>
  some (.inl (x21, m_4))) (
  some (.inr m_3))
abbrev g63_I1 (v9 : AVal) (x23 : Int) (s : AVal × Int × Mm) (m1 : Mm) (t1 : Tr) : Prop :=
 match s with
 | (v3, x24, m_6) => m_6 = m1 ∧ t1.get 3 = v3 ∧ t1.get 24 = (.i .i64 x24) ∧ t1.get 4 = v9 ∧ t1.get 23 = (.i .i64 x23)
abbrev g63_J1 (v9 : AVal) (x23 : Int) (o : (AVal × Mm)) (e : AExit) (m1 : Mm) (t1 : Tr) : Prop :=
 match o with
 | (y3, mo) => e = (.exit 2) ∧ mo = m1 ∧ t1.get 3 = y3
def g63_b1 (M : Means) (ro : List ABlk) (v9 : AVal) (x23 : Int) (v3 : AVal) (x24 : Int) (m_6 : Mm) : Option ((AVal × Int × Mm) ⊕ ((AVal × Mm))) :=
 qau (ltI x24 x23) fun c25 =>
 cond c25 (
  bindP (callM M.call m_6 95 [v3, v9]) fun v28 m_7 =>
  qaw (wr .i64 (x24 + 1)) fun x29 =>
  some (.inl (v28, x29, m_7))) (
  some (.inr (v3, m_6)))
def g63 (M : Means) (ro : List ABlk) (v0 : AVal) (m0 : Mm) : Option (AVal × Heap × Nat × Nat) :=
 bindP (callM M.call m0 93 [v0, (AVal.fn 94 [] [])]) fun v7 m_1 =>
 bindP (callM M.call m_1 93 [v0, (AVal.fn 94 [] [])]) fun v9 m_2 =>
 bindO (evP .e (.len false (.c v9))) fun v11 =>
 asI .i64 v11 fun x11 =>
 bindO (M.loop (S := Int × Mm) (R := Mm) (fun s => g63_b0 M ro v0 v7 v9 x11 s.1 s.2) (0, m_2)) fun m_5 =>
 bindO (evP .e (.len false (.c v0))) fun v23 =>
 asI .i64 v23 fun x23 =>
 bindO (M.loop (S := AVal × Int × Mm) (R := (AVal × Mm)) (fun s => g63_b1 M ro v9 x23 s.1 s.2.1 s.2.2) (v7, 0, m_5)) fun ⟨v3_1, m_8⟩ =>
 finM m0.h.length (tupA [v3_1]) m_8
theorem g63_ok {ro : List ABlk} {O : qao} {M : Means} (hM : M.Ok ⟨F, O⟩ ro) {v0 h r} (ho : O 63 [v0] h = none) (hr : g63 M ro v0 ⟨h, h.length, h.length⟩ = some r) : callX ⟨F, O⟩ ro 63 [v0] h = some r := by
 refine qbd (F := ⟨F, O⟩) (fn := fn63) (g := g63 M ro v0) ho rfl rfl hr ?_
 clear ho
 clear hr
 intro m0 t0 ht hr
 have g0 : t0.get 0 = v0 := ht 0
 clear ht
 unfold g63 at hr
 refine w_seq (w_ops (qaa (v := AVal.nsl) (qab (p_mv rfl)) (qae (qad (w_seq (w_ops (qaa (qab (p_mv g0)) ?_)))))))
 obtain ⟨v7, m_1, e7, z1⟩ := qag hr
 refine qaa (qbi (mc rfl (mc rfl mn)) (qav hM.call e7)) (qaa (qab (p_mv g0)) ?_)
 obtain ⟨v9, m_2, e9, z2⟩ := qag z1
 refine qaa (qbi (mc rfl (mc rfl mn)) (qav hM.call e9)) (qaa (v := v7) (qab (p_mv rfl)) (qaa (v := v9) (qab (p_mv rfl)) (qae (qad (w_seq (w_seq (w_ops (qaa (v := v9) (qab (p_mv rfl)) ?_))))))))
 obtain ⟨v11, e11, z3⟩ := qac z2
 obtain ⟨x11, rfl, z4⟩ := qaj z3
 refine qaa (qab (o_len rfl e11)) (qaa (v := (.i .i64 0)) (qab (p_mv rfl)) (qae (qad ?_)))
 refine qas ?_
 obtain ⟨o, hl_1, z5⟩ := qac z4
 obtain ⟨n_1, hl_1⟩ := hM.loop _ _ _ hl_1
 refine qbe (qbs _ (g63_I0 v0 v7 v9 x11) (g63_J0 v0 v7 v9 x11) ?_ n_1 _ _ _ _ hl_1 ⟨rfl, gl rfl, gl g0, gl rfl, gl rfl, gl rfl⟩) ?_
 ·clear z5 hl_1
  intro s mm_3 t_1 o hi hr
  obtain ⟨x12, m_3⟩ := s
  obtain ⟨rfl, g12, g0, g3, g4, g11⟩ := hi
  unfold g63_b0 at hr
  refine w_seq (w_ops ?_)
  obtain ⟨c13, e13, z6⟩ := qaf hr
  refine qaa (qab (p_bin g12 g11 (b_lss.trans (cb e13)))) (qae (qad (w_seq ?_)))
  rcases qai z6 with ⟨rfl, z7⟩ | ⟨rfl, z7⟩
  ·refine qaq rfl ?_
   refine qaz (qad (w_seq ?_))
   refine qas ?_
   refine w_seq (w_ops (qaa (qab (p_mv g12)) (qaa (v := (.i .i64 x12)) (qab (p_mv rfl)) (qae (qad (w_ops (qaa (qab (p_mv g4)) (qaa (v := (.i .i64 x12)) (qab (p_mv rfl)) ?_))))))))
   obtain ⟨v17, e17, z8⟩ := qac z7
   refine qaa (qab (o_ixS rfl rfl e17)) ?_
   obtain ⟨v18, e18, z9⟩ := qac z8
   refine qaa (s_ld rfl e18) (qaa (v := (.i .i64 x12)) (qab (p_mv rfl)) ?_)
   obtain ⟨v20, e20, z10⟩ := qac z9
   refine qaa (qab (o_ixS rfl rfl e20)) ?_
   obtain ⟨vn, m_4, en, z11⟩ := qag z10
   refine qdz (s_st rfl rfl en) ?_
   refine qae ?_
   refine qbh ?_
   refine qad (w_ops ?_)
   obtain ⟨x21, e21, z12⟩ := qah z11
   refine qaa (qab (p_bin g12 rfl (b_add.trans (ci e21)))) (qaa (v := (.i .i64 x21)) (qab (p_mv rfl)) (qae ?_))
   cases z12
   exact ⟨_, _, rfl, rfl, rfl, gl rfl, gl g0, gl g3, gl g4, gl g11⟩
  ·refine qar rfl ?_
   refine qbt ?_
   refine qbk ?_
   cases z7
   exact ⟨_, _, rfl, qap, rfl, rfl, gl g0, gl g3, gl g4⟩
 ·obtain ⟨m_5, ho⟩ : ∃ z, z = o := ⟨_, rfl⟩
  subst ho
  rintro _ mm_2 t_2 ⟨rfl, rfl, g0, g3, g4⟩
  refine qbu ?_
  refine qad (w_seq (w_seq (w_ops (qaa (qab (p_mv g0)) ?_))))
  obtain ⟨v23, e23, z13⟩ := qac z5
  obtain ⟨x23, rfl, z14⟩ := qaj z13
  refine qaa (qab (o_len rfl e23)) (qaa (v := (.i .i64 0)) (qab (p_mv rfl)) (qae (qad ?_)))
  refine qas ?_
  obtain ⟨o_1, hl, z15⟩ := qac z14
  obtain ⟨n, hl⟩ := hM.loop _ _ _ hl
  refine qbe (qbs _ (g63_I1 v9 x23) (g63_J1 v9 x23) ?_ n _ _ _ _ hl ⟨rfl, gl g3, gl rfl, gl g4, gl rfl⟩) ?_
  ·clear z15 hl
   intro s mm_1 t_3 o hi hr
   obtain ⟨v3, x24, m_6⟩ := s
   obtain ⟨rfl, g3, g24, g4, g23⟩ := hi
   unfold g63_b1 at hr
   refine w_seq (w_ops ?_)
   obtain ⟨c25, e25, z16⟩ := qaf hr
   refine qaa (qab (p_bin g24 g23 (b_lss.trans (cb e25)))) (qae (qad (w_seq ?_)))
   rcases qai z16 with ⟨rfl, z17⟩ | ⟨rfl, z17⟩
   ·refine qaq rfl ?_
    refine qaz (qad (w_seq ?_))
    refine qas ?_
    refine w_ops (qaa (qab (p_mv g3)) (qaa (qab (p_mv g4)) ?_))
    obtain ⟨v28, m_7, e28, z18⟩ := qag z17
    refine qaa (qbi (mc rfl (mc rfl mn)) (qav hM.call e28)) (qaa (v := v28) (qab (p_mv rfl)) (qae ?_))
    refine qbh ?_
    refine qad (w_ops ?_)
    obtain ⟨x29, e29, z19⟩ := qah z18
    refine qaa (qab (p_bin g24 rfl (b_add.trans (ci e29)))) (qaa (v := (.i .i64 x29)) (qab (p_mv rfl)) (qae ?_))
    cases z19
    exact ⟨_, _, rfl, rfl, rfl, gl rfl, gl rfl, gl g4, gl g23⟩
   ·refine qar rfl ?_
    refine qbt ?_
    refine qbk ?_
    cases z17
    exact ⟨_, _, rfl, qap, rfl, rfl, gl g3⟩
  ·obtain ⟨v3_1, m_8⟩ := o_1
   rintro _ mm t_4 ⟨rfl, rfl, g3⟩
   refine qbu ?_
   refine qad (w_seq (w_ops (qaa (qab (p_mv g3)) (qaa (v := v3_1) (qab (p_mv rfl)) (qae (qad ?_))))))
   refine w_ret ?_
   exact qf qba (rt rfl rn) z15
/- (dibber/vine.family).explodes -/
abbrev g64_I0 (x1 : Int) (v2 : AVal) (x8 : Int) (s : Int × Mm) (m1 : Mm) (t1 : Tr) : Prop :=
 match s with
 | (x9, m_2) => m_2 = m1 ∧ t1.get 9 = (.i .i64 x9) ∧ t1.get 1 = (.i .i64 x1) ∧ t1.get 2 = v2 ∧ t1.get 8 = (.i .i64 x8)
abbrev g64_J0 (x1 : Int) (v2 : AVal) (x8 : Int) (o : (Mm ⊕ (Bool × Mm))) (e : AExit) (m1 : Mm) (t1 : Tr) : Prop :=
 match o with
 | (.inl mo) => e = (.exit 0) ∧ mo = m1
 | (.inr (y4, mo)) => e = .ret ∧ mo = m1 ∧ t1.get 4 = (.b y4)
abbrev g64_J1 (x1 : Int) (v2 : AVal) (x9 : Int) (x8 : Int) (m_2 : Mm) (o : Bool) (m1 : Mm) (t1 : Tr) : Prop :=
 match o with
 | c24 => m_2 = m1 ∧ t1.get 24 = (.b c24) ∧ t1.get 1 = (.i .i64 x1) ∧ t1.get 2 = v2 ∧ t1.get 5 = (.i .i64 x9) ∧ t1.get 8 = (.i .i64 x8) ∧ t1.get 9 = (.i .i64 x9)
abbrev g64_J2 (x1 : Int) (v2 : AVal) (x8 : Int) (x9 : Int) (o : Bool × Mm) (m1 : Mm) (t1 : Tr) : Prop :=
 match o with
 | (c29, m_3) => m_3 = m1 ∧ t1.get 29 = (.b c29) ∧ t1.get 1 = (.i .i64 x1) ∧ t1.get 2 = v2 ∧ t1.get 8 = (.i .i64 x8) ∧ t1.get 9 = (.i .i64 x9)
def g64_b0 (M : Means) (ro : List ABlk) (x1 : Int) (v2 : AVal) (x8 : Int) (x9 : Int) (m_2 : Mm) : Option ((Int × Mm) ⊕ ((Mm ⊕ (Bool × Mm)))) :=
 qau (ltI x9 x8) fun c10 =>
 cond c10 (
  qau (eqI x9 x1) fun c14 =>
  bindO (cond c14 (
   some true) (
   bindO (evP .e (.faddr 1 (.c v2))) fun v16 =>
   bindO (ldM ro m_2 true 1 v16) fun v17 =>
   bindO (evP .e (.ixS 1 (.c v17) (.c (.i .i64 x9)))) fun v19 =>
   bindO (ldM ro m_2 true 1 v19) fun v20 =>
   bindO (evP .e (.ixS 1 (.c v20) (.c (.i .i64 x1)))) fun v22 =>
   bindO (ldM ro m_2 true 1 v22) fun v23 =>
   asB v23 fun c23 =>
   some c23)) fun c24 =>
  bindO (cond c24 (
   bindO (ldM ro m_2 false 2 v2) fun v26 =>
   bindP (callM M.call m_2 96 [v26, (.i .i64 x9)]) fun v28 m_4 =>
   asB v28 fun c28 =>
   some (c28, m_4)) (
   some (false, m_2))) fun ⟨c29, m_3⟩ =>
  cond c29 (
   some (.inr (.inr (true, m_3)))) (
   qaw (wr .i64 (x9 + 1)) fun x30 =>
   some (.inl (x30, m_3)))) (
  some (.inr (.inl m_2)))
def g64 (M : Means) (ro : List ABlk) (v0 : AVal) (x1 : Int) (m0 : Mm) : Option (AVal × Heap × Nat × Nat) :=
 bindP (stepM ro m0 (.bx 85 2 (.c v0))) fun v2 m_1 =>
 bindO (evP .e (.faddr 0 (.c v2))) fun v6 =>
 bindO (ldM ro m_1 true 1 v6) fun v7 =>
 bindO (evP .e (.len false (.c v7))) fun v8 =>
 asI .i64 v8 fun x8 =>
 bindO (M.loop (S := Int × Mm) (R := (Mm ⊕ (Bool × Mm))) (fun s => g64_b0 M ro x1 v2 x8 s.1 s.2) (0, m_1)) fun o_2 => match o_2 with
 | (.inl m_5) =>
  finM m0.h.length (tupA [(.b false)]) m_5
 | (.inr (c4, m_6)) =>
  finM m0.h.length (tupA [(.b c4)]) m_6
theorem g64_ok {ro : List ABlk} {O : qao} {M : Means} (hM : M.Ok ⟨F, O⟩ ro) {v0 x1 h r} (ho : O 64 [v0, (.i .i64 x1)] h = none) (hr : g64 M ro v0 x1 ⟨h, h.length, h.length⟩ = some r) : callX ⟨F, O⟩ ro 64 [v0, (.i .i64 x1)] h = some r := by
 refine qbd (F := ⟨F, O⟩) (fn := fn64) (g := g64 M ro v0 x1) ho rfl rfl hr ?_
 clear ho
 clear hr
 intro m0 t0 ht hr
 have g0 : t0.get 0 = v0 := ht 0
 have g1 : t0.get 1 = (.i .i64 x1) := ht 1
 clear ht
 unfold g64 at hr
 refine w_seq (w_ops ?_)
 obtain ⟨v2, m_1, e2, z1⟩ := qag hr
 refine qaa (s_bx g0 e2) (qaa (v := (.b false)) (qab (p_mv rfl)) (qae (qad (w_seq (w_seq (w_ops ?_))))))
 obtain ⟨v6, e6, z2⟩ := qac z1
 refine qaa (qab (o_faddr rfl e6)) ?_
 obtain ⟨v7, e7, z3⟩ := qac z2
 refine qaa (s_ld rfl e7) ?_
 obtain ⟨v8, e8, z4⟩ := qac z3
 obtain ⟨x8, rfl, z5⟩ := qaj z4
 refine qaa (qab (o_len rfl e8)) (qaa (v := (.i .i64 0)) (qab (p_mv rfl)) (qae (qad ?_)))
 refine qas ?_
 obtain ⟨o_2, hl, z6⟩ := qac z5
 obtain ⟨n, hl⟩ := hM.loop _ _ _ hl
 refine qbe (qbs _ (g64_I0 x1 v2 x8) (g64_J0 x1 v2 x8) ?_ n _ _ _ _ hl ⟨rfl, gl rfl, gl g1, gl rfl, gl rfl⟩) ?_
 ·clear z6 hl
  intro s mm_4 t_1 o hi hr
  obtain ⟨x9, m_2⟩ := s
  obtain ⟨rfl, g9, g1, g2, g8⟩ := hi
  unfold g64_b0 at hr
  refine w_seq (w_ops ?_)
  obtain ⟨c10, e10, z7⟩ := qaf hr
  refine qaa (qab (p_bin g9 g8 (b_lss.trans (cb e10)))) (qae (qad (w_seq ?_)))
  rcases qai z7 with ⟨rfl, z8⟩ | ⟨rfl, z8⟩
  ·refine qaq rfl ?_
   refine qaz (qad (w_seq ?_))
   refine qas ?_
   refine w_seq (w_ops (qaa (qab (p_mv g9)) (qaa (v := (.i .i64 x9)) (qab (p_mv rfl)) (qae (qad (w_seq (w_ops (qaa (v := (.i .i64 x9)) (qab (p_mv rfl)) (qaa (qab (p_mv g1)) ?_)))))))))
   obtain ⟨c14, e14, z9⟩ := qaf z8
   refine qaa (qab (p_bin rfl rfl (b_eql.trans (cb e14)))) (qaa (v := (.b c14)) (qab (p_mv rfl)) ?_)
   obtain ⟨o, z10, hk⟩ := qac z9
   refine qbz 9 (g64_J1 x1 v2 x9 x8 m_2 o) ?_ ?_
   ·clear hk
    rcases qai z10 with ⟨rfl, z11⟩ | ⟨rfl, z11⟩
    ·refine qam (v := (.b true)) rfl rfl (qam (v := (.b true)) rfl rfl (qam (v := (.b true)) rfl rfl (qam (v := (.b true)) rfl rfl (qam (v := (.b true)) rfl rfl (qam (v := (.b true)) rfl rfl (qam (v := (.b true)) rfl rfl (qam (v := (.b true)) rfl rfl (qaa (v := (.b true)) (qab (qbv rfl rfl)) (qae ?_)))))))))
     cases z11
     exact ⟨_, _, rfl, rfl, gl rfl, gl g1, gl g2, gl rfl, gl g8, gl g9⟩
    ·obtain ⟨v16, e16, z12⟩ := qac z11
     refine qan (v := v16) rfl (qab (o_faddr g2 e16)) ?_
     obtain ⟨v17, e17, z13⟩ := qac z12
     refine qan (v := v17) rfl (s_ld rfl e17) (qan (v := (.i .i64 x9)) rfl (qab (p_mv rfl)) ?_)
     obtain ⟨v19, e19, z14⟩ := qac z13
     refine qan (v := v19) rfl (qab (o_ixS rfl rfl e19)) ?_
     obtain ⟨v20, e20, z15⟩ := qac z14
     refine qan (v := v20) rfl (s_ld rfl e20) (qan (v := (.i .i64 x1)) rfl (qab (p_mv g1)) ?_)
     obtain ⟨v22, e22, z16⟩ := qac z15
     refine qan (v := v22) rfl (qab (o_ixS rfl rfl e22)) ?_
     obtain ⟨v23, e23, z17⟩ := qac z16
     obtain ⟨c23, rfl, z18⟩ := qbp z17
     refine qan (v := (.b c23)) rfl (s_ld rfl e23) (qaa (v := (.b c23)) (qab (qbw rfl rfl)) (qae ?_))
     cases z18
     exact ⟨_, _, rfl, rfl, gl rfl, gl g1, gl g2, gl rfl, gl g8, gl g9⟩
   ·clear z10
    have hr := hk
    clear hk
    obtain ⟨c24, ho⟩ : ∃ z, z = o := ⟨_, rfl⟩
    subst ho
    rintro mm t_2 ⟨rfl, g24, g1, g2, g5, g8, g9⟩
    refine qaa (qab (p_mv g24)) ?_
    obtain ⟨o_1, z19, hk⟩ := qac hr
    refine qbz 4 (g64_J2 x1 v2 x8 x9 o_1) ?_ ?_
    ·clear hk
     rcases qai z19 with ⟨rfl, z20⟩ | ⟨rfl, z20⟩
     ·obtain ⟨v26, e26, z21⟩ := qac z20
      refine qan (v := v26) rfl (s_ld g2 e26) (qan (v := (.i .i64 x9)) rfl (qab (p_mv g5)) ?_)
      obtain ⟨v28, m_4, e28, z22⟩ := qag z21
      obtain ⟨c28, rfl, z23⟩ := qbp z22
      refine qan (v := (.b c28)) rfl (qbi (mc rfl (mc rfl mn)) (qav hM.call e28)) (qaa (v := (.b c28)) (qab (qbv rfl rfl)) (qae ?_))
      cases z23
      exact ⟨_, _, rfl, rfl, gl rfl, gl g1, gl g2, gl g8, gl g9⟩
     ·refine qam (v := (.b false)) rfl rfl (qam (v := (.b false)) rfl rfl (qam (v := (.b false)) rfl rfl (qaa (v := (.b false)) (qab (qbw rfl rfl)) (qae ?_))))
      cases z20
      exact ⟨_, _, rfl, rfl, gl rfl, gl g1, gl g2, gl g8, gl g9⟩
    ·clear z19
     have hr := hk
     clear hk
     obtain ⟨c29, m_3⟩ := o_1
     rintro mm_1 t_3 ⟨rfl, g29, g1, g2, g8, g9⟩
     refine qae (qad ?_)
     rcases qai hr with ⟨rfl, z24⟩ | ⟨rfl, z24⟩
     ·refine qaq g29 ?_
      refine w_seq (w_ops (qaa (v := (.b true)) (qab (p_mv rfl)) (qae (qad ?_))))
      refine w_ret ?_
      refine qcj ?_
      refine qbm ?_
      cases z24
      exact ⟨_, _, rfl, qca, rfl, rfl, gl rfl⟩
     ·refine qar g29 ?_
      refine qaz ?_
      refine qbh ?_
      refine qad (w_ops ?_)
      obtain ⟨x30, e30, z25⟩ := qah z24
      refine qaa (qab (p_bin g9 rfl (b_add.trans (ci e30)))) (qaa (v := (.i .i64 x30)) (qab (p_mv rfl)) (qae ?_))
      cases z25
      exact ⟨_, _, rfl, rfl, rfl, gl rfl, gl g1, gl g2, gl g8⟩
  ·refine qar rfl ?_
   refine qbt ?_
   refine qbk ?_
   cases z8
   exact ⟨_, _, rfl, qap, rfl, rfl⟩
 ·rcases o_2 with o_2 | o_2
  ·obtain ⟨m_5, ho⟩ : ∃ z, z = o_2 := ⟨_, rfl⟩
   subst ho
   rintro _ mm_2 t_4 ⟨rfl, rfl⟩
   refine qbu ?_
   refine qad (w_seq (w_ops (qaa (v := (.b false)) (qab (p_mv rfl)) (qae (qad ?_)))))
   refine w_ret ?_
   exact qf qba (rt rfl rn) z6
  ·obtain ⟨c4, m_6⟩ := o_2
   rintro _ mm_3 t_5 ⟨rfl, rfl, g4⟩
   refine qcj ?_
   refine qbm ?_
   exact qf qba (rt g4 rn) z6
/- (dibber/vine.family).circles -/
abbrev g65_I0 (x1 : Int) (v2 : AVal) (x9 : Int) (s : Int × Int × Mm) (m1 : Mm) (t1 : Tr) : Prop :=
 match s with
 | (x5, x10, m_2) => m_2 = m1 ∧ t1.get 5 = (.i .i64 x5) ∧ t1.get 10 = (.i .i64 x10) ∧ t1.get 1 = (.i .i64 x1) ∧ t1.get 2 = v2 ∧ t1.get 9 = (.i .i64 x9)
abbrev g65_J0 (x1 : Int) (v2 : AVal) (x9 : Int) (o : (Int × Mm)) (e : AExit) (m1 : Mm) (t1 : Tr) : Prop :=
 match o with
 | (y5, mo) => e = (.exit 0) ∧ mo = m1 ∧ t1.get 5 = (.i .i64 y5) ∧ t1.get 1 = (.i .i64 x1) ∧ t1.get 2 = v2
abbrev g65_J1 (x1 : Int) (v2 : AVal) (x5 : Int) (x10 : Int) (x9 : Int) (m_2 : Mm) (o : Bool) (m1 : Mm) (t1 : Tr) : Prop :=
 match o with
 | c31 => m_2 = m1 ∧ t1.get 31 = (.b c31) ∧ t1.get 1 = (.i .i64 x1) ∧ t1.get 2 = v2 ∧ t1.get 5 = (.i .i64 x5) ∧ t1.get 6 = (.i .i64 x10) ∧ t1.get 9 = (.i .i64 x9) ∧ t1.get 10 = (.i .i64 x10)
abbrev g65_J2 (x1 : Int) (v2 : AVal) (x9 : Int) (x10 : Int) (o : (Int × Mm)) (e : AExit) (m1 : Mm) (t1 : Tr) : Prop :=
 match o with
 | (y5, mo) => e = .norm ∧ mo = m1 ∧ t1.get 5 = (.i .i64 y5) ∧ t1.get 1 = (.i .i64 x1) ∧ t1.get 2 = v2 ∧ t1.get 9 = (.i .i64 x9) ∧ t1.get 10 = (.i .i64 x10)
def g65_b0 (M : Means) (ro : List ABlk) (x1 : Int) (v2 : AVal) (x9 : Int) (x5 : Int) (x10 : Int) (m_2 : Mm) : Option ((Int × Int × Mm) ⊕ ((Int × Mm))) :=
 qau (ltI x10 x9) fun c11 =>
 cond c11 (
  bindO (evP .e (.faddr 1 (.c v2))) fun v13 =>
  bindO (ldM ro m_2 true 1 v13) fun v14 =>
  bindO (evP .e (.ixS 1 (.c v14) (.c (.i .i64 x10)))) fun v16 =>
  bindO (ldM ro m_2 true 1 v16) fun v17 =>
  bindO (evP .e (.ixS 1 (.c v17) (.c (.i .i64 x1)))) fun v19 =>
  bindO (ldM ro m_2 true 1 v19) fun v20 =>
  asB v20 fun c20 =>
  bindO (cond c20 (
   bindO (evP .e (.faddr 1 (.c v2))) fun v22 =>
   bindO (ldM ro m_2 true 1 v22) fun v23 =>
   bindO (evP .e (.ixS 1 (.c v23) (.c (.i .i64 x1)))) fun v25 =>
   bindO (ldM ro m_2 true 1 v25) fun v26 =>
   bindO (evP .e (.ixS 1 (.c v26) (.c (.i .i64 x10)))) fun v28 =>
   bindO (ldM ro m_2 true 1 v28) fun v29 =>
   asB v29 fun c29 =>
   qau (!c29) fun c30 =>
   some c30) (
   some false)) fun c31 =>
  bindO (α := (Int × Mm)) (
   cond c31 (
    bindO (ldM ro m_2 false 2 v2) fun v33 =>
    bindP (callM M.call m_2 65 [v33, (.i .i64 x10)]) fun v35 m_3 =>
    asI .i64 v35 fun x35 =>
    qaw (mxV true x5 x35) fun x36 =>
    some (x36, m_3)) (
    some (x5, m_2))) fun ⟨x5_1, m_4⟩ =>
  qaw (wr .i64 (x10 + 1)) fun x37 =>
  some (.inl (x5_1, x37, m_4))) (
  some (.inr (x5, m_2)))
abbrev g65_J3 (m_5 : Mm) (o : Int) (e : AExit) (m1 : Mm) (t1 : Tr) : Prop :=
 match o with
 | y5 => e = .norm ∧ m_5 = m1 ∧ t1.get 5 = (.i .i64 y5)
def g65 (M : Means) (ro : List ABlk) (v0 : AVal) (x1 : Int) (m0 : Mm) : Option (AVal × Heap × Nat × Nat) :=
 bindP (stepM ro m0 (.bx 85 2 (.c v0))) fun v2 m_1 =>
 bindO (evP .e (.faddr 0 (.c v2))) fun v7 =>
 bindO (ldM ro m_1 true 1 v7) fun v8 =>
 bindO (evP .e (.len false (.c v8))) fun v9 =>
 asI .i64 v9 fun x9 =>
 bindO (M.loop (S := Int × Int × Mm) (R := (Int × Mm)) (fun s => g65_b0 M ro x1 v2 x9 s.1 s.2.1 s.2.2) (0, 0, m_1)) fun ⟨x5_2, m_5⟩ =>
 bindO (evP .e (.faddr 1 (.c v2))) fun v38 =>
 bindO (ldM ro m_5 true 1 v38) fun v39 =>
 bindO (evP .e (.ixS 1 (.c v39) (.c (.i .i64 x1)))) fun v41 =>
 bindO (ldM ro m_5 true 1 v41) fun v42 =>
 bindO (evP .e (.ixS 1 (.c v42) (.c (.i .i64 x1)))) fun v44 =>
 bindO (ldM ro m_5 true 1 v44) fun v45 =>
 asB v45 fun c45 =>
 bindO (α := Int) (
  cond c45 (
   qaw (wr .i64 (x5_2 + 1)) fun x47 =>
   some x47) (
   some x5_2)) fun x5_3 =>
 finM m0.h.length (tupA [(.i .i64 x5_3)]) m_5
theorem g65_ok {ro : List ABlk} {O : qao} {M : Means} (hM : M.Ok ⟨F, O⟩ ro) {v0 x1 h r} (ho : O 65 [v0, (.i .i64 x1)] h = none) (hr : g65 M ro v0 x1 ⟨h, h.length, h.length⟩ = some r) : callX ⟨F, O⟩ ro 65 [v0, (.i .i64 x1)] h = some r := by
 refine qbd (F := ⟨F, O⟩) (fn := fn65) (g := g65 M ro v0 x1) ho rfl rfl hr ?_
 clear ho
 clear hr
 intro m0 t0 ht hr
 have g0 : t0.get 0 = v0 := ht 0
 have g1 : t0.get 1 = (.i .i64 x1) := ht 1
 clear ht
 unfold g65 at hr
 refine w_seq (w_ops ?_)
 obtain ⟨v2, m_1, e2, z1⟩ := qag hr
 refine qaa (s_bx g0 e2) (qaa (v := (.i .i64 0)) (qab (p_mv rfl)) (qae (qad (w_seq (w_ops (qaa (v := (.i .i64 0)) (qab (p_mv rfl)) (qae (qad (w_seq (w_seq (w_ops ?_)))))))))))
 obtain ⟨v7, e7, z2⟩ := qac z1
 refine qaa (qab (o_faddr rfl e7)) ?_
 obtain ⟨v8, e8, z3⟩ := qac z2
 refine qaa (s_ld rfl e8) ?_
 obtain ⟨v9, e9, z4⟩ := qac z3
 obtain ⟨x9, rfl, z5⟩ := qaj z4
 refine qaa (qab (o_len rfl e9)) (qaa (v := (.i .i64 0)) (qab (p_mv rfl)) (qae (qad ?_)))
 refine qas ?_
 obtain ⟨o_2, hl, z6⟩ := qac z5
 obtain ⟨n, hl⟩ := hM.loop _ _ _ hl
 refine qbe (qbs _ (g65_I0 x1 v2 x9) (g65_J0 x1 v2 x9) ?_ n _ _ _ _ hl ⟨rfl, gl rfl, gl rfl, gl g1, gl rfl, gl rfl⟩) ?_
 ·clear z6 hl
  intro s mm_4 t_1 o hi hr
  obtain ⟨x5, x10, m_2⟩ := s
  obtain ⟨rfl, g5, g10, g1, g2, g9⟩ := hi
  unfold g65_b0 at hr
  refine w_seq (w_ops ?_)
  obtain ⟨c11, e11, z7⟩ := qaf hr
  refine qaa (qab (p_bin g10 g9 (b_lss.trans (cb e11)))) (qae (qad (w_seq ?_)))
  rcases qai z7 with ⟨rfl, z8⟩ | ⟨rfl, z8⟩
  ·refine qaq rfl ?_
   refine qaz (qad (w_seq ?_))
   refine qas ?_
   refine w_seq (w_ops (qaa (qab (p_mv g10)) (qaa (v := (.i .i64 x10)) (qab (p_mv rfl)) (qae (qad (w_seq (w_ops ?_)))))))
   obtain ⟨v13, e13, z9⟩ := qac z8
   refine qaa (qab (o_faddr g2 e13)) ?_
   obtain ⟨v14, e14, z10⟩ := qac z9
   refine qaa (s_ld rfl e14) (qaa (v := (.i .i64 x10)) (qab (p_mv rfl)) ?_)
   obtain ⟨v16, e16, z11⟩ := qac z10
   refine qaa (qab (o_ixS rfl rfl e16)) ?_
   obtain ⟨v17, e17, z12⟩ := qac z11
   refine qaa (s_ld rfl e17) (qaa (qab (p_mv g1)) ?_)
   obtain ⟨v19, e19, z13⟩ := qac z12
   refine qaa (qab (o_ixS rfl rfl e19)) ?_
   obtain ⟨v20, e20, z14⟩ := qac z13
   obtain ⟨c20, rfl, z15⟩ := qbp z14
   refine qaa (s_ld rfl e20) (qaa (v := (.b c20)) (qab (p_mv rfl)) ?_)
   obtain ⟨o, z16, hk⟩ := qac z15
   refine qbz 10 (g65_J1 x1 v2 x5 x10 x9 m_2 o) ?_ ?_
   ·clear hk
    rcases qai z16 with ⟨rfl, z17⟩ | ⟨rfl, z17⟩
    ·obtain ⟨v22, e22, z18⟩ := qac z17
     refine qan (v := v22) rfl (qab (o_faddr g2 e22)) ?_
     obtain ⟨v23, e23, z19⟩ := qac z18
     refine qan (v := v23) rfl (s_ld rfl e23) (qan (v := (.i .i64 x1)) rfl (qab (p_mv g1)) ?_)
     obtain ⟨v25, e25, z20⟩ := qac z19
     refine qan (v := v25) rfl (qab (o_ixS rfl rfl e25)) ?_
     obtain ⟨v26, e26, z21⟩ := qac z20
     refine qan (v := v26) rfl (s_ld rfl e26) (qan (v := (.i .i64 x10)) rfl (qab (p_mv rfl)) ?_)
     obtain ⟨v28, e28, z22⟩ := qac z21
     refine qan (v := v28) rfl (qab (o_ixS rfl rfl e28)) ?_
     obtain ⟨v29, e29, z23⟩ := qac z22
     obtain ⟨c29, rfl, z24⟩ := qbp z23
     refine qan (v := (.b c29)) rfl (s_ld rfl e29) ?_
     obtain ⟨c30, e30, z25⟩ := qaf z24
     refine qan (v := (.b c30)) rfl (qab ((p_not rfl).trans (cb e30))) (qaa (v := (.b c30)) (qab (qbv rfl rfl)) (qae ?_))
     cases z25
     exact ⟨_, _, rfl, rfl, gl rfl, gl g1, gl g2, gl g5, gl rfl, gl g9, gl g10⟩
    ·refine qam (v := (.b false)) rfl rfl (qam (v := (.b false)) rfl rfl (qam (v := (.b false)) rfl rfl (qam (v := (.b false)) rfl rfl (qam (v := (.b false)) rfl rfl (qam (v := (.b false)) rfl rfl (qam (v := (.b false)) rfl rfl (qam (v := (.b false)) rfl rfl (qam (v := (.b false)) rfl rfl (qaa (v := (.b false)) (qab (qbw rfl rfl)) (qae ?_))))))))))
     cases z17
     exact ⟨_, _, rfl, rfl, gl rfl, gl g1, gl g2, gl g5, gl rfl, gl g9, gl g10⟩
   ·clear z16
    have hr := hk
    clear hk
    obtain ⟨c31, ho⟩ : ∃ z, z = o := ⟨_, rfl⟩
    subst ho
    rintro mm t_2 ⟨rfl, g31, g1, g2, g5, g6, g9, g10⟩
    refine qae (qad ?_)
    obtain ⟨o_1, z26, hk⟩ := qac hr
    refine qbe (J := g65_J2 x1 v2 x9 x10 o_1) ?_ ?_
    ·clear hk
     rcases qai z26 with ⟨rfl, z27⟩ | ⟨rfl, z27⟩
     ·refine qaq g31 ?_
      refine w_ops (qaa (qab (p_mv g5)) ?_)
      obtain ⟨v33, e33, z28⟩ := qac z27
      refine qaa (s_ld g2 e33) (qaa (qab (p_mv g6)) ?_)
      obtain ⟨v35, m_3, e35, z29⟩ := qag z28
      obtain ⟨x35, rfl, z30⟩ := qaj z29
      refine qaa (qbi (mc rfl (mc rfl mn)) (qav hM.call e35)) ?_
      obtain ⟨x36, e36, z31⟩ := qah z30
      refine qaa (qab ((p_mx rfl rfl).trans (ci e36))) (qaa (v := (.i .i64 x36)) (qab (p_mv rfl)) (qae ?_))
      cases z31
      exact ⟨_, _, rfl, rfl, rfl, gl rfl, gl g1, gl g2, gl g9, gl g10⟩
     ·refine qar g31 ?_
      refine qaz ?_
      cases z27
      exact ⟨_, _, rfl, rfl, rfl, gl g5, gl g1, gl g2, gl g9, gl g10⟩
    ·clear z26
     have hr := hk
     clear hk
     obtain ⟨x5_1, m_4⟩ := o_1
     rintro _ mm_1 t_3 ⟨rfl, rfl, g5, g1, g2, g9, g10⟩
     refine qbh ?_
     refine qad (w_ops ?_)
     obtain ⟨x37, e37, z32⟩ := qah hr
     refine qaa (qab (p_bin g10 rfl (b_add.trans (ci e37)))) (qaa (v := (.i .i64 x37)) (qab (p_mv rfl)) (qae ?_))
     cases z32
     exact ⟨_, _, rfl, rfl, rfl, gl g5, gl rfl, gl g1, gl g2, gl g9⟩
  ·refine qar rfl ?_
   refine qbt ?_
   refine qbk ?_
   cases z8
   exact ⟨_, _, rfl, qap, rfl, rfl, gl g5, gl g1, gl g2⟩
 ·obtain ⟨x5_2, m_5⟩ := o_2
  rintro _ mm_3 t_4 ⟨rfl, rfl, g5, g1, g2⟩
  refine qbu ?_
  refine qad (w_seq (w_seq (w_ops ?_)))
  obtain ⟨v38, e38, z33⟩ := qac z6
  refine qaa (qab (o_faddr g2 e38)) ?_
  obtain ⟨v39, e39, z34⟩ := qac z33
  refine qaa (s_ld rfl e39) (qaa (qab (p_mv g1)) ?_)
  obtain ⟨v41, e41, z35⟩ := qac z34
  refine qaa (qab (o_ixS rfl rfl e41)) ?_
  obtain ⟨v42, e42, z36⟩ := qac z35
  refine qaa (s_ld rfl e42) (qaa (qab (p_mv g1)) ?_)
  obtain ⟨v44, e44, z37⟩ := qac z36
  refine qaa (qab (o_ixS rfl rfl e44)) ?_
  obtain ⟨v45, e45, z38⟩ := qac z37
  obtain ⟨c45, rfl, z39⟩ := qbp z38
  refine qaa (s_ld rfl e45) (qae (qad ?_))
  obtain ⟨o_3, z40, hk⟩ := qac z39
  refine qbe (J := g65_J3 m_5 o_3) ?_ ?_
  ·clear hk
   rcases qai z40 with ⟨rfl, z41⟩ | ⟨rfl, z41⟩
   ·refine qaq rfl ?_
    refine w_ops (qaa (qab (p_mv g5)) ?_)
    obtain ⟨x47, e47, z42⟩ := qah z41
    refine qaa (qab (p_bin rfl rfl (b_add.trans (ci e47)))) (qaa (v := (.i .i64 x47)) (qab (p_mv rfl)) (qae ?_))
    cases z42
    exact ⟨_, _, rfl, rfl, rfl, gl rfl⟩
   ·refine qar rfl ?_
    refine qaz ?_
    cases z41
    exact ⟨_, _, rfl, rfl, rfl, gl g5⟩
  ·clear z40
   have hr := hk
   clear hk
   obtain ⟨x5_3, ho⟩ : ∃ z, z = o_3 := ⟨_, rfl⟩
   subst ho
   rintro _ mm_2 t_5 ⟨rfl, rfl, g5⟩
   refine qad (w_seq (w_ops (qaa (qab (p_mv g5)) (qaa (v := (.i .i64 x5_3)) (qab (p_mv rfl)) (qae (qad ?_))))))
   refine w_ret ?_
   exact qf qba (rt rfl rn) hr
/- dibber/dibberref03.reach -/
abbrev g66_I0 (v0 : AVal) (s : AVal × Int × Mm) (m1 : Mm) (t1 : Tr) : Prop :=
 match s with
 | (v3, x4, m_1) => m_1 = m1 ∧ t1.get 3 = v3 ∧ t1.get 4 = (.i .i64 x4) ∧ t1.get 0 = v0
abbrev g66_J0 (v0 : AVal) (o : (AVal × Mm)) (e : AExit) (m1 : Mm) (t1 : Tr) : Prop :=
 match o with
 | (y3, mo) => e = (.exit 0) ∧ mo = m1 ∧ t1.get 3 = y3 ∧ t1.get 0 = v0
abbrev g66_I1 (v0 : AVal) (v3 : AVal) (x4 : Int) (v18 : AVal) (s : Int × Mm) (m1 : Mm) (t1 : Tr) : Prop :=
 match s with
 | (x6, m_3) => m_3 = m1 ∧ t1.get 6 = (.i .i64 x6) ∧ t1.get 0 = v0 ∧ t1.get 3 = v3 ∧ t1.get 4 = (.i .i64 x4) ∧ t1.get 5 = v18
abbrev g66_J1 (v0 : AVal) (v3 : AVal) (x4 : Int) (v18 : AVal) (o : Mm) (e : AExit) (m1 : Mm) (t1 : Tr) : Prop :=
 match o with
 | mo => e = (.exit 2) ∧ mo = m1 ∧ t1.get 0 = v0 ∧ t1.get 3 = v3 ∧ t1.get 4 = (.i .i64 x4) ∧ t1.get 5 = v18
def g66_b1 (M : Means) (ro : List ABlk) (v0 : AVal) (v3 : AVal) (x4 : Int) (v18 : AVal) (x6 : Int) (m_3 : Mm) : Option ((Int × Mm) ⊕ (Mm)) :=
 bindO (evP .e (.ixS 1 (.c v0) (.c (.i .i64 x4)))) fun v22 =>
 bindO (ldM ro m_3 true 1 v22) fun v23 =>
 asS v23 fun s23 =>
 bindO (evP .e (.len true (.c (.s s23)))) fun v24 =>
 asI .i64 v24 fun x24 =>
 qau (ltI x6 x24) fun c25 =>
 cond c25 (
  bindO (evP .e (.ixS 1 (.c v0) (.c (.i .i64 x4)))) fun v31 =>
  bindO (ldM ro m_3 true 1 v31) fun v32 =>
  asS v32 fun s32 =>
  bindO (evP .e (.ixStr (.c (.s s32)) (.c (.i .i64 x6)))) fun v34 =>
  asI .u8 v34 fun x34 =>
  qaw (wr .u8 (x34 - 97)) fun x35 =>
  qaw (wr .i64 x35) fun x36 =>
  bindO (evP .e (.ixS 1 (.c v18) (.c (.i .i64 x36)))) fun v37 =>
  bindP (stepM ro m_3 (.st 1 (.c v37) (.c (.b true)))) fun vn m_4 =>
  qaw (wr .i64 (x6 + 1)) fun x27 =>
  some (.inl (x27, m_4))) (
  some (.inr m_3))
def g66_b0 (M : Means) (ro : List ABlk) (v0 : AVal) (v3 : AVal) (x4 : Int) (m_1 : Mm) : Option ((AVal × Int × Mm) ⊕ ((AVal × Mm))) :=
 bindO (evP .e (.len false (.c v0))) fun v12 =>
 asI .i64 v12 fun x12 =>
 qau (ltI x4 x12) fun c13 =>
 cond c13 (
  bindO (evP .e (.len false (.c v0))) fun v17 =>
  asI .i64 v17 fun x17 =>
  bindP (stepM ro m_1 (.mk 4 1 1 [(AVal.b false)] (.c (.i .i64 x17)) (.c (.i .i64 x17)))) fun v18 m_2 =>
  bindO (M.loop (S := Int × Mm) (R := Mm) (fun s => g66_b1 M ro v0 v3 x4 v18 s.1 s.2) (0, m_2)) fun m_5 =>
  bindP (stepM ro m_5 (.bsl 90 1 [AVal.nsl] 1 [((0, 1), .c v18)])) fun v40 m_6 =>
  bindP (stepM ro m_6 (.app 90 1 24 [AVal.nsl] (.c v3) (.c v40))) fun v41 m_7 =>
  qaw (wr .i64 (x4 + 1)) fun x15 =>
  some (.inl (v41, x15, m_7))) (
  some (.inr (v3, m_1)))
abbrev g66_I2 (v0 : AVal) (v3_1 : AVal) (s : Int × Mm) (m1 : Mm) (t1 : Tr) : Prop :=
 match s with
 | (x7, m_9) => m_9 = m1 ∧ t1.get 7 = (.i .i64 x7) ∧ t1.get 0 = v0 ∧ t1.get 3 = v3_1
abbrev g66_J2 (v0 : AVal) (v3_1 : AVal) (o : Mm) (e : AExit) (m1 : Mm) (t1 : Tr) : Prop :=
 match o with
 | mo => e = (.exit 4) ∧ mo = m1 ∧ t1.get 3 = v3_1
abbrev g66_I3 (v0 : AVal) (v3_1 : AVal) (x7 : Int) (s : Int × Mm) (m1 : Mm) (t1 : Tr) : Prop :=
 match s with
 | (x8, m_10) => m_10 = m1 ∧ t1.get 8 = (.i .i64 x8) ∧ t1.get 0 = v0 ∧ t1.get 3 = v3_1 ∧ t1.get 7 = (.i .i64 x7)
abbrev g66_J3 (v0 : AVal) (v3_1 : AVal) (x7 : Int) (o : Mm) (e : AExit) (m1 : Mm) (t1 : Tr) : Prop :=
 match o with
 | mo => e = (.exit 6) ∧ mo = m1 ∧ t1.get 0 = v0 ∧ t1.get 3 = v3_1 ∧ t1.get 7 = (.i .i64 x7)
abbrev g66_I4 (v0 : AVal) (v3_1 : AVal) (x7 : Int) (x8 : Int) (s : Int × Mm) (m1 : Mm) (t1 : Tr) : Prop :=
 match s with
 | (x9, m_11) => m_11 = m1 ∧ t1.get 9 = (.i .i64 x9) ∧ t1.get 0 = v0 ∧ t1.get 3 = v3_1 ∧ t1.get 7 = (.i .i64 x7) ∧ t1.get 8 = (.i .i64 x8)
abbrev g66_J4 (v0 : AVal) (v3_1 : AVal) (x7 : Int) (x8 : Int) (o : Mm) (e : AExit) (m1 : Mm) (t1 : Tr) : Prop :=
 match o with
 | mo => e = (.exit 8) ∧ mo = m1 ∧ t1.get 0 = v0 ∧ t1.get 3 = v3_1 ∧ t1.get 7 = (.i .i64 x7) ∧ t1.get 8 = (.i .i64 x8)
abbrev g66_J5 (v0 : AVal) (v3_1 : AVal) (x7 : Int) (x8 : Int) (x9 : Int) (v63 : AVal) (m_11 : Mm) (o : Bool) (m1 : Mm) (t1 : Tr) : Prop :=
 match o with
 | c89 => m_11 = m1 ∧ t1.get 89 = (.b c89) ∧ t1.get 0 = v0 ∧ t1.get 3 = v3_1 ∧ t1.get 7 = (.i .i64 x7) ∧ t1.get 8 = (.i .i64 x8) ∧ t1.get 9 = (.i .i64 x9) ∧ t1.get 63 = v63 ∧ t1.get 64 = (.i .i64 x9)
abbrev g66_J6 (v0 : AVal) (v3_1 : AVal) (x7 : Int) (x8 : Int) (x9 : Int) (v63 : AVal) (m_11 : Mm) (o : Bool) (m1 : Mm) (t1 : Tr) : Prop :=
 match o with
 | c89_1 => m_11 = m1 ∧ t1.get 89 = (.b c89_1) ∧ t1.get 0 = v0 ∧ t1.get 3 = v3_1 ∧ t1.get 7 = (.i .i64 x7) ∧ t1.get 8 = (.i .i64 x8) ∧ t1.get 9 = (.i .i64 x9) ∧ t1.get 63 = v63 ∧ t1.get 64 = (.i .i64 x9)
def g66_b4 (M : Means) (ro : List ABlk) (v0 : AVal) (v3_1 : AVal) (x7 : Int) (x8 : Int) (x9 : Int) (m_11 : Mm) : Option ((Int × Mm) ⊕ (Mm)) :=
 bindO (evP .e (.len false (.c v0))) fun v56 =>
 asI .i64 v56 fun x56 =>
 qau (ltI x9 x56) fun c57 =>
 cond c57 (
  bindO (evP .e (.ixS 1 (.c v3_1) (.c (.i .i64 x8)))) fun v62 =>
  bindO (ldA ro m_11.h true 1 v62) fun v63 =>
  bindO (evP .e (.ixS 1 (.c v3_1) (.c (.i .i64 x8)))) fun v67 =>
  bindO (ldA ro m_11.h true 1 v67) fun v68 =>
  bindO (evP .e (.ixS 1 (.c v68) (.c (.i .i64 x9)))) fun v70 =>
  bindO (ldA ro m_11.h true 1 v70) fun v71 =>
  asB v71 fun c71 =>
  bindO (cond c71 (
   some true) (
   bindO (evP .e (.ixS 1 (.c v3_1) (.c (.i .i64 x8)))) fun v75 =>
   bindO (ldA ro m_11.h true 1 v75) fun v76 =>
   bindO (evP .e (.ixS 1 (.c v76) (.c (.i .i64 x7)))) fun v78 =>
   bindO (ldA ro m_11.h true 1 v78) fun v79 =>
   asB v79 fun c79 =>
   bindO (cond c79 (
    bindO (evP .e (.ixS 1 (.c v3_1) (.c (.i .i64 x7)))) fun v83 =>
    bindO (ldA ro m_11.h true 1 v83) fun v84 =>
    bindO (evP .e (.ixS 1 (.c v84) (.c (.i .i64 x9)))) fun v86 =>
    bindO (ldA ro m_11.h true 1 v86) fun v87 =>
    asB v87 fun c87 =>
    some c87) (
    some false)) fun c89_1 =>
   some c89_1)) fun c89 =>
  bindO (evP .e (.ixS 1 (.c v63) (.c (.i .i64 x9)))) fun v90 =>
  asP v90 fun qs =>
  bindO (writesM ro [] [(qs, AVal.cells (.b c89))] ⟨m_11.h, m_11.lw, m_11.lp⟩) fun m_12 =>
  qaw (wr .i64 (x9 + 1)) fun x59 =>
  some (.inl (x59, m_12))) (
  some (.inr m_11))
def g66_b3 (M : Means) (ro : List ABlk) (v0 : AVal) (v3_1 : AVal) (x7 : Int) (x8 : Int) (m_10 : Mm) : Option ((Int × Mm) ⊕ (Mm)) :=
 bindO (evP .e (.len false (.c v0))) fun v50 =>
 asI .i64 v50 fun x50 =>
 qau (ltI x8 x50) fun c51 =>
 cond c51 (
  bindO (M.loop (S := Int × Mm) (R := Mm) (fun s => g66_b4 M ro v0 v3_1 x7 x8 s.1 s.2) (0, m_10)) fun m_13 =>
  qaw (wr .i64 (x8 + 1)) fun x53 =>
  some (.inl (x53, m_13))) (
  some (.inr m_10))
def g66_b2 (M : Means) (ro : List ABlk) (v0 : AVal) (v3_1 : AVal) (x7 : Int) (m_9 : Mm) : Option ((Int × Mm) ⊕ (Mm)) :=
 bindO (evP .e (.len false (.c v0))) fun v44 =>
 asI .i64 v44 fun x44 =>
 qau (ltI x7 x44) fun c45 =>
 cond c45 (
  bindO (M.loop (S := Int × Mm) (R := Mm) (fun s => g66_b3 M ro v0 v3_1 x7 s.1 s.2) (0, m_9)) fun m_14 =>
  qaw (wr .i64 (x7 + 1)) fun x47 =>
  some (.inl (x47, m_14))) (
  some (.inr m_9))
def g66 (M : Means) (ro : List ABlk) (v0 : AVal) (m0 : Mm) : Option (AVal × Heap × Nat × Nat) :=
 bindO (M.loop (S := AVal × Int × Mm) (R := (AVal × Mm)) (fun s => g66_b0 M ro v0 s.1 s.2.1 s.2.2) (AVal.nsl, 0, m0)) fun ⟨v3_1, m_8⟩ =>
 bindO (M.loop (S := Int × Mm) (R := Mm) (fun s => g66_b2 M ro v0 v3_1 s.1 s.2) (0, m_8)) fun m_15 =>
 finM m0.h.length (tupA [v3_1]) m_15
theorem g66_ok {ro : List ABlk} {O : qao} {M : Means} (hM : M.Ok ⟨F, O⟩ ro) {v0 h r} (ho : O 66 [v0] h = none) (hr : g66 M ro v0 ⟨h, h.length, h.length⟩ = some r) : callX ⟨F, O⟩ ro 66 [v0] h = some r := by
 refine qbd (F := ⟨F, O⟩) (fn := fn66) (g := g66 M ro v0) ho rfl rfl hr ?_
 clear ho
 clear hr
 intro m0 t0 ht hr
 have g0 : t0.get 0 = v0 := ht 0
 clear ht
 unfold g66 at hr
 refine w_seq (w_ops (qaa (v := AVal.nsl) (qab (p_mv rfl)) (qae (qad (w_seq (w_ops (qaa (v := AVal.nsl) (qab (p_mv rfl)) (qae (qad (w_seq (w_seq ?_)))))))))))
 refine w_ops (qaa (v := (.i .i64 0)) (qab (p_mv rfl)) (qae (qad ?_)))
 refine qas ?_
 obtain ⟨o_1, hl_4, z1⟩ := qac hr
 obtain ⟨n_4, hl_4⟩ := hM.loop _ _ _ hl_4
 refine qbe (qbs _ (g66_I0 v0) (g66_J0 v0) ?_ n_4 _ _ _ _ hl_4 ⟨rfl, gl rfl, gl rfl, gl g0⟩) ?_
 ·clear z1 hl_4
  intro s mm_9 t_1 o hi hr
  obtain ⟨v3, x4, m_1⟩ := s
  obtain ⟨rfl, g3, g4, g0⟩ := hi
  unfold g66_b0 at hr
  refine w_seq (w_seq (w_ops (qaa (qab (p_mv g4)) (qaa (qab (p_mv g0)) ?_))))
  obtain ⟨v12, e12, z2⟩ := qac hr
  obtain ⟨x12, rfl, z3⟩ := qaj z2
  refine qaa (qab (o_len rfl e12)) ?_
  obtain ⟨c13, e13, z4⟩ := qaf z3
  refine qaa (qab (p_bin rfl rfl (b_lss.trans (cb e13)))) (qae (qad ?_))
  rcases qai z4 with ⟨rfl, z5⟩ | ⟨rfl, z5⟩
  ·refine qaq rfl ?_
   refine qaz (qad (w_seq ?_))
   refine qas ?_
   refine w_seq (w_ops (qaa (qab (p_mv g0)) ?_))
   obtain ⟨v17, e17, z6⟩ := qac z5
   obtain ⟨x17, rfl, z7⟩ := qaj z6
   refine qaa (qab (o_len rfl e17)) ?_
   obtain ⟨v18, m_2, e18, z8⟩ := qag z7
   refine qaa (s_mk rfl rfl e18) (qaa (v := v18) (qab (p_mv rfl)) (qae (qad (w_seq (w_seq (w_ops (qaa (v := (.i .i64 0)) (qab (p_mv rfl)) (qae (qad ?_)))))))))
   refine qas ?_
   obtain ⟨o, hl, z9⟩ := qac z8
   obtain ⟨n, hl⟩ := hM.loop _ _ _ hl
   refine qbe (qbs _ (g66_I1 v0 v3 x4 v18) (g66_J1 v0 v3 x4 v18) ?_ n _ _ _ _ hl ⟨rfl, gl rfl, gl g0, gl g3, gl g4, gl rfl⟩) ?_
   ·clear z9 hl
    intro s mm_1 t_2 o hi hr
    obtain ⟨x6, m_3⟩ := s
    obtain ⟨rfl, g6, g0, g3, g4, g5⟩ := hi
    unfold g66_b1 at hr
    refine w_seq (w_seq (w_ops (qaa (qab (p_mv g6)) (qaa (qab (p_mv g0)) (qaa (qab (p_mv g4)) ?_)))))
    obtain ⟨v22, e22, z10⟩ := qac hr
    refine qaa (qab (o_ixS rfl rfl e22)) ?_
    obtain ⟨v23, e23, z11⟩ := qac z10
    obtain ⟨s23, rfl, z12⟩ := qcc z11
    refine qaa (s_ld rfl e23) ?_
    obtain ⟨v24, e24, z13⟩ := qac z12
    obtain ⟨x24, rfl, z14⟩ := qaj z13
    refine qaa (qab (o_len rfl e24)) ?_
    obtain ⟨c25, e25, z15⟩ := qaf z14
    refine qaa (qab (p_bin rfl rfl (b_lss.trans (cb e25)))) (qae (qad ?_))
    rcases qai z15 with ⟨rfl, z16⟩ | ⟨rfl, z16⟩
    ·refine qaq rfl ?_
     refine qaz (qad (w_seq ?_))
     refine qas ?_
     refine w_ops (qaa (qab (p_mv g5)) (qaa (qab (p_mv g0)) (qaa (qab (p_mv g4)) ?_)))
     obtain ⟨v31, e31, z17⟩ := qac z16
     refine qaa (qab (o_ixS rfl rfl e31)) ?_
     obtain ⟨v32, e32, z18⟩ := qac z17
     obtain ⟨s32, rfl, z19⟩ := qcc z18
     refine qaa (s_ld rfl e32) (qaa (qab (p_mv g6)) ?_)
     obtain ⟨v34, e34, z20⟩ := qac z19
     obtain ⟨x34, rfl, z21⟩ := qaj z20
     refine qaa (qab (qdp rfl rfl e34)) ?_
     obtain ⟨x35, e35, z22⟩ := qah z21
     refine qaa (qab (p_bin rfl rfl (b_sub.trans (ci e35)))) ?_
     obtain ⟨x36, e36, z23⟩ := qah z22
     refine qaa (qab ((p_conv rfl).trans (ci e36))) ?_
     obtain ⟨v37, e37, z24⟩ := qac z23
     refine qaa (qab (o_ixS rfl rfl e37)) ?_
     obtain ⟨vn, m_4, en, z25⟩ := qag z24
     refine qdz (s_st rfl rfl en) ?_
     refine qae ?_
     refine qbh ?_
     refine qad (w_ops (qaa (qab (p_mv g6)) ?_))
     obtain ⟨x27, e27, z26⟩ := qah z25
     refine qaa (qab (p_bin rfl rfl (b_add.trans (ci e27)))) (qaa (v := (.i .i64 x27)) (qab (p_mv rfl)) (qae ?_))
     cases z26
     exact ⟨_, _, rfl, rfl, rfl, gl rfl, gl g0, gl g3, gl g4, gl g5⟩
    ·refine qar rfl ?_
     refine qbt ?_
     refine qbk ?_
     cases z16
     exact ⟨_, _, rfl, qap, rfl, rfl, gl g0, gl g3, gl g4, gl g5⟩
   ·obtain ⟨m_5, ho⟩ : ∃ z, z = o := ⟨_, rfl⟩
    subst ho
    rintro _ mm t_3 ⟨rfl, rfl, g0, g3, g4, g5⟩
    refine qbu ?_
    refine qad (w_ops (qaa (qab (p_mv g3)) (qaa (qab (p_mv g5)) ?_)))
    obtain ⟨v40, m_6, e40, z27⟩ := qag z9
    refine qaa (s_bsl (qc rfl qn) e40) ?_
    obtain ⟨v41, m_7, e41, z28⟩ := qag z27
    refine qaa (s_app rfl rfl e41) (qaa (v := v41) (qab (p_mv rfl)) (qae ?_))
    refine qbh ?_
    refine qad (w_ops (qaa (qab (p_mv g4)) ?_))
    obtain ⟨x15, e15, z29⟩ := qah z28
    refine qaa (qab (p_bin rfl rfl (b_add.trans (ci e15)))) (qaa (v := (.i .i64 x15)) (qab (p_mv rfl)) (qae ?_))
    cases z29
    exact ⟨_, _, rfl, rfl, rfl, gl rfl, gl rfl, gl g0⟩
  ·refine qar rfl ?_
   refine qbt ?_
   refine qbk ?_
   cases z5
   exact ⟨_, _, rfl, qap, rfl, rfl, gl g3, gl g0⟩
 ·obtain ⟨v3_1, m_8⟩ := o_1
  rintro _ mm_8 t_4 ⟨rfl, rfl, g3, g0⟩
  refine qbu ?_
  refine qad (w_seq (w_seq (w_ops (qaa (v := (.i .i64 0)) (qab (p_mv rfl)) (qae (qad ?_))))))
  refine qas ?_
  obtain ⟨o_6, hl_3, z30⟩ := qac z1
  obtain ⟨n_3, hl_3⟩ := hM.loop _ _ _ hl_3
  refine qbe (qbs _ (g66_I2 v0 v3_1) (g66_J2 v0 v3_1) ?_ n_3 _ _ _ _ hl_3 ⟨rfl, gl rfl, gl g0, gl g3⟩) ?_
  ·clear z30 hl_3
   intro s mm_7 t_5 o hi hr
   obtain ⟨x7, m_9⟩ := s
   obtain ⟨rfl, g7, g0, g3⟩ := hi
   unfold g66_b2 at hr
   refine w_seq (w_seq (w_ops (qaa (qab (p_mv g7)) (qaa (qab (p_mv g0)) ?_))))
   obtain ⟨v44, e44, z31⟩ := qac hr
   obtain ⟨x44, rfl, z32⟩ := qaj z31
   refine qaa (qab (o_len rfl e44)) ?_
   obtain ⟨c45, e45, z33⟩ := qaf z32
   refine qaa (qab (p_bin rfl rfl (b_lss.trans (cb e45)))) (qae (qad ?_))
   rcases qai z33 with ⟨rfl, z34⟩ | ⟨rfl, z34⟩
   ·refine qaq rfl ?_
    refine qaz (qad (w_seq ?_))
    refine qas ?_
    refine w_seq (w_ops (qaa (v := (.i .i64 0)) (qab (p_mv rfl)) (qae (qad ?_))))
    refine qas ?_
    obtain ⟨o_5, hl_2, z35⟩ := qac z34
    obtain ⟨n_2, hl_2⟩ := hM.loop _ _ _ hl_2
    refine qbe (qbs _ (g66_I3 v0 v3_1 x7) (g66_J3 v0 v3_1 x7) ?_ n_2 _ _ _ _ hl_2 ⟨rfl, gl rfl, gl g0, gl g3, gl g7⟩) ?_
    ·clear z35 hl_2
     intro s mm_5 t_6 o hi hr
     obtain ⟨x8, m_10⟩ := s
     obtain ⟨rfl, g8, g0, g3, g7⟩ := hi
     unfold g66_b3 at hr
     refine w_seq (w_seq (w_ops (qaa (qab (p_mv g8)) (qaa (qab (p_mv g0)) ?_))))
     obtain ⟨v50, e50, z36⟩ := qac hr
     obtain ⟨x50, rfl, z37⟩ := qaj z36
     refine qaa (qab (o_len rfl e50)) ?_
     obtain ⟨c51, e51, z38⟩ := qaf z37
     refine qaa (qab (p_bin rfl rfl (b_lss.trans (cb e51)))) (qae (qad ?_))
     rcases qai z38 with ⟨rfl, z39⟩ | ⟨rfl, z39⟩
     ·refine qaq rfl ?_
      refine qaz (qad (w_seq ?_))
      refine qas ?_
      refine w_seq (w_ops (qaa (v := (.i .i64 0)) (qab (p_mv rfl)) (qae (qad ?_))))
      refine qas ?_
      obtain ⟨o_4, hl_1, z40⟩ := qac z39
      obtain ⟨n_1, hl_1⟩ := hM.loop _ _ _ hl_1
      refine qbe (qbs _ (g66_I4 v0 v3_1 x7 x8) (g66_J4 v0 v3_1 x7 x8) ?_ n_1 _ _ _ _ hl_1 ⟨rfl, gl rfl, gl g0, gl g3, gl g7, gl g8⟩) ?_
      ·clear z40 hl_1
       intro s mm_3 t_7 o hi hr
       obtain ⟨x9, m_11⟩ := s
       obtain ⟨rfl, g9, g0, g3, g7, g8⟩ := hi
       unfold g66_b4 at hr
       refine w_seq (w_seq (w_ops (qaa (qab (p_mv g9)) (qaa (qab (p_mv g0)) ?_))))
       obtain ⟨v56, e56, z41⟩ := qac hr
       obtain ⟨x56, rfl, z42⟩ := qaj z41
       refine qaa (qab (o_len rfl e56)) ?_
       obtain ⟨c57, e57, z43⟩ := qaf z42
       refine qaa (qab (p_bin rfl rfl (b_lss.trans (cb e57)))) (qae (qad ?_))
       rcases qai z43 with ⟨rfl, z44⟩ | ⟨rfl, z44⟩
       ·refine qaq rfl ?_
        refine qaz (qad (w_seq ?_))
        refine qas ?_
        refine w_any ?_
        refine qcq (v := v3_1) (qcn (p_mv g3)) ?_
        refine qcq (v := (.i .i64 x8)) (qcn (p_mv g8)) ?_
        obtain ⟨v62, e62, z45⟩ := qac z44
        refine qcq (v := v62) (qcn (o_ixS rfl rfl e62)) ?_
        obtain ⟨v63, e63, z46⟩ := qac z45
        refine qcq (v := v63) (a_ld rfl e63) ?_
        refine qcq (v := (.i .i64 x9)) (qcn (p_mv g9)) ?_
        refine qcq (v := v3_1) (qcn (p_mv g3)) ?_
        refine qcq (v := (.i .i64 x8)) (qcn (p_mv g8)) ?_
        obtain ⟨v67, e67, z47⟩ := qac z46
        refine qcq (v := v67) (qcn (o_ixS rfl rfl e67)) ?_
        obtain ⟨v68, e68, z48⟩ := qac z47
        refine qcq (v := v68) (a_ld rfl e68) ?_
        refine qcq (v := (.i .i64 x9)) (qcn (p_mv g9)) ?_
        obtain ⟨v70, e70, z49⟩ := qac z48
        refine qcq (v := v70) (qcn (o_ixS rfl rfl e70)) ?_
        obtain ⟨v71, e71, z50⟩ := qac z49
        obtain ⟨c71, rfl, z51⟩ := qbp z50
        refine qcq (v := (.b c71)) (a_ld rfl e71) ?_
        refine qcq (v := (.b c71)) (qcn (p_mv rfl)) ?_
        obtain ⟨o_2, z52, hk⟩ := qac z51
        refine wa_join 17 (JA (g66_J5 v0 v3_1 x7 x8 x9 v63 m_11 o_2) m_11 (m_11.h) [] []) ?_ ?_
        ·clear hk
         rcases qai z52 with ⟨rfl, z53⟩ | ⟨rfl, z53⟩
         ·refine qcf (v := (.b true)) rfl rfl ?_
          refine qcf (v := (.b true)) rfl rfl ?_
          refine qcf (v := (.b true)) rfl rfl ?_
          refine qcf (v := (.b true)) rfl rfl ?_
          refine qcf (v := (.b true)) rfl rfl ?_
          refine qcf (v := (.b true)) rfl rfl ?_
          refine qcf (v := (.b true)) rfl rfl ?_
          refine qcf (v := (.b true)) rfl rfl ?_
          refine qcf (v := und) rfl rfl ?_
          refine qcf (v := und) rfl rfl ?_
          refine qcf (v := und) rfl rfl ?_
          refine qcf (v := und) rfl rfl ?_
          refine qcf (v := und) rfl rfl ?_
          refine qcf (v := und) rfl rfl ?_
          refine qcf (v := und) rfl rfl ?_
          refine qcf (v := (.b true)) rfl rfl ?_
          refine qcq (v := (.b true)) (qcn (qbv rfl rfl)) ?_
          refine wa_nil ?_
          cases z53
          exact ja_in ⟨rfl, gl rfl, gl g0, gl g3, gl g7, gl g8, gl g9, gl rfl, gl rfl⟩
         ·refine qcp (v := v3_1) rfl (qcn (p_mv g3)) ?_
          refine qcp (v := (.i .i64 x8)) rfl (qcn (p_mv g8)) ?_
          obtain ⟨v75, e75, z54⟩ := qac z53
          refine qcp (v := v75) rfl (qcn (o_ixS rfl rfl e75)) ?_
          obtain ⟨v76, e76, z55⟩ := qac z54
          refine qcp (v := v76) rfl (a_ld rfl e76) ?_
          refine qcp (v := (.i .i64 x7)) rfl (qcn (p_mv g7)) ?_
          obtain ⟨v78, e78, z56⟩ := qac z55
          refine qcp (v := v78) rfl (qcn (o_ixS rfl rfl e78)) ?_
          obtain ⟨v79, e79, z57⟩ := qac z56
          obtain ⟨c79, rfl, z58⟩ := qbp z57
          refine qcp (v := (.b c79)) rfl (a_ld rfl e79) ?_
          refine qcp (v := (.b c79)) rfl (qcn (p_mv rfl)) ?_
          obtain ⟨o_3, z59, hk⟩ := qac z58
          refine wa_join 9 (JA (g66_J6 v0 v3_1 x7 x8 x9 v63 m_11 o_3) m_11 (m_11.h) [] []) ?_ ?_
          ·clear hk
           rcases qai z59 with ⟨rfl, z60⟩ | ⟨rfl, z60⟩
           ·refine qcp (v := v3_1) rfl (qcn (p_mv g3)) ?_
            refine qcp (v := (.i .i64 x7)) rfl (qcn (p_mv g7)) ?_
            obtain ⟨v83, e83, z61⟩ := qac z60
            refine qcp (v := v83) rfl (qcn (o_ixS rfl rfl e83)) ?_
            obtain ⟨v84, e84, z62⟩ := qac z61
            refine qcp (v := v84) rfl (a_ld rfl e84) ?_
            refine qcp (v := (.i .i64 x9)) rfl (qcn (p_mv g9)) ?_
            obtain ⟨v86, e86, z63⟩ := qac z62
            refine qcp (v := v86) rfl (qcn (o_ixS rfl rfl e86)) ?_
            obtain ⟨v87, e87, z64⟩ := qac z63
            obtain ⟨c87, rfl, z65⟩ := qbp z64
            refine qcp (v := (.b c87)) rfl (a_ld rfl e87) ?_
            refine qcp (v := (.b c87)) rfl (qcn (qbv rfl rfl)) ?_
            refine qcq (v := (.b c87)) (qcn (qbw rfl rfl)) ?_
            refine wa_nil ?_
            cases z65
            exact ja_in ⟨rfl, gl rfl, gl g0, gl g3, gl g7, gl g8, gl g9, gl rfl, gl rfl⟩
           ·refine qcf (v := (.b false)) rfl rfl ?_
            refine qcf (v := (.b false)) rfl rfl ?_
            refine qcf (v := (.b false)) rfl rfl ?_
            refine qcf (v := (.b false)) rfl rfl ?_
            refine qcf (v := (.b false)) rfl rfl ?_
            refine qcf (v := (.b false)) rfl rfl ?_
            refine qcf (v := (.b false)) rfl rfl ?_
            refine qcp (v := (.b false)) rfl (qcn (qbw rfl rfl)) ?_
            refine qcq (v := (.b false)) (qcn (qbw rfl rfl)) ?_
            refine wa_nil ?_
            cases z60
            exact ja_in ⟨rfl, gl rfl, gl g0, gl g3, gl g7, gl g8, gl g9, gl rfl, gl rfl⟩
          ·clear z59
           have hr := hk
           clear hk
           obtain ⟨c89_1, ho⟩ : ∃ z, z = o_3 := ⟨_, rfl⟩
           subst ho
           refine ja_out ?_
           rintro t_8 ⟨-, g89, g0, g3, g7, g8, g9, g63, g64⟩
           refine wa_nil ?_
           cases hr
           exact ja_in ⟨rfl, gl g89, gl g0, gl g3, gl g7, gl g8, gl g9, gl g63, gl g64⟩
        ·clear z52
         have hr := hk
         clear hk
         obtain ⟨c89, ho⟩ : ∃ z, z = o_2 := ⟨_, rfl⟩
         subst ho
         refine ja_out ?_
         rintro t_9 ⟨-, g89, g0, g3, g7, g8, g9, g63, g64⟩
         obtain ⟨v90, e90, z66⟩ := qac hr
         refine qcq (v := v90) (qcn (o_ixS g63 g64 e90)) ?_
         obtain ⟨qs, eqs, z67⟩ := asP_inv z66
         refine wa_stepN (a_st (Eq.trans (b := v90) rfl eqs) g89 rfl) ?_
         obtain ⟨m_12, ew, z68⟩ := qac z67
         refine wa_nil ?_
         refine ⟨m_12, wM2_nil ew, ?_⟩
         refine qbh ?_
         refine qad (w_ops (qaa (qab (p_mv g9)) ?_))
         obtain ⟨x59, e59, z69⟩ := qah z68
         refine qaa (qab (p_bin rfl rfl (b_add.trans (ci e59)))) (qaa (v := (.i .i64 x59)) (qab (p_mv rfl)) (qae ?_))
         cases z69
         exact ⟨_, _, rfl, rfl, rfl, gl rfl, gl g0, gl g3, gl g7, gl g8⟩
       ·refine qar rfl ?_
        refine qbt ?_
        refine qbk ?_
        cases z44
        exact ⟨_, _, rfl, qap, rfl, rfl, gl g0, gl g3, gl g7, gl g8⟩
      ·obtain ⟨m_13, ho⟩ : ∃ z, z = o_4 := ⟨_, rfl⟩
       subst ho
       rintro _ mm_2 t_10 ⟨rfl, rfl, g0, g3, g7, g8⟩
       refine qbu ?_
       refine qbh ?_
       refine qad (w_ops (qaa (qab (p_mv g8)) ?_))
       obtain ⟨x53, e53, z70⟩ := qah z40
       refine qaa (qab (p_bin rfl rfl (b_add.trans (ci e53)))) (qaa (v := (.i .i64 x53)) (qab (p_mv rfl)) (qae ?_))
       cases z70
       exact ⟨_, _, rfl, rfl, rfl, gl rfl, gl g0, gl g3, gl g7⟩
     ·refine qar rfl ?_
      refine qbt ?_
      refine qbk ?_
      cases z39
      exact ⟨_, _, rfl, qap, rfl, rfl, gl g0, gl g3, gl g7⟩
    ·obtain ⟨m_14, ho⟩ : ∃ z, z = o_5 := ⟨_, rfl⟩
     subst ho
     rintro _ mm_4 t_11 ⟨rfl, rfl, g0, g3, g7⟩
     refine qbu ?_
     refine qbh ?_
     refine qad (w_ops (qaa (qab (p_mv g7)) ?_))
     obtain ⟨x47, e47, z71⟩ := qah z35
     refine qaa (qab (p_bin rfl rfl (b_add.trans (ci e47)))) (qaa (v := (.i .i64 x47)) (qab (p_mv rfl)) (qae ?_))
     cases z71
     exact ⟨_, _, rfl, rfl, rfl, gl rfl, gl g0, gl g3⟩
   ·refine qar rfl ?_
    refine qbt ?_
    refine qbk ?_
    cases z34
    exact ⟨_, _, rfl, qap, rfl, rfl, gl g3⟩
  ·obtain ⟨m_15, ho⟩ : ∃ z, z = o_6 := ⟨_, rfl⟩
   subst ho
   rintro _ mm_6 t_12 ⟨rfl, rfl, g3⟩
   refine qbu ?_
   refine qad (w_seq (w_ops (qaa (qab (p_mv g3)) (qaa (v := v3_1) (qab (p_mv rfl)) (qae (qad ?_))))))
   refine w_ret ?_
   exact qf qba (rt rfl rn) z30
/- dibber/dibberref03.again -/
abbrev g67_I0 (v0 : AVal) (v1 : AVal) (x2 : Int) (m0 : Mm) (s : Int × Int) (m1 : Mm) (t1 : Tr) : Prop :=
 match s with
 | (x7, x8) => m0 = m1 ∧ t1.get 7 = (.i .i64 x7) ∧ t1.get 8 = (.i .i64 x8) ∧ t1.get 0 = v0 ∧ t1.get 1 = v1 ∧ t1.get 2 = (.i .i64 x2)
abbrev g67_J0 (v0 : AVal) (v1 : AVal) (x2 : Int) (m0 : Mm) (o : Int) (e : AExit) (m1 : Mm) (t1 : Tr) : Prop :=
 match o with
 | y7 => e = (.exit 0) ∧ m0 = m1 ∧ t1.get 7 = (.i .i64 y7)
abbrev g67_J1 (v0 : AVal) (v1 : AVal) (x2 : Int) (x7 : Int) (x8 : Int) (m0 : Mm) (o : Bool) (m1 : Mm) (t1 : Tr) : Prop :=
 match o with
 | c38 => m0 = m1 ∧ t1.get 38 = (.b c38) ∧ t1.get 0 = v0 ∧ t1.get 1 = v1 ∧ t1.get 2 = (.i .i64 x2) ∧ t1.get 7 = (.i .i64 x7) ∧ t1.get 8 = (.i .i64 x8)
abbrev g67_J2 (v0 : AVal) (v1 : AVal) (x2 : Int) (x8 : Int) (m0 : Mm) (o : Int) (e : AExit) (m1 : Mm) (t1 : Tr) : Prop :=
 match o with
 | y7 => e = .norm ∧ m0 = m1 ∧ t1.get 7 = (.i .i64 y7) ∧ t1.get 0 = v0 ∧ t1.get 1 = v1 ∧ t1.get 2 = (.i .i64 x2) ∧ t1.get 8 = (.i .i64 x8)
def g67_b0 (M : Means) (ro : List ABlk) (v0 : AVal) (v1 : AVal) (x2 : Int) (m0 : Mm) (x7 : Int) (x8 : Int) : Option ((Int × Int) ⊕ (Int)) :=
 bindO (evP .e (.ixS 1 (.c v0) (.c (.i .i64 x2)))) fun v13 =>
 bindO (ldM ro m0 true 1 v13) fun v14 =>
 asS v14 fun s14 =>
 bindO (evP .e (.len true (.c (.s s14)))) fun v15 =>
 asI .i64 v15 fun x15 =>
 qau (ltI x8 x15) fun c16 =>
 cond c16 (
  bindO (evP .e (.ixS 1 (.c v0) (.c (.i .i64 x2)))) fun v21 =>
  bindO (ldM ro m0 true 1 v21) fun v22 =>
  asS v22 fun s22 =>
  bindO (evP .e (.ixStr (.c (.s s22)) (.c (.i .i64 x8)))) fun v24 =>
  asI .u8 v24 fun x24 =>
  qaw (wr .u8 (x24 - 97)) fun x25 =>
  qaw (wr .i64 x25) fun x26 =>
  qau (eqI x26 x2) fun c29 =>
  bindO (cond c29 (
   some true) (
   bindO (evP .e (.ixS 1 (.c v1) (.c (.i .i64 x26)))) fun v33 =>
   bindO (ldM ro m0 true 1 v33) fun v34 =>
   bindO (evP .e (.ixS 1 (.c v34) (.c (.i .i64 x2)))) fun v36 =>
   bindO (ldM ro m0 true 1 v36) fun v37 =>
   asB v37 fun c37 =>
   some c37)) fun c38 =>
  bindO (α := Int) (
   cond c38 (
    qaw (wr .i64 (x7 + 1)) fun x40 =>
    some x40) (
    some x7)) fun x7_1 =>
  qaw (wr .i64 (x8 + 1)) fun x18 =>
  some (.inl (x7_1, x18))) (
  some (.inr x7))
def g67 (M : Means) (ro : List ABlk) (v0 : AVal) (v1 : AVal) (x2 : Int) (m0 : Mm) : Option (AVal × Heap × Nat × Nat) :=
 bindO (M.loop (S := Int × Int) (R := Int) (fun s => g67_b0 M ro v0 v1 x2 m0 s.1 s.2) (0, 0)) fun x7_2 =>
 finM m0.h.length (tupA [(.i .i64 x7_2)]) m0
theorem g67_ok {ro : List ABlk} {O : qao} {M : Means} (hM : M.Ok ⟨F, O⟩ ro) {v0 v1 x2 h r} (ho : O 67 [v0, v1, (.i .i64 x2)] h = none) (hr : g67 M ro v0 v1 x2 ⟨h, h.length, h.length⟩ = some r) : callX ⟨F, O⟩ ro 67 [v0, v1, (.i .i64 x2)] h = some r := by
 refine qbd (F := ⟨F, O⟩) (fn := fn67) (g := g67 M ro v0 v1 x2) ho rfl rfl hr ?_
 clear ho
 clear hr
 intro m0 t0 ht hr
 have g0 : t0.get 0 = v0 := ht 0
 have g1 : t0.get 1 = v1 := ht 1
 have g2 : t0.get 2 = (.i .i64 x2) := ht 2
 clear ht
 unfold g67 at hr
 refine w_seq (w_ops (qaa (v := (.i .i64 0)) (qab (p_mv rfl)) (qae (qad (w_seq (w_ops (qaa (v := (.i .i64 0)) (qab (p_mv rfl)) (qae (qad (w_seq (w_seq ?_)))))))))))
 refine w_ops (qaa (v := (.i .i64 0)) (qab (p_mv rfl)) (qae (qad ?_)))
 refine qas ?_
 obtain ⟨o_2, hl, z1⟩ := qac hr
 obtain ⟨n, hl⟩ := hM.loop _ _ _ hl
 refine qbe (qbs _ (g67_I0 v0 v1 x2 m0) (g67_J0 v0 v1 x2 m0) ?_ n _ _ _ _ hl ⟨rfl, gl rfl, gl rfl, gl g0, gl g1, gl g2⟩) ?_
 ·clear z1 hl
  intro s mm_3 t_1 o hi hr
  obtain ⟨x7, x8⟩ := s
  obtain ⟨rfl, g7, g8, g0, g1, g2⟩ := hi
  unfold g67_b0 at hr
  refine w_seq (w_seq (w_ops (qaa (qab (p_mv g8)) (qaa (qab (p_mv g0)) (qaa (qab (p_mv g2)) ?_)))))
  obtain ⟨v13, e13, z2⟩ := qac hr
  refine qaa (qab (o_ixS rfl rfl e13)) ?_
  obtain ⟨v14, e14, z3⟩ := qac z2
  obtain ⟨s14, rfl, z4⟩ := qcc z3
  refine qaa (s_ld rfl e14) ?_
  obtain ⟨v15, e15, z5⟩ := qac z4
  obtain ⟨x15, rfl, z6⟩ := qaj z5
  refine qaa (qab (o_len rfl e15)) ?_
  obtain ⟨c16, e16, z7⟩ := qaf z6
  refine qaa (qab (p_bin rfl rfl (b_lss.trans (cb e16)))) (qae (qad ?_))
  rcases qai z7 with ⟨rfl, z8⟩ | ⟨rfl, z8⟩
  ·refine qaq rfl ?_
   refine qaz (qad (w_seq ?_))
   refine qas ?_
   refine w_seq (w_ops (qaa (qab (p_mv g0)) (qaa (qab (p_mv g2)) ?_)))
   obtain ⟨v21, e21, z9⟩ := qac z8
   refine qaa (qab (o_ixS rfl rfl e21)) ?_
   obtain ⟨v22, e22, z10⟩ := qac z9
   obtain ⟨s22, rfl, z11⟩ := qcc z10
   refine qaa (s_ld rfl e22) (qaa (qab (p_mv g8)) ?_)
   obtain ⟨v24, e24, z12⟩ := qac z11
   obtain ⟨x24, rfl, z13⟩ := qaj z12
   refine qaa (qab (qdp rfl rfl e24)) ?_
   obtain ⟨x25, e25, z14⟩ := qah z13
   refine qaa (qab (p_bin rfl rfl (b_sub.trans (ci e25)))) ?_
   obtain ⟨x26, e26, z15⟩ := qah z14
   refine qaa (qab ((p_conv rfl).trans (ci e26))) (qaa (v := (.i .i64 x26)) (qab (p_mv rfl)) (qae (qad (w_seq (w_ops (qaa (v := (.i .i64 x26)) (qab (p_mv rfl)) (qaa (qab (p_mv g2)) ?_)))))))
   obtain ⟨c29, e29, z16⟩ := qaf z15
   refine qaa (qab (p_bin rfl rfl (b_eql.trans (cb e29)))) (qaa (v := (.b c29)) (qab (p_mv rfl)) ?_)
   obtain ⟨o, z17, hk⟩ := qac z16
   refine qbz 8 (g67_J1 v0 v1 x2 x7 x8 m0 o) ?_ ?_
   ·clear hk
    rcases qai z17 with ⟨rfl, z18⟩ | ⟨rfl, z18⟩
    ·refine qam (v := (.b true)) rfl rfl (qam (v := (.b true)) rfl rfl (qam (v := (.b true)) rfl rfl (qam (v := (.b true)) rfl rfl (qam (v := (.b true)) rfl rfl (qam (v := (.b true)) rfl rfl (qam (v := (.b true)) rfl rfl (qaa (v := (.b true)) (qab (qbv rfl rfl)) (qae ?_))))))))
     cases z18
     exact ⟨_, _, rfl, rfl, gl rfl, gl g0, gl g1, gl g2, gl g7, gl g8⟩
    ·refine qan (v := v1) rfl (qab (p_mv g1)) (qan (v := (.i .i64 x26)) rfl (qab (p_mv rfl)) ?_)
     obtain ⟨v33, e33, z19⟩ := qac z18
     refine qan (v := v33) rfl (qab (o_ixS rfl rfl e33)) ?_
     obtain ⟨v34, e34, z20⟩ := qac z19
     refine qan (v := v34) rfl (s_ld rfl e34) (qan (v := (.i .i64 x2)) rfl (qab (p_mv g2)) ?_)
     obtain ⟨v36, e36, z21⟩ := qac z20
     refine qan (v := v36) rfl (qab (o_ixS rfl rfl e36)) ?_
     obtain ⟨v37, e37, z22⟩ := qac z21
     obtain ⟨c37, rfl, z23⟩ := qbp z22
     refine qan (v := (.b c37)) rfl (s_ld rfl e37) (qaa (v := (.b c37)) (qab (qbw rfl rfl)) (qae ?_))
     cases z23
     exact ⟨_, _, rfl, rfl, gl rfl, gl g0, gl g1, gl g2, gl g7, gl g8⟩
   ·clear z17
    have hr := hk
    clear hk
    obtain ⟨c38, ho⟩ : ∃ z, z = o := ⟨_, rfl⟩
    subst ho
    rintro mm t_2 ⟨rfl, g38, g0, g1, g2, g7, g8⟩
    refine qae (qad ?_)
    obtain ⟨o_1, z24, hk⟩ := qac hr
    refine qbe (J := g67_J2 v0 v1 x2 x8 m0 o_1) ?_ ?_
    ·clear hk
     rcases qai z24 with ⟨rfl, z25⟩ | ⟨rfl, z25⟩
     ·refine qaq g38 ?_
      refine w_ops (qaa (qab (p_mv g7)) ?_)
      obtain ⟨x40, e40, z26⟩ := qah z25
      refine qaa (qab (p_bin rfl rfl (b_add.trans (ci e40)))) (qaa (v := (.i .i64 x40)) (qab (p_mv rfl)) (qae ?_))
      cases z26
      exact ⟨_, _, rfl, rfl, rfl, gl rfl, gl g0, gl g1, gl g2, gl g8⟩
     ·refine qar g38 ?_
      refine qaz ?_
      cases z25
      exact ⟨_, _, rfl, rfl, rfl, gl g7, gl g0, gl g1, gl g2, gl g8⟩
    ·clear z24
     have hr := hk
     clear hk
     obtain ⟨x7_1, ho⟩ : ∃ z, z = o_1 := ⟨_, rfl⟩
     subst ho
     rintro _ mm_1 t_3 ⟨rfl, rfl, g7, g0, g1, g2, g8⟩
     refine qbh ?_
     refine qad (w_ops (qaa (qab (p_mv g8)) ?_))
     obtain ⟨x18, e18, z27⟩ := qah hr
     refine qaa (qab (p_bin rfl rfl (b_add.trans (ci e18)))) (qaa (v := (.i .i64 x18)) (qab (p_mv rfl)) (qae ?_))
     cases z27
     exact ⟨_, _, rfl, rfl, rfl, gl g7, gl rfl, gl g0, gl g1, gl g2⟩
  ·refine qar rfl ?_
   refine qbt ?_
   refine qbk ?_
   cases z8
   exact ⟨_, _, rfl, qap, rfl, rfl, gl g7⟩
 ·obtain ⟨x7_2, ho⟩ : ∃ z, z = o_2 := ⟨_, rfl⟩
  subst ho
  rintro _ mm_2 t_4 ⟨rfl, rfl, g7⟩
  refine qbu ?_
  refine qad (w_seq (w_ops (qaa (qab (p_mv g7)) (qaa (v := (.i .i64 x7_2)) (qab (p_mv rfl)) (qae (qad ?_))))))
  refine w_ret ?_
  exact qf qba (rt rfl rn) z1
/- dibber/dibberref03.deep -/
abbrev g68_I0 (v0 : AVal) (v1 : AVal) (x2 : Int) (s : Int × Int × Mm) (m1 : Mm) (t1 : Tr) : Prop :=
 match s with
 | (x7, x8, m_1) => m_1 = m1 ∧ t1.get 7 = (.i .i64 x7) ∧ t1.get 8 = (.i .i64 x8) ∧ t1.get 0 = v0 ∧ t1.get 1 = v1 ∧ t1.get 2 = (.i .i64 x2)
abbrev g68_J0 (v0 : AVal) (v1 : AVal) (x2 : Int) (o : (Int × Mm)) (e : AExit) (m1 : Mm) (t1 : Tr) : Prop :=
 match o with
 | (y7, mo) => e = (.exit 0) ∧ mo = m1 ∧ t1.get 7 = (.i .i64 y7) ∧ t1.get 1 = v1 ∧ t1.get 2 = (.i .i64 x2)
abbrev g68_J1 (v0 : AVal) (v1 : AVal) (x2 : Int) (x7 : Int) (x8 : Int) (m_1 : Mm) (o : Bool) (m1 : Mm) (t1 : Tr) : Prop :=
 match o with
 | c31 => m_1 = m1 ∧ t1.get 31 = (.b c31) ∧ t1.get 0 = v0 ∧ t1.get 1 = v1 ∧ t1.get 2 = (.i .i64 x2) ∧ t1.get 7 = (.i .i64 x7) ∧ t1.get 8 = (.i .i64 x8)
abbrev g68_J2 (v0 : AVal) (v1 : AVal) (x2 : Int) (x8 : Int) (o : (Int × Mm)) (e : AExit) (m1 : Mm) (t1 : Tr) : Prop :=
 match o with
 | (y7, mo) => e = .norm ∧ mo = m1 ∧ t1.get 7 = (.i .i64 y7) ∧ t1.get 0 = v0 ∧ t1.get 1 = v1 ∧ t1.get 2 = (.i .i64 x2) ∧ t1.get 8 = (.i .i64 x8)
def g68_b0 (M : Means) (ro : List ABlk) (v0 : AVal) (v1 : AVal) (x2 : Int) (x7 : Int) (x8 : Int) (m_1 : Mm) : Option ((Int × Int × Mm) ⊕ ((Int × Mm))) :=
 bindO (evP .e (.len false (.c v0))) fun v11 =>
 asI .i64 v11 fun x11 =>
 qau (ltI x8 x11) fun c12 =>
 cond c12 (
  bindO (evP .e (.ixS 1 (.c v1) (.c (.i .i64 x2)))) fun v17 =>
  bindO (ldM ro m_1 true 1 v17) fun v18 =>
  bindO (evP .e (.ixS 1 (.c v18) (.c (.i .i64 x8)))) fun v20 =>
  bindO (ldM ro m_1 true 1 v20) fun v21 =>
  asB v21 fun c21 =>
  bindO (cond c21 (
   bindO (evP .e (.ixS 1 (.c v1) (.c (.i .i64 x8)))) fun v25 =>
   bindO (ldM ro m_1 true 1 v25) fun v26 =>
   bindO (evP .e (.ixS 1 (.c v26) (.c (.i .i64 x2)))) fun v28 =>
   bindO (ldM ro m_1 true 1 v28) fun v29 =>
   asB v29 fun c29 =>
   qau (!c29) fun c30 =>
   some c30) (
   some false)) fun c31 =>
  bindO (α := (Int × Mm)) (
   cond c31 (
    bindP (callM M.call m_1 68 [v0, v1, (.i .i64 x8)]) fun v36 m_2 =>
    asI .i64 v36 fun x36 =>
    qaw (mxV true x7 x36) fun x37 =>
    some (x37, m_2)) (
    some (x7, m_1))) fun ⟨x7_1, m_3⟩ =>
  qaw (wr .i64 (x8 + 1)) fun x14 =>
  some (.inl (x7_1, x14, m_3))) (
  some (.inr (x7, m_1)))
abbrev g68_J3 (m_4 : Mm) (o : Int) (e : AExit) (m1 : Mm) (t1 : Tr) : Prop :=
 match o with
 | y7 => e = .norm ∧ m_4 = m1 ∧ t1.get 7 = (.i .i64 y7)
def g68 (M : Means) (ro : List ABlk) (v0 : AVal) (v1 : AVal) (x2 : Int) (m0 : Mm) : Option (AVal × Heap × Nat × Nat) :=
 bindO (M.loop (S := Int × Int × Mm) (R := (Int × Mm)) (fun s => g68_b0 M ro v0 v1 x2 s.1 s.2.1 s.2.2) (0, 0, m0)) fun ⟨x7_2, m_4⟩ =>
 bindO (evP .e (.ixS 1 (.c v1) (.c (.i .i64 x2)))) fun v40 =>
 bindO (ldM ro m_4 true 1 v40) fun v41 =>
 bindO (evP .e (.ixS 1 (.c v41) (.c (.i .i64 x2)))) fun v43 =>
 bindO (ldM ro m_4 true 1 v43) fun v44 =>
 asB v44 fun c44 =>
 bindO (α := Int) (
  cond c44 (
   qaw (wr .i64 (x7_2 + 1)) fun x46 =>
   some x46) (
   some x7_2)) fun x7_3 =>
 finM m0.h.length (tupA [(.i .i64 x7_3)]) m_4
theorem g68_ok {ro : List ABlk} {O : qao} {M : Means} (hM : M.Ok ⟨F, O⟩ ro) {v0 v1 x2 h r} (ho : O 68 [v0, v1, (.i .i64 x2)] h = none) (hr : g68 M ro v0 v1 x2 ⟨h, h.length, h.length⟩ = some r) : callX ⟨F, O⟩ ro 68 [v0, v1, (.i .i64 x2)] h = some r := by
 refine qbd (F := ⟨F, O⟩) (fn := fn68) (g := g68 M ro v0 v1 x2) ho rfl rfl hr ?_
 clear ho
 clear hr
 intro m0 t0 ht hr
 have g0 : t0.get 0 = v0 := ht 0
 have g1 : t0.get 1 = v1 := ht 1
 have g2 : t0.get 2 = (.i .i64 x2) := ht 2
 clear ht
 unfold g68 at hr
 refine w_seq (w_ops (qaa (v := (.i .i64 0)) (qab (p_mv rfl)) (qae (qad (w_seq (w_ops (qaa (v := (.i .i64 0)) (qab (p_mv rfl)) (qae (qad (w_seq (w_seq ?_)))))))))))
 refine w_ops (qaa (v := (.i .i64 0)) (qab (p_mv rfl)) (qae (qad ?_)))
 refine qas ?_
 obtain ⟨o_2, hl, z1⟩ := qac hr
 obtain ⟨n, hl⟩ := hM.loop _ _ _ hl
 refine qbe (qbs _ (g68_I0 v0 v1 x2) (g68_J0 v0 v1 x2) ?_ n _ _ _ _ hl ⟨rfl, gl rfl, gl rfl, gl g0, gl g1, gl g2⟩) ?_
 ·clear z1 hl
  intro s mm_4 t_1 o hi hr
  obtain ⟨x7, x8, m_1⟩ := s
  obtain ⟨rfl, g7, g8, g0, g1, g2⟩ := hi
  unfold g68_b0 at hr
  refine w_seq (w_seq (w_ops (qaa (qab (p_mv g8)) (qaa (qab (p_mv g0)) ?_))))
  obtain ⟨v11, e11, z2⟩ := qac hr
  obtain ⟨x11, rfl, z3⟩ := qaj z2
  refine qaa (qab (o_len rfl e11)) ?_
  obtain ⟨c12, e12, z4⟩ := qaf z3
  refine qaa (qab (p_bin rfl rfl (b_lss.trans (cb e12)))) (qae (qad ?_))
  rcases qai z4 with ⟨rfl, z5⟩ | ⟨rfl, z5⟩
  ·refine qaq rfl ?_
   refine qaz (qad (w_seq ?_))
   refine qas ?_
   refine w_seq (w_ops (qaa (qab (p_mv g1)) (qaa (qab (p_mv g2)) ?_)))
   obtain ⟨v17, e17, z6⟩ := qac z5
   refine qaa (qab (o_ixS rfl rfl e17)) ?_
   obtain ⟨v18, e18, z7⟩ := qac z6
   refine qaa (s_ld rfl e18) (qaa (qab (p_mv g8)) ?_)
   obtain ⟨v20, e20, z8⟩ := qac z7
   refine qaa (qab (o_ixS rfl rfl e20)) ?_
   obtain ⟨v21, e21, z9⟩ := qac z8
   obtain ⟨c21, rfl, z10⟩ := qbp z9
   refine qaa (s_ld rfl e21) (qaa (v := (.b c21)) (qab (p_mv rfl)) ?_)
   obtain ⟨o, z11, hk⟩ := qac z10
   refine qbz 9 (g68_J1 v0 v1 x2 x7 x8 m_1 o) ?_ ?_
   ·clear hk
    rcases qai z11 with ⟨rfl, z12⟩ | ⟨rfl, z12⟩
    ·refine qan (v := v1) rfl (qab (p_mv g1)) (qan (v := (.i .i64 x8)) rfl (qab (p_mv g8)) ?_)
     obtain ⟨v25, e25, z13⟩ := qac z12
     refine qan (v := v25) rfl (qab (o_ixS rfl rfl e25)) ?_
     obtain ⟨v26, e26, z14⟩ := qac z13
     refine qan (v := v26) rfl (s_ld rfl e26) (qan (v := (.i .i64 x2)) rfl (qab (p_mv g2)) ?_)
     obtain ⟨v28, e28, z15⟩ := qac z14
     refine qan (v := v28) rfl (qab (o_ixS rfl rfl e28)) ?_
     obtain ⟨v29, e29, z16⟩ := qac z15
     obtain ⟨c29, rfl, z17⟩ := qbp z16
     refine qan (v := (.b c29)) rfl (s_ld rfl e29) ?_
     obtain ⟨c30, e30, z18⟩ := qaf z17
     refine qan (v := (.b c30)) rfl (qab ((p_not rfl).trans (cb e30))) (qaa (v := (.b c30)) (qab (qbv rfl rfl)) (qae ?_))
     cases z18
     exact ⟨_, _, rfl, rfl, gl rfl, gl g0, gl g1, gl g2, gl g7, gl g8⟩
    ·refine qam (v := (.b false)) rfl rfl (qam (v := (.b false)) rfl rfl (qam (v := (.b false)) rfl rfl (qam (v := (.b false)) rfl rfl (qam (v := (.b false)) rfl rfl (qam (v := (.b false)) rfl rfl (qam (v := (.b false)) rfl rfl (qam (v := (.b false)) rfl rfl (qaa (v := (.b false)) (qab (qbw rfl rfl)) (qae ?_)))))))))
     cases z12
     exact ⟨_, _, rfl, rfl, gl rfl, gl g0, gl g1, gl g2, gl g7, gl g8⟩
   ·clear z11
    have hr := hk
    clear hk
    obtain ⟨c31, ho⟩ : ∃ z, z = o := ⟨_, rfl⟩
    subst ho
    rintro mm t_2 ⟨rfl, g31, g0, g1, g2, g7, g8⟩
    refine qae (qad ?_)
    obtain ⟨o_1, z19, hk⟩ := qac hr
    refine qbe (J := g68_J2 v0 v1 x2 x8 o_1) ?_ ?_
    ·clear hk
     rcases qai z19 with ⟨rfl, z20⟩ | ⟨rfl, z20⟩
     ·refine qaq g31 ?_
      refine w_ops (qaa (qab (p_mv g7)) (qaa (qab (p_mv g0)) (qaa (qab (p_mv g1)) (qaa (qab (p_mv g8)) ?_))))
      obtain ⟨v36, m_2, e36, z21⟩ := qag z20
      obtain ⟨x36, rfl, z22⟩ := qaj z21
      refine qaa (qbi (mc rfl (mc rfl (mc rfl mn))) (qav hM.call e36)) ?_
      obtain ⟨x37, e37, z23⟩ := qah z22
      refine qaa (qab ((p_mx rfl rfl).trans (ci e37))) (qaa (v := (.i .i64 x37)) (qab (p_mv rfl)) (qae ?_))
      cases z23
      exact ⟨_, _, rfl, rfl, rfl, gl rfl, gl g0, gl g1, gl g2, gl g8⟩
     ·refine qar g31 ?_
      refine qaz ?_
      cases z20
      exact ⟨_, _, rfl, rfl, rfl, gl g7, gl g0, gl g1, gl g2, gl g8⟩
    ·clear z19
     have hr := hk
     clear hk
     obtain ⟨x7_1, m_3⟩ := o_1
     rintro _ mm_1 t_3 ⟨rfl, rfl, g7, g0, g1, g2, g8⟩
     refine qbh ?_
     refine qad (w_ops (qaa (qab (p_mv g8)) ?_))
     obtain ⟨x14, e14, z24⟩ := qah hr
     refine qaa (qab (p_bin rfl rfl (b_add.trans (ci e14)))) (qaa (v := (.i .i64 x14)) (qab (p_mv rfl)) (qae ?_))
     cases z24
     exact ⟨_, _, rfl, rfl, rfl, gl g7, gl rfl, gl g0, gl g1, gl g2⟩
  ·refine qar rfl ?_
   refine qbt ?_
   refine qbk ?_
   cases z5
   exact ⟨_, _, rfl, qap, rfl, rfl, gl g7, gl g1, gl g2⟩
 ·obtain ⟨x7_2, m_4⟩ := o_2
  rintro _ mm_3 t_4 ⟨rfl, rfl, g7, g1, g2⟩
  refine qbu ?_
  refine qad (w_seq (w_seq (w_ops (qaa (qab (p_mv g1)) (qaa (qab (p_mv g2)) ?_)))))
  obtain ⟨v40, e40, z25⟩ := qac z1
  refine qaa (qab (o_ixS rfl rfl e40)) ?_
  obtain ⟨v41, e41, z26⟩ := qac z25
  refine qaa (s_ld rfl e41) (qaa (qab (p_mv g2)) ?_)
  obtain ⟨v43, e43, z27⟩ := qac z26
  refine qaa (qab (o_ixS rfl rfl e43)) ?_
  obtain ⟨v44, e44, z28⟩ := qac z27
  obtain ⟨c44, rfl, z29⟩ := qbp z28
  refine qaa (s_ld rfl e44) (qae (qad ?_))
  obtain ⟨o_3, z30, hk⟩ := qac z29
  refine qbe (J := g68_J3 m_4 o_3) ?_ ?_
  ·clear hk
   rcases qai z30 with ⟨rfl, z31⟩ | ⟨rfl, z31⟩
   ·refine qaq rfl ?_
    refine w_ops (qaa (qab (p_mv g7)) ?_)
    obtain ⟨x46, e46, z32⟩ := qah z31
    refine qaa (qab (p_bin rfl rfl (b_add.trans (ci e46)))) (qaa (v := (.i .i64 x46)) (qab (p_mv rfl)) (qae ?_))
    cases z32
    exact ⟨_, _, rfl, rfl, rfl, gl rfl⟩
   ·refine qar rfl ?_
    refine qaz ?_
    cases z31
    exact ⟨_, _, rfl, rfl, rfl, gl g7⟩
  ·clear z30
   have hr := hk
   clear hk
   obtain ⟨x7_3, ho⟩ : ∃ z, z = o_3 := ⟨_, rfl⟩
   subst ho
   rintro _ mm_2 t_5 ⟨rfl, rfl, g7⟩
   refine qad (w_seq (w_ops (qaa (qab (p_mv g7)) (qaa (v := (.i .i64 x7_3)) (qab (p_mv rfl)) (qae (qad ?_))))))
   refine w_ret ?_
   exact qf qba (rt rfl rn) hr
/- dibber/vine.readVine -/
abbrev g71_J0 (v0 : AVal) (m0 : Mm) (o : Bool) (m1 : Mm) (t1 : Tr) : Prop :=
 match o with
 | c14 => m0 = m1 ∧ t1.get 14 = (.b c14) ∧ t1.get 0 = v0
abbrev g71_I1 (v0 : AVal) (x17 : Int) (s : Int × Mm) (m1 : Mm) (t1 : Tr) : Prop :=
 match s with
 | (x18, m_1) => m_1 = m1 ∧ t1.get 18 = (.i .i64 x18) ∧ t1.get 4 = v0 ∧ t1.get 16 = v0 ∧ t1.get 17 = (.i .i64 x17)
abbrev g71_J1 (v0 : AVal) (x17 : Int) (o : (Mm ⊕ (AVal × Int × Mm))) (e : AExit) (m1 : Mm) (t1 : Tr) : Prop :=
 match o with
 | (.inl mo) => e = (.exit 0) ∧ mo = m1 ∧ t1.get 4 = v0
 | (.inr (y2, y3, mo)) => e = .ret ∧ mo = m1 ∧ t1.get 2 = y2 ∧ t1.get 3 = (.i .i64 y3)
abbrev g71_J2 (v0 : AVal) (x17 : Int) (x18 : Int) (o : Bool × Mm) (m1 : Mm) (t1 : Tr) : Prop :=
 match o with
 | (c30, m_2) => m_2 = m1 ∧ t1.get 30 = (.b c30) ∧ t1.get 4 = v0 ∧ t1.get 16 = v0 ∧ t1.get 17 = (.i .i64 x17) ∧ t1.get 18 = (.i .i64 x18)
def g71_b1 (M : Means) (ro : List ABlk) (v0 : AVal) (x17 : Int) (x18 : Int) (m_1 : Mm) : Option ((Int × Mm) ⊕ ((Mm ⊕ (AVal × Int × Mm)))) :=
 qau (ltI x18 x17) fun c19 =>
 cond c19 (
  bindO (evP .e (.ixS 1 (.c v0) (.c (.i .i64 x18)))) fun v20 =>
  bindO (ldM ro m_1 true 1 v20) fun v21 =>
  asS v21 fun s21 =>
  bindO (evP .e (.len true (.c (.s s21)))) fun v23 =>
  asI .i64 v23 fun x23 =>
  qau (ltI 8 x23) fun c24 =>
  bindO (cond c24 (
   some (true, m_1)) (
   bindP (callM M.call m_1 92 [v0, (.s s21)]) fun v28 m_3 =>
   asB v28 fun c28 =>
   qau (!c28) fun c29 =>
   some (c29, m_3))) fun ⟨c30, m_2⟩ =>
  cond c30 (
   some (.inr (.inr (AVal.nsl, 5, m_2)))) (
   qaw (wr .i64 (x18 + 1)) fun x31 =>
   some (.inl (x31, m_2)))) (
  some (.inr (.inl m_1)))
def g71 (M : Means) (ro : List ABlk) (v0 : AVal) (m0 : Mm) : Option (AVal × Heap × Nat × Nat) :=
 bindO (evP .e (.len false (.c v0))) fun v8 =>
 asI .i64 v8 fun x8 =>
 qau (ltI x8 1) fun c9 =>
 bindO (cond c9 (
  some true) (
  bindO (evP .e (.len false (.c v0))) fun v12 =>
  asI .i64 v12 fun x12 =>
  qau (ltI 6 x12) fun c13 =>
  some c13)) fun c14 =>
 cond c14 (
  finM m0.h.length (tupA [AVal.nsl, (.i .i64 2)]) m0) (
  bindO (evP .e (.len false (.c v0))) fun v17 =>
  asI .i64 v17 fun x17 =>
  bindO (M.loop (S := Int × Mm) (R := (Mm ⊕ (AVal × Int × Mm))) (fun s => g71_b1 M ro v0 x17 s.1 s.2) (0, m0)) fun o_2 => match o_2 with
  | (.inl m_4) =>
   finM m0.h.length (tupA [v0, (.i .i64 0)]) m_4
  | (.inr (v2, x3, m_5)) =>
   finM m0.h.length (tupA [v2, (.i .i64 x3)]) m_5)
theorem g71_ok {ro : List ABlk} {O : qao} {M : Means} (hM : M.Ok ⟨F, O⟩ ro) {v0 h r} (ho : O 71 [v0] h = none) (hr : g71 M ro v0 ⟨h, h.length, h.length⟩ = some r) : callX ⟨F, O⟩ ro 71 [v0] h = some r := by
 refine qbd (F := ⟨F, O⟩) (fn := fn71) (g := g71 M ro v0) ho rfl rfl hr ?_
 clear ho
 clear hr
 intro m0 t0 ht hr
 have g0 : t0.get 0 = v0 := ht 0
 clear ht
 unfold g71 at hr
 refine w_seq (w_ops (qaa (v := AVal.nsl) (qab (p_mv rfl)) (qaa (v := (.i .i64 0)) (qab (p_mv rfl)) (qae (qad (w_seq (w_seq (w_ops (qaa (qab (p_mv g0)) ?_)))))))))
 obtain ⟨v8, e8, z1⟩ := qac hr
 obtain ⟨x8, rfl, z2⟩ := qaj z1
 refine qaa (qab (o_len rfl e8)) ?_
 obtain ⟨c9, e9, z3⟩ := qaf z2
 refine qaa (qab (p_bin rfl rfl (b_lss.trans (cb e9)))) (qaa (v := (.b c9)) (qab (p_mv rfl)) ?_)
 obtain ⟨o, z4, hk⟩ := qac z3
 refine qbz 4 (g71_J0 v0 m0 o) ?_ ?_
 ·clear hk
  rcases qai z4 with ⟨rfl, z5⟩ | ⟨rfl, z5⟩
  ·refine qam (v := (.b true)) rfl rfl (qam (v := (.b true)) rfl rfl (qam (v := (.b true)) rfl rfl (qaa (v := (.b true)) (qab (qbv rfl rfl)) (qae ?_))))
   cases z5
   exact ⟨_, _, rfl, rfl, gl rfl, gl g0⟩
  ·refine qan (v := v0) rfl (qab (p_mv g0)) ?_
   obtain ⟨v12, e12, z6⟩ := qac z5
   obtain ⟨x12, rfl, z7⟩ := qaj z6
   refine qan (v := (.i .i64 x12)) rfl (qab (o_len rfl e12)) ?_
   obtain ⟨c13, e13, z8⟩ := qaf z7
   refine qan (v := (.b c13)) rfl (qab (p_bin rfl rfl (b_gtr.trans (cb e13)))) (qaa (v := (.b c13)) (qab (qbw rfl rfl)) (qae ?_))
   cases z8
   exact ⟨_, _, rfl, rfl, gl rfl, gl g0⟩
 ·clear z4
  have hr := hk
  clear hk
  obtain ⟨c14, ho⟩ : ∃ z, z = o := ⟨_, rfl⟩
  subst ho
  rintro mm t_1 ⟨rfl, g14, g0⟩
  refine qae (qad ?_)
  rcases qai hr with ⟨rfl, z9⟩ | ⟨rfl, z9⟩
  ·refine qaq g14 ?_
   refine w_seq (w_ops (qaa (v := AVal.nsl) (qab (p_mv rfl)) (qaa (v := (.i .i64 2)) (qab (p_mv rfl)) (qae (qad ?_)))))
   refine w_ret ?_
   refine qbm ?_
   exact qf qba (rt rfl (rt rfl rn)) z9
  ·refine qar g14 ?_
   refine qaz (qad (w_seq (w_ops (qaa (qab (p_mv g0)) (qaa (v := v0) (qab (p_mv rfl)) (qae (qad (w_seq (w_seq (w_ops (qaa (v := v0) (qab (p_mv rfl)) ?_)))))))))))
   obtain ⟨v17, e17, z10⟩ := qac z9
   obtain ⟨x17, rfl, z11⟩ := qaj z10
   refine qaa (qab (o_len rfl e17)) (qaa (v := (.i .i64 0)) (qab (p_mv rfl)) (qae (qad ?_)))
   refine qas ?_
   obtain ⟨o_2, hl, z12⟩ := qac z11
   obtain ⟨n, hl⟩ := hM.loop _ _ _ hl
   refine qbe (qbs _ (g71_I1 v0 x17) (g71_J1 v0 x17) ?_ n _ _ _ _ hl ⟨rfl, gl rfl, gl rfl, gl rfl, gl rfl⟩) ?_
   ·clear z12 hl
    intro s mm_4 t_2 o hi hr
    obtain ⟨x18, m_1⟩ := s
    obtain ⟨rfl, g18, g4, g16, g17⟩ := hi
    unfold g71_b1 at hr
    refine w_seq (w_ops ?_)
    obtain ⟨c19, e19, z13⟩ := qaf hr
    refine qaa (qab (p_bin g18 g17 (b_lss.trans (cb e19)))) (qae (qad (w_seq ?_)))
    rcases qai z13 with ⟨rfl, z14⟩ | ⟨rfl, z14⟩
    ·refine qaq rfl ?_
     refine qaz (qad (w_seq ?_))
     refine qas ?_
     refine w_seq (w_ops ?_)
     obtain ⟨v20, e20, z15⟩ := qac z14
     refine qaa (qab (o_ixS g16 g18 e20)) ?_
     obtain ⟨v21, e21, z16⟩ := qac z15
     obtain ⟨s21, rfl, z17⟩ := qcc z16
     refine qaa (s_ld rfl e21) (qaa (v := (.s s21)) (qab (p_mv rfl)) (qae (qad (w_seq (w_ops (qaa (v := (.s s21)) (qab (p_mv rfl)) ?_))))))
     obtain ⟨v23, e23, z18⟩ := qac z17
     obtain ⟨x23, rfl, z19⟩ := qaj z18
     refine qaa (qab (o_len rfl e23)) ?_
     obtain ⟨c24, e24, z20⟩ := qaf z19
     refine qaa (qab (p_bin rfl rfl (b_gtr.trans (cb e24)))) (qaa (v := (.b c24)) (qab (p_mv rfl)) ?_)
     obtain ⟨o_1, z21, hk⟩ := qac z20
     refine qbz 5 (g71_J2 v0 x17 x18 o_1) ?_ ?_
     ·clear hk
      rcases qai z21 with ⟨rfl, z22⟩ | ⟨rfl, z22⟩
      ·refine qam (v := (.b true)) rfl rfl (qam (v := (.b true)) rfl rfl (qam (v := (.b true)) rfl rfl (qam (v := (.b true)) rfl rfl (qaa (v := (.b true)) (qab (qbv rfl rfl)) (qae ?_)))))
       cases z22
       exact ⟨_, _, rfl, rfl, gl rfl, gl g4, gl g16, gl g17, gl g18⟩
      ·refine qan (v := v0) rfl (qab (p_mv g4)) (qan (v := (.s s21)) rfl (qab (p_mv rfl)) ?_)
       obtain ⟨v28, m_3, e28, z23⟩ := qag z22
       obtain ⟨c28, rfl, z24⟩ := qbp z23
       refine qan (v := (.b c28)) rfl (qbi (mc rfl (mc rfl mn)) (qav hM.call e28)) ?_
       obtain ⟨c29, e29, z25⟩ := qaf z24
       refine qan (v := (.b c29)) rfl (qab ((p_not rfl).trans (cb e29))) (qaa (v := (.b c29)) (qab (qbw rfl rfl)) (qae ?_))
       cases z25
       exact ⟨_, _, rfl, rfl, gl rfl, gl g4, gl g16, gl g17, gl g18⟩
     ·clear z21
      have hr := hk
      clear hk
      obtain ⟨c30, m_2⟩ := o_1
      rintro mm_1 t_3 ⟨rfl, g30, g4, g16, g17, g18⟩
      refine qae (qad ?_)
      rcases qai hr with ⟨rfl, z26⟩ | ⟨rfl, z26⟩
      ·refine qaq g30 ?_
       refine w_seq (w_ops (qaa (v := AVal.nsl) (qab (p_mv rfl)) (qaa (v := (.i .i64 5)) (qab (p_mv rfl)) (qae (qad ?_)))))
       refine w_ret ?_
       refine qcj ?_
       refine qbm ?_
       cases z26
       exact ⟨_, _, rfl, qca, rfl, rfl, gl rfl, gl rfl⟩
      ·refine qar g30 ?_
       refine qaz ?_
       refine qbh ?_
       refine qad (w_ops ?_)
       obtain ⟨x31, e31, z27⟩ := qah z26
       refine qaa (qab (p_bin g18 rfl (b_add.trans (ci e31)))) (qaa (v := (.i .i64 x31)) (qab (p_mv rfl)) (qae ?_))
       cases z27
       exact ⟨_, _, rfl, rfl, rfl, gl rfl, gl g4, gl g16, gl g17⟩
    ·refine qar rfl ?_
     refine qbt ?_
     refine qbk ?_
     cases z14
     exact ⟨_, _, rfl, qap, rfl, rfl, gl g4⟩
   ·rcases o_2 with o_2 | o_2
    ·obtain ⟨m_4, ho⟩ : ∃ z, z = o_2 := ⟨_, rfl⟩
     subst ho
     rintro _ mm_2 t_4 ⟨rfl, rfl, g4⟩
     refine qbu ?_
     refine qad (w_seq (w_ops (qaa (qab (p_mv g4)) (qaa (v := v0) (qab (p_mv rfl)) (qaa (v := (.i .i64 0)) (qab (p_mv rfl)) (qae (qad ?_)))))))
     refine w_ret ?_
     exact qf qba (rt rfl (rt rfl rn)) z12
    ·obtain ⟨v2, x3, m_5⟩ := o_2
     rintro _ mm_3 t_5 ⟨rfl, rfl, g2, g3⟩
     refine qcj ?_
     refine qbm ?_
     exact qf qba (rt g2 (rt g3 rn)) z12
/- (dibber/vine.rules).bud -/

def g72 (M : Means) (ro : List ABlk) (v0 : AVal) (x1 : Int) (m0 : Mm) : Option (AVal × Heap × Nat × Nat) :=
 bindO (some (Mm.base m0)) fun m_1 =>
 bindO (evP .e (.ixS 1 (.c v0) (.c (.i .i64 x1)))) fun v12 =>
 bindO (ldA ro m0.h true 1 v12) fun v13 =>
 asS v13 fun s13 =>
 bindP (callM M.call m_1 89 [(.i .i64 x1)]) fun v15 m_2 =>
 asS v15 fun s15 =>
 chk (!Nat.blt m_2.lw m0.h.length) <|
 bindP (callM M.call m_2 97 [(.s s13), (.s s15)]) fun v16 m_3 =>
 bindO (evP .e (.ext 0 (.c v16))) fun v17 =>
 asS v17 fun s17 =>
 bindO (evP .e (.ext 1 (.c v16))) fun v18 =>
 asB v18 fun c18 =>
 bindO (some (Mm.join m0 m_3)) fun m_4 =>
 qau (!c18) fun c20 =>
 cond c20 (
  finM m0.h.length (tupA [(.b false)]) m_4) (
  bindP (callM M.call m_4 61 [v0, (.s s17)]) fun v24 m_5 =>
  bindO (evP .e (.ext 0 (.c v24))) fun v25 =>
  asI .i64 v25 fun x25 =>
  bindO (evP .e (.ext 1 (.c v24))) fun v26 =>
  asB v26 fun c26 =>
  qau (!c26) fun c28 =>
  finM m0.h.length (tupA [(.b c28)]) m_5)
theorem g72_ok {ro : List ABlk} {O : qao} {M : Means} (hM : M.Ok ⟨F, O⟩ ro) {v0 x1 h r} (ho : O 72 [v0, (.i .i64 x1)] h = none) (hr : g72 M ro v0 x1 ⟨h, h.length, h.length⟩ = some r) : callX ⟨F, O⟩ ro 72 [v0, (.i .i64 x1)] h = some r := by
 refine qbd (F := ⟨F, O⟩) (fn := fn72) (g := g72 M ro v0 x1) ho rfl rfl hr ?_
 clear ho
 clear hr
 intro m0 t0 ht hr
 have g0 : t0.get 0 = v0 := ht 0
 have g1 : t0.get 1 = (.i .i64 x1) := ht 1
 clear ht
 unfold g72 at hr
 refine w_seq (w_ops (qaa (v := (.b false)) (qab (p_mv rfl)) (qae (qad (w_seq ?_)))))
 obtain ⟨m_1, ef, z1⟩ := qac hr
 refine w_flt (af := true) rfl ef ?_
 refine qal (v := v0) (f_P rfl (qab (p_mv g0))) ?_
 refine qal (v := (.i .i64 x1)) (f_P rfl (qab (p_mv g1))) ?_
 obtain ⟨v12, e12, z2⟩ := qac z1
 refine qal (v := v12) (f_P rfl (qab (o_ixS rfl rfl e12))) ?_
 obtain ⟨v13, e13, z3⟩ := qac z2
 obtain ⟨s13, rfl, z4⟩ := qcc z3
 refine qal (v := (.s s13)) (f_ld rfl e13) ?_
 refine qal (v := (.i .i64 x1)) (f_P rfl (qab (p_mv g1))) ?_
 obtain ⟨v15, m_2, e15, z5⟩ := qag z4
 obtain ⟨s15, rfl, z6⟩ := qcc z5
 obtain ⟨hc15, z7⟩ := qdd z6
 refine qal (v := (.s s15)) (f_M hc15 (qbi (mc rfl mn) (qav hM.call e15))) ?_
 obtain ⟨v16, m_3, e16, z8⟩ := qag z7
 refine qal (v := v16) (f_F rfl (qbi (mc rfl (mc rfl mn)) (qav hM.call e16))) ?_
 refine qal (v := v16) (f_P rfl (qab (p_mv rfl))) ?_
 obtain ⟨v17, e17, z9⟩ := qac z8
 obtain ⟨s17, rfl, z10⟩ := qcc z9
 refine qal (v := (.s s17)) (f_P rfl (qab (o_ext rfl e17))) ?_
 obtain ⟨v18, e18, z11⟩ := qac z10
 obtain ⟨c18, rfl, z12⟩ := qbp z11
 refine qal (v := (.b c18)) (f_P rfl (qab (o_ext rfl e18))) ?_
 refine qal (v := (.s s17)) (f_P rfl (qab (p_mv rfl))) ?_
 refine qal (v := (.b c18)) (f_P rfl (qab (p_mv rfl))) ?_
 obtain ⟨m_4, ef_1, z13⟩ := qac z12
 refine wf_end ef_1 ?_
 refine qad (w_seq (w_seq (w_ops (qaa (v := (.b c18)) (qab (p_mv rfl)) ?_))))
 obtain ⟨c20, e20, z14⟩ := qaf z13
 refine qaa (qab ((p_not rfl).trans (cb e20))) (qae (qad ?_))
 rcases qai z14 with ⟨rfl, z15⟩ | ⟨rfl, z15⟩
 ·refine qaq rfl ?_
  refine w_seq (w_ops (qaa (v := (.b false)) (qab (p_mv rfl)) (qae (qad ?_))))
  refine w_ret ?_
  refine qbm ?_
  exact qf qba (rt rfl rn) z15
 ·refine qar rfl ?_
  refine qaz (qad (w_seq (w_ops (qaa (qab (p_mv g0)) (qaa (v := (.s s17)) (qab (p_mv rfl)) ?_)))))
  obtain ⟨v24, m_5, e24, z16⟩ := qag z15
  refine qaa (qbi (mc rfl (mc rfl mn)) (qav hM.call e24)) (qaa (v := v24) (qab (p_mv rfl)) ?_)
  obtain ⟨v25, e25, z17⟩ := qac z16
  obtain ⟨x25, rfl, z18⟩ := qaj z17
  refine qaa (qab (o_ext rfl e25)) ?_
  obtain ⟨v26, e26, z19⟩ := qac z18
  obtain ⟨c26, rfl, z20⟩ := qbp z19
  refine qaa (qab (o_ext rfl e26)) (qaa (v := (.i .i64 x25)) (qab (p_mv rfl)) (qaa (v := (.b c26)) (qab (p_mv rfl)) (qae (qad (w_seq (w_ops (qaa (v := (.b c26)) (qab (p_mv rfl)) ?_)))))))
  obtain ⟨c28, e28, z21⟩ := qaf z20
  refine qaa (qab ((p_not rfl).trans (cb e28))) (qaa (v := (.b c28)) (qab (p_mv rfl)) (qae (qad ?_)))
  refine w_ret ?_
  exact qf qba (rt rfl rn) z21
/- dibber/vine.readBud -/
abbrev g74_J0 (s1 : List UInt8) (v13 : AVal) (o : Bool × Mm) (m1 : Mm) (t1 : Tr) : Prop :=
 match o with
 | (c26, m_2) => m_2 = m1 ∧ t1.get 26 = (.b c26) ∧ t1.get 1 = (.s s1) ∧ t1.get 7 = v13
def g74 (M : Means) (ro : List ABlk) (v0 : AVal) (s1 : List UInt8) (m0 : Mm) : Option (AVal × Heap × Nat × Nat) :=
 bindP (callM M.call m0 71 [v0]) fun v12 m_1 =>
 bindO (evP .e (.ext 0 (.c v12))) fun v13 =>
 bindO (evP .e (.ext 1 (.c v12))) fun v14 =>
 asI .i64 v14 fun x14 =>
 qau (!eqI x14 0) fun c16 =>
 cond c16 (
  finM m0.h.length (tupA [AVal.nsl, (.i .i64 0), (.i .i64 x14)]) m_1) (
  bindO (evP .e (.len true (.c (.s s1)))) fun v19 =>
  asI .i64 v19 fun x19 =>
  qau (!eqI x19 1) fun c20 =>
  bindO (cond c20 (
   some (true, m_1)) (
   bindP (callM M.call m_1 92 [v13, (.s s1)]) fun v24 m_3 =>
   asB v24 fun c24 =>
   qau (!c24) fun c25 =>
   some (c25, m_3))) fun ⟨c26, m_2⟩ =>
  cond c26 (
   finM m0.h.length (tupA [AVal.nsl, (.i .i64 0), (.i .i64 5)]) m_2) (
   bindO (evP .e (.ixStr (.c (.s s1)) (.c (.i .i64 0)))) fun v28 =>
   asI .u8 v28 fun x28 =>
   bindP (callM M.call m_2 54 [(.i .u8 x28)]) fun v29 m_4 =>
   asI .i64 v29 fun x29 =>
   bindP (callM M.call m_4 72 [v13, (.i .i64 x29)]) fun v32 m_5 =>
   asB v32 fun c32 =>
   qau (!c32) fun c33 =>
   cond c33 (
    finM m0.h.length (tupA [AVal.nsl, (.i .i64 0), (.i .i64 10)]) m_5) (
    finM m0.h.length (tupA [v13, (.i .i64 x29), (.i .i64 0)]) m_5)))
theorem g74_ok {ro : List ABlk} {O : qao} {M : Means} (hM : M.Ok ⟨F, O⟩ ro) {v0 s1 h r} (ho : O 74 [v0, (.s s1)] h = none) (hr : g74 M ro v0 s1 ⟨h, h.length, h.length⟩ = some r) : callX ⟨F, O⟩ ro 74 [v0, (.s s1)] h = some r := by
 refine qbd (F := ⟨F, O⟩) (fn := fn74) (g := g74 M ro v0 s1) ho rfl rfl hr ?_
 clear ho
 clear hr
 intro m0 t0 ht hr
 have g0 : t0.get 0 = v0 := ht 0
 have g1 : t0.get 1 = (.s s1) := ht 1
 clear ht
 unfold g74 at hr
 refine w_seq (w_ops (qaa (v := AVal.nsl) (qab (p_mv rfl)) (qaa (v := (.i .i64 0)) (qab (p_mv rfl)) (qaa (v := (.i .i64 0)) (qab (p_mv rfl)) (qae (qad (w_seq (w_ops (qaa (qab (p_mv g0)) ?_)))))))))
 obtain ⟨v12, m_1, e12, z1⟩ := qag hr
 refine qaa (qbi (mc rfl mn) (qav hM.call e12)) (qaa (v := v12) (qab (p_mv rfl)) ?_)
 obtain ⟨v13, e13, z2⟩ := qac z1
 refine qaa (qab (o_ext rfl e13)) ?_
 obtain ⟨v14, e14, z3⟩ := qac z2
 obtain ⟨x14, rfl, z4⟩ := qaj z3
 refine qaa (qab (o_ext rfl e14)) (qaa (v := v13) (qab (p_mv rfl)) (qaa (v := (.i .i64 x14)) (qab (p_mv rfl)) (qae (qad (w_seq (w_seq (w_ops (qaa (v := (.i .i64 x14)) (qab (p_mv rfl)) ?_))))))))
 obtain ⟨c16, e16, z5⟩ := qaf z4
 refine qaa (qab (p_bin rfl rfl (b_neq.trans (cb e16)))) (qae (qad ?_))
 rcases qai z5 with ⟨rfl, z6⟩ | ⟨rfl, z6⟩
 ·refine qaq rfl ?_
  refine w_seq (w_ops (qaa (v := (.i .i64 x14)) (qab (p_mv rfl)) (qaa (v := AVal.nsl) (qab (p_mv rfl)) (qaa (v := (.i .i64 0)) (qab (p_mv rfl)) (qaa (v := (.i .i64 x14)) (qab (p_mv rfl)) (qae (qad ?_)))))))
  refine w_ret ?_
  refine qbm ?_
  exact qf qba (rt rfl (rt rfl (rt rfl rn))) z6
 ·refine qar rfl ?_
  refine qaz (qad (w_seq (w_seq (w_ops (qaa (qab (p_mv g1)) ?_)))))
  obtain ⟨v19, e19, z7⟩ := qac z6
  obtain ⟨x19, rfl, z8⟩ := qaj z7
  refine qaa (qab (o_len rfl e19)) ?_
  obtain ⟨c20, e20, z9⟩ := qaf z8
  refine qaa (qab (p_bin rfl rfl (b_neq.trans (cb e20)))) (qaa (v := (.b c20)) (qab (p_mv rfl)) ?_)
  obtain ⟨o, z10, hk⟩ := qac z9
  refine qbz 5 (g74_J0 s1 v13 o) ?_ ?_
  ·clear hk
   rcases qai z10 with ⟨rfl, z11⟩ | ⟨rfl, z11⟩
   ·refine qam (v := (.b true)) rfl rfl (qam (v := (.b true)) rfl rfl (qam (v := (.b true)) rfl rfl (qam (v := (.b true)) rfl rfl (qaa (v := (.b true)) (qab (qbv rfl rfl)) (qae ?_)))))
    cases z11
    exact ⟨_, _, rfl, rfl, gl rfl, gl g1, gl rfl⟩
   ·refine qan (v := v13) rfl (qab (p_mv rfl)) (qan (v := (.s s1)) rfl (qab (p_mv g1)) ?_)
    obtain ⟨v24, m_3, e24, z12⟩ := qag z11
    obtain ⟨c24, rfl, z13⟩ := qbp z12
    refine qan (v := (.b c24)) rfl (qbi (mc rfl (mc rfl mn)) (qav hM.call e24)) ?_
    obtain ⟨c25, e25, z14⟩ := qaf z13
    refine qan (v := (.b c25)) rfl (qab ((p_not rfl).trans (cb e25))) (qaa (v := (.b c25)) (qab (qbw rfl rfl)) (qae ?_))
    cases z14
    exact ⟨_, _, rfl, rfl, gl rfl, gl g1, gl rfl⟩
  ·clear z10
   have hr := hk
   clear hk
   obtain ⟨c26, m_2⟩ := o
   rintro mm t_1 ⟨rfl, g26, g1, g7⟩
   refine qae (qad ?_)
   rcases qai hr with ⟨rfl, z15⟩ | ⟨rfl, z15⟩
   ·refine qaq g26 ?_
    refine w_seq (w_ops (qaa (v := AVal.nsl) (qab (p_mv rfl)) (qaa (v := (.i .i64 0)) (qab (p_mv rfl)) (qaa (v := (.i .i64 5)) (qab (p_mv rfl)) (qae (qad ?_))))))
    refine w_ret ?_
    refine qbm ?_
    exact qf qba (rt rfl (rt rfl (rt rfl rn))) z15
   ·refine qar g26 ?_
    refine qaz (qad (w_seq (w_ops (qaa (qab (p_mv g1)) ?_))))
    obtain ⟨v28, e28, z16⟩ := qac z15
    obtain ⟨x28, rfl, z17⟩ := qaj z16
    refine qaa (qab (qdp rfl rfl e28)) ?_
    obtain ⟨v29, m_4, e29, z18⟩ := qag z17
    obtain ⟨x29, rfl, z19⟩ := qaj z18
    refine qaa (qbi (mc rfl mn) (qav hM.call e29)) (qaa (v := (.i .i64 x29)) (qab (p_mv rfl)) (qae (qad (w_seq (w_seq (w_ops (qaa (qab (p_mv g7)) (qaa (v := (.i .i64 x29)) (qab (p_mv rfl)) ?_))))))))
    obtain ⟨v32, m_5, e32, z20⟩ := qag z19
    obtain ⟨c32, rfl, z21⟩ := qbp z20
    refine qaa (qbi (mc rfl (mc rfl mn)) (qav hM.call e32)) ?_
    obtain ⟨c33, e33, z22⟩ := qaf z21
    refine qaa (qab ((p_not rfl).trans (cb e33))) (qae (qad ?_))
    rcases qai z22 with ⟨rfl, z23⟩ | ⟨rfl, z23⟩
    ·refine qaq rfl ?_
     refine w_seq (w_ops (qaa (v := AVal.nsl) (qab (p_mv rfl)) (qaa (v := (.i .i64 0)) (qab (p_mv rfl)) (qaa (v := (.i .i64 10)) (qab (p_mv rfl)) (qae (qad ?_))))))
     refine w_ret ?_
     refine qbm ?_
     exact qf qba (rt rfl (rt rfl (rt rfl rn))) z23
    ·refine qar rfl ?_
     refine qaz (qad (w_seq (w_ops (qaa (qab (p_mv g7)) (qaa (v := (.i .i64 x29)) (qab (p_mv rfl)) (qaa (v := v13) (qab (p_mv rfl)) (qaa (v := (.i .i64 x29)) (qab (p_mv rfl)) (qaa (v := (.i .i64 0)) (qab (p_mv rfl)) (qae (qad ?_))))))))))
     refine w_ret ?_
     exact qf qba (rt rfl (rt rfl (rt rfl rn))) z23
/- (dibber/vine.rules).endless -/

def g75 (M : Means) (ro : List ABlk) (v0 : AVal) (x1 : Int) (m0 : Mm) : Option (AVal × Heap × Nat × Nat) :=
 bindP (stepM ro m0 (.bx 55 1 (.c v0))) fun v2 m_1 =>
 bindP (stepM ro m_1 (.bx 3 1 (.c (.i .i64 x1)))) fun v3 m_2 =>
 bindO (some (AVal.fn 98 [] [v2, v3])) fun v5 =>
 finM m0.h.length (tupA [v5]) m_2
theorem g75_ok {ro : List ABlk} {O : qao} {M : Means} (hM : M.Ok ⟨F, O⟩ ro) {v0 x1 h r} (ho : O 75 [v0, (.i .i64 x1)] h = none) (hr : g75 M ro v0 x1 ⟨h, h.length, h.length⟩ = some r) : callX ⟨F, O⟩ ro 75 [v0, (.i .i64 x1)] h = some r := by
 refine qbd (F := ⟨F, O⟩) (fn := fn75) (g := g75 M ro v0 x1) ho rfl rfl hr ?_
 clear ho
 clear hr
 intro m0 t0 ht hr
 have g0 : t0.get 0 = v0 := ht 0
 have g1 : t0.get 1 = (.i .i64 x1) := ht 1
 clear ht
 unfold g75 at hr
 refine w_seq (w_ops ?_)
 obtain ⟨v2, m_1, e2, z1⟩ := qag hr
 refine qaa (s_bx g0 e2) ?_
 obtain ⟨v3, m_2, e3, z2⟩ := qag z1
 refine qaa (s_bx g1 e3) (qaa (v := AVal.nfn) (qab (p_mv rfl)) (qae (qad (w_seq (w_ops ?_)))))
 obtain ⟨v5, e5, z3⟩ := qac z2
 refine qaa (qab (Eq.trans (o_mkfn mn (mc rfl (mc rfl mn))) e5)) (qaa (v := v5) (qab (p_mv rfl)) (qae (qad ?_)))
 refine w_ret ?_
 exact qf qba (rt rfl rn) z3
/- dibber/dibberref03.Letters -/
abbrev g85_I0 (v0 : AVal) (s1 : List UInt8) (m0 : Mm) (s : Int) (m1 : Mm) (t1 : Tr) : Prop :=
 match s with
 | x5 => m0 = m1 ∧ t1.get 5 = (.i .i64 x5) ∧ t1.get 0 = v0 ∧ t1.get 1 = (.s s1)
abbrev g85_J0 (v0 : AVal) (s1 : List UInt8) (m0 : Mm) (o : (Unit ⊕ Bool)) (e : AExit) (m1 : Mm) (t1 : Tr) : Prop :=
 match o with
 | (.inl _) => e = (.exit 0) ∧ m0 = m1
 | (.inr y4) => e = .ret ∧ m0 = m1 ∧ t1.get 4 = (.b y4)
abbrev g85_J1 (v0 : AVal) (s1 : List UInt8) (x5 : Int) (m0 : Mm) (o : Bool) (m1 : Mm) (t1 : Tr) : Prop :=
 match o with
 | c25 => m0 = m1 ∧ t1.get 25 = (.b c25) ∧ t1.get 0 = v0 ∧ t1.get 1 = (.s s1) ∧ t1.get 5 = (.i .i64 x5)
def g85_b0 (M : Means) (ro : List ABlk) (v0 : AVal) (s1 : List UInt8) (m0 : Mm) (x5 : Int) : Option ((Int) ⊕ ((Unit ⊕ Bool))) :=
 bindO (evP .e (.len true (.c (.s s1)))) fun v8 =>
 asI .i64 v8 fun x8 =>
 qau (ltI x5 x8) fun c9 =>
 cond c9 (
  bindO (evP .e (.ixStr (.c (.s s1)) (.c (.i .i64 x5)))) fun v14 =>
  asI .u8 v14 fun x14 =>
  qau (ltI x14 97) fun c15 =>
  bindO (cond c15 (
   some true) (
   bindO (evP .e (.ixStr (.c (.s s1)) (.c (.i .i64 x5)))) fun v19 =>
   asI .u8 v19 fun x19 =>
   qaw (wr .u8 (x19 - 97)) fun x20 =>
   qaw (wr .i64 x20) fun x21 =>
   bindO (evP .e (.len false (.c v0))) fun v23 =>
   asI .i64 v23 fun x23 =>
   qau (!ltI x21 x23) fun c24 =>
   some c24)) fun c25 =>
  cond c25 (
   some (.inr (.inr false))) (
   qaw (wr .i64 (x5 + 1)) fun x11 =>
   some (.inl x11))) (
  some (.inr (.inl ())))
def g85 (M : Means) (ro : List ABlk) (v0 : AVal) (s1 : List UInt8) (m0 : Mm) : Option (AVal × Heap × Nat × Nat) :=
 bindO (M.loop (S := Int) (R := (Unit ⊕ Bool)) (fun s => g85_b0 M ro v0 s1 m0 s) 0) fun o_1 => match o_1 with
 | (.inl _) =>
  finM m0.h.length (tupA [(.b true)]) m0
 | (.inr c4) =>
  finM m0.h.length (tupA [(.b c4)]) m0
theorem g85_ok {ro : List ABlk} {O : qao} {M : Means} (hM : M.Ok ⟨F, O⟩ ro) {v0 s1 h r} (ho : O 85 [v0, (.s s1)] h = none) (hr : g85 M ro v0 s1 ⟨h, h.length, h.length⟩ = some r) : callX ⟨F, O⟩ ro 85 [v0, (.s s1)] h = some r := by
 refine qbd (F := ⟨F, O⟩) (fn := fn85) (g := g85 M ro v0 s1) ho rfl rfl hr ?_
 clear ho
 clear hr
 intro m0 t0 ht hr
 have g0 : t0.get 0 = v0 := ht 0
 have g1 : t0.get 1 = (.s s1) := ht 1
 clear ht
 unfold g85 at hr
 refine w_seq (w_ops (qaa (v := (.b false)) (qab (p_mv rfl)) (qae (qad (w_seq (w_seq (w_ops (qaa (v := (.i .i64 0)) (qab (p_mv rfl)) (qae (qad ?_))))))))))
 refine qas ?_
 obtain ⟨o_1, hl, z1⟩ := qac hr
 obtain ⟨n, hl⟩ := hM.loop _ _ _ hl
 refine qbe (qbs _ (g85_I0 v0 s1 m0) (g85_J0 v0 s1 m0) ?_ n _ _ _ _ hl ⟨rfl, gl rfl, gl g0, gl g1⟩) ?_
 ·clear z1 hl
  intro s mm_3 t_1 o hi hr
  obtain ⟨x5, hs⟩ : ∃ z, z = s := ⟨_, rfl⟩
  subst hs
  obtain ⟨rfl, g5, g0, g1⟩ := hi
  unfold g85_b0 at hr
  refine w_seq (w_seq (w_ops (qaa (qab (p_mv g5)) (qaa (qab (p_mv g1)) ?_))))
  obtain ⟨v8, e8, z2⟩ := qac hr
  obtain ⟨x8, rfl, z3⟩ := qaj z2
  refine qaa (qab (o_len rfl e8)) ?_
  obtain ⟨c9, e9, z4⟩ := qaf z3
  refine qaa (qab (p_bin rfl rfl (b_lss.trans (cb e9)))) (qae (qad ?_))
  rcases qai z4 with ⟨rfl, z5⟩ | ⟨rfl, z5⟩
  ·refine qaq rfl ?_
   refine qaz (qad (w_seq ?_))
   refine qas ?_
   refine w_seq (w_ops (qaa (qab (p_mv g1)) (qaa (qab (p_mv g5)) ?_)))
   obtain ⟨v14, e14, z6⟩ := qac z5
   obtain ⟨x14, rfl, z7⟩ := qaj z6
   refine qaa (qab (qdp rfl rfl e14)) ?_
   obtain ⟨c15, e15, z8⟩ := qaf z7
   refine qaa (qab (p_bin rfl rfl (b_lss.trans (cb e15)))) (qaa (v := (.b c15)) (qab (p_mv rfl)) ?_)
   obtain ⟨o, z9, hk⟩ := qac z8
   refine qbz 9 (g85_J1 v0 s1 x5 m0 o) ?_ ?_
   ·clear hk
    rcases qai z9 with ⟨rfl, z10⟩ | ⟨rfl, z10⟩
    ·refine qam (v := (.b true)) rfl rfl (qam (v := (.b true)) rfl rfl (qam (v := (.b true)) rfl rfl (qam (v := (.b true)) rfl rfl (qam (v := (.b true)) rfl rfl (qam (v := (.b true)) rfl rfl (qam (v := (.b true)) rfl rfl (qam (v := (.b true)) rfl rfl (qaa (v := (.b true)) (qab (qbv rfl rfl)) (qae ?_)))))))))
     cases z10
     exact ⟨_, _, rfl, rfl, gl rfl, gl g0, gl g1, gl g5⟩
    ·refine qan (v := (.s s1)) rfl (qab (p_mv g1)) (qan (v := (.i .i64 x5)) rfl (qab (p_mv g5)) ?_)
     obtain ⟨v19, e19, z11⟩ := qac z10
     obtain ⟨x19, rfl, z12⟩ := qaj z11
     refine qan (v := (.i .u8 x19)) rfl (qab (qdp rfl rfl e19)) ?_
     obtain ⟨x20, e20, z13⟩ := qah z12
     refine qan (v := (.i .u8 x20)) rfl (qab (p_bin rfl rfl (b_sub.trans (ci e20)))) ?_
     obtain ⟨x21, e21, z14⟩ := qah z13
     refine qan (v := (.i .i64 x21)) rfl (qab ((p_conv rfl).trans (ci e21))) (qan (v := v0) rfl (qab (p_mv g0)) ?_)
     obtain ⟨v23, e23, z15⟩ := qac z14
     obtain ⟨x23, rfl, z16⟩ := qaj z15
     refine qan (v := (.i .i64 x23)) rfl (qab (o_len rfl e23)) ?_
     obtain ⟨c24, e24, z17⟩ := qaf z16
     refine qan (v := (.b c24)) rfl (qab (p_bin rfl rfl (b_geq.trans (cb e24)))) (qaa (v := (.b c24)) (qab (qbw rfl rfl)) (qae ?_))
     cases z17
     exact ⟨_, _, rfl, rfl, gl rfl, gl g0, gl g1, gl g5⟩
   ·clear z9
    have hr := hk
    clear hk
    obtain ⟨c25, ho⟩ : ∃ z, z = o := ⟨_, rfl⟩
    subst ho
    rintro mm t_2 ⟨rfl, g25, g0, g1, g5⟩
    refine qae (qad ?_)
    rcases qai hr with ⟨rfl, z18⟩ | ⟨rfl, z18⟩
    ·refine qaq g25 ?_
     refine w_seq (w_ops (qaa (v := (.b false)) (qab (p_mv rfl)) (qae (qad ?_))))
     refine w_ret ?_
     refine qcj ?_
     refine qbm ?_
     cases z18
     exact ⟨_, _, rfl, qca, rfl, rfl, gl rfl⟩
    ·refine qar g25 ?_
     refine qaz ?_
     refine qbh ?_
     refine qad (w_ops (qaa (qab (p_mv g5)) ?_))
     obtain ⟨x11, e11, z19⟩ := qah z18
     refine qaa (qab (p_bin rfl rfl (b_add.trans (ci e11)))) (qaa (v := (.i .i64 x11)) (qab (p_mv rfl)) (qae ?_))
     cases z19
     exact ⟨_, _, rfl, rfl, rfl, gl rfl, gl g0, gl g1⟩
  ·refine qar rfl ?_
   refine qbt ?_
   refine qbk ?_
   cases z5
   exact ⟨_, _, rfl, qap, rfl, rfl⟩
 ·rcases o_1 with o_1 | o_1
  ·rintro _ mm_1 t_3 ⟨rfl, rfl⟩
   refine qbu ?_
   refine qad (w_seq (w_ops (qaa (v := (.b true)) (qab (p_mv rfl)) (qae (qad ?_)))))
   refine w_ret ?_
   exact qf qba (rt rfl rn) z1
  ·obtain ⟨c4, ho⟩ : ∃ z, z = o_1 := ⟨_, rfl⟩
   subst ho
   rintro _ mm_2 t_4 ⟨rfl, rfl, g4⟩
   refine qcj ?_
   refine qbm ?_
   exact qf qba (rt g4 rn) z1
end Go.Proofs.Ytfohppnelbbepaa.T

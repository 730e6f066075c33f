/- Plain functions, and that the small machine answers as they do. -/
import Derived.Test.YtfohppnelbbepaaVmP
import Derived.Test.YtfohppnelbbepaaVmAE
open Go.Vm
set_option linter.unusedVariables false
namespace Go.Proofs.Ytfohppnelbbepaa.T
open Go
/- (dibber/vine.rules).has -/
abbrev g92_I0 (v0 : AVal) (s1 : List UInt8) (x8 : Int) (s : Int × Mm) (m1 : Mm) (t1 : Tr) : Prop :=
 match s with
 | (x9, m_1) => m_1 = m1 ∧ t1.get 9 = (.i .i64 x9) ∧ t1.get 0 = v0 ∧ t1.get 1 = (.s s1) ∧ t1.get 8 = (.i .i64 x8)
abbrev g92_J0 (v0 : AVal) (s1 : List UInt8) (x8 : Int) (o : (Mm ⊕ (Bool × Mm))) (e : AExit) (m1 : Mm) (t1 : Tr) : Prop :=
 match o with
 | (.inl mo) => e = (.exit 0) ∧ mo = m1
 | (.inr (y4, mo)) => e = .ret ∧ mo = m1 ∧ t1.get 4 = (.b y4)
abbrev g92_J1 (v0 : AVal) (s1 : List UInt8) (x8 : Int) (x9 : Int) (m_2 : Mm) (o : Bool) (m1 : Mm) (t1 : Tr) : Prop :=
 match o with
 | c23 => m_2 = m1 ∧ t1.get 23 = (.b c23) ∧ t1.get 0 = v0 ∧ t1.get 1 = (.s s1) ∧ t1.get 8 = (.i .i64 x8) ∧ t1.get 9 = (.i .i64 x9)
def g92_b0 (M : Means) (ro : List ABlk) (v0 : AVal) (s1 : List UInt8) (x8 : Int) (x9 : Int) (m_1 : Mm) : Option ((Int × Mm) ⊕ ((Mm ⊕ (Bool × Mm)))) :=
 qap (ltI x9 x8) fun c10 =>
 cond c10 (
  bindO (evP .e (.ixStr (.c (.s s1)) (.c (.i .i64 x9)))) fun v14 =>
  asI .u8 v14 fun x14 =>
  bindP (callM M.call m_1 54 [(.i .u8 x14)]) fun v15 m_2 =>
  asI .i64 v15 fun x15 =>
  qap (ltI x15 0) fun c17 =>
  bindO (cond c17 (
   some true) (
   bindO (evP .e (.len false (.c v0))) fun v21 =>
   asI .i64 v21 fun x21 =>
   qap (!ltI x15 x21) fun c22 =>
   some c22)) fun c23 =>
  cond c23 (
   some (.inr (.inr (false, m_2)))) (
   qax (wr .i64 (x9 + 1)) fun x24 =>
   some (.inl (x24, m_2)))) (
  some (.inr (.inl m_1)))
def g92 (M : Means) (ro : List ABlk) (v0 : AVal) (s1 : List UInt8) (m0 : Mm) : Option (AVal × Heap × Nat × Nat) :=
 bindO (evP .e (.len true (.c (.s s1)))) fun v8 =>
 asI .i64 v8 fun x8 =>
 bindO (M.loop (S := Int × Mm) (R := (Mm ⊕ (Bool × Mm))) (fun s => g92_b0 M ro v0 s1 x8 s.1 s.2) (0, m0)) fun o_1 => match o_1 with
 | (.inl m_3) =>
  finM m0.h.length (tupA [(.b true)]) m_3
 | (.inr (c4, m_4)) =>
  finM m0.h.length (tupA [(.b c4)]) m_4
theorem g92_ok {ro : List ABlk} {O : qao} {M : Means} (hM : M.Ok ⟨F, O⟩ ro) {v0 s1 h r} (ho : O 92 [v0, (.s s1)] h = none) (hr : g92 M ro v0 s1 ⟨h, h.length, h.length⟩ = some r) : callX ⟨F, O⟩ ro 92 [v0, (.s s1)] h = some r := by
 refine qbc (F := ⟨F, O⟩) (fn := fn92) (g := g92 M ro v0 s1) ho rfl rfl hr ?_
 clear ho
 clear hr
 intro m0 t0 ht hr
 have g0 : t0.get 0 = v0 := ht 0
 have g1 : t0.get 1 = (.s s1) := ht 1
 clear ht
 unfold g92 at hr
 refine w_seq (w_ops (wsp (v := (.b false)) (p_mv rfl) (qac (qab (w_seq (w_seq (w_ops (wsp (p_mv g1) ?_))))))))
 obtain ⟨v8, e8, z1⟩ := qaa hr
 obtain ⟨x8, rfl, z2⟩ := qam z1
 refine wsp (o_len rfl e8) (wsp (v := (.i .i64 0)) (p_mv rfl) (qac (qab ?_)))
 refine qau ?_
 obtain ⟨o_1, hl, z3⟩ := qaa z2
 obtain ⟨n, hl⟩ := hM.loop _ _ _ hl
 refine qbl (qbw _ (g92_I0 v0 s1 x8) (g92_J0 v0 s1 x8) ?_ n _ _ _ _ hl ⟨rfl, gl rfl, gl g0, gl g1, gl rfl⟩) ?_
 ·clear z3 hl
  intro s mm_3 t_1 o hi hr
  obtain ⟨x9, m_1⟩ := s
  obtain ⟨rfl, g9, g0, g1, g8⟩ := hi
  unfold g92_b0 at hr
  refine w_seq (w_ops ?_)
  obtain ⟨c10, e10, z4⟩ := qad hr
  refine wsp (p_bin g9 g8 (b_lss.trans (cb e10))) (qac (qab (w_seq ?_)))
  rcases qai z4 with ⟨rfl, z5⟩ | ⟨rfl, z5⟩
  ·refine qas rfl ?_
   refine qbb (qab (w_seq ?_))
   refine qau ?_
   refine w_seq (w_ops (wsp (p_mv g9) (wsp (v := (.i .i64 x9)) (p_mv rfl) (qac (qab (w_seq (w_ops (wsp (p_mv g1) (wsp (v := (.i .i64 x9)) (p_mv rfl) ?_)))))))))
   obtain ⟨v14, e14, z6⟩ := qaa z5
   obtain ⟨x14, rfl, z7⟩ := qam z6
   refine wsp (qhg rfl rfl e14) ?_
   obtain ⟨v15, m_2, e15, z8⟩ := qaf z7
   obtain ⟨x15, rfl, z9⟩ := qam z8
   refine qan (qbf (mc rfl mn) (qaq hM.call e15)) (wsp (v := (.i .i64 x15)) (p_mv rfl) (qac (qab (w_seq (w_ops (wsp (v := (.i .i64 x15)) (p_mv rfl) ?_))))))
   obtain ⟨c17, e17, z10⟩ := qad z9
   refine wsp (p_bin rfl rfl (b_lss.trans (cb e17))) (wsp (v := (.b c17)) (p_mv rfl) ?_)
   obtain ⟨o, z11, hk⟩ := qaa z10
   refine qbn 5 (g92_J1 v0 s1 x8 x9 m_2 o) ?_ ?_
   ·clear hk
    rcases qai z11 with ⟨rfl, z12⟩ | ⟨rfl, z12⟩
    ·refine qae (v := (.b true)) rfl rfl (qae (v := (.b true)) rfl rfl (qae (v := (.b true)) rfl rfl (qae (v := (.b true)) rfl rfl (wsp (v := (.b true)) (qbj rfl rfl) (qac ?_)))))
     cases z12
     exact ⟨_, _, rfl, rfl, gl rfl, gl g0, gl g1, gl g8, gl g9⟩
    ·refine qah (v := (.i .i64 x15)) rfl (qag (p_mv rfl)) (qah (v := v0) rfl (qag (p_mv g0)) ?_)
     obtain ⟨v21, e21, z13⟩ := qaa z12
     obtain ⟨x21, rfl, z14⟩ := qam z13
     refine qah (v := (.i .i64 x21)) rfl (qag (o_len rfl e21)) ?_
     obtain ⟨c22, e22, z15⟩ := qad z14
     refine qah (v := (.b c22)) rfl (qag (p_bin rfl rfl (b_geq.trans (cb e22)))) (wsp (v := (.b c22)) (qbd rfl rfl) (qac ?_))
     cases z15
     exact ⟨_, _, rfl, rfl, gl rfl, gl g0, gl g1, gl g8, gl g9⟩
   ·clear z11
    have hr := hk
    clear hk
    obtain ⟨c23, ho⟩ : ∃ z, z = o := ⟨_, rfl⟩
    subst ho
    rintro mm t_2 ⟨rfl, g23, g0, g1, g8, g9⟩
    refine qac (qab ?_)
    rcases qai hr with ⟨rfl, z16⟩ | ⟨rfl, z16⟩
    ·refine qas g23 ?_
     refine w_seq (w_ops (wsp (v := (.b false)) (p_mv rfl) (qac (qab ?_))))
     refine w_ret ?_
     refine qco ?_
     refine qbm ?_
     cases z16
     exact ⟨_, _, rfl, qcb, rfl, rfl, gl rfl⟩
    ·refine qat g23 ?_
     refine qbb ?_
     refine qbo ?_
     refine qab (w_ops ?_)
     obtain ⟨x24, e24, z17⟩ := qaj z16
     refine wsp (p_bin g9 rfl (b_add.trans (ci e24))) (wsp (v := (.i .i64 x24)) (p_mv rfl) (qac ?_))
     cases z17
     exact ⟨_, _, rfl, rfl, rfl, gl rfl, gl g0, gl g1, gl g8⟩
  ·refine qat rfl ?_
   refine qbz ?_
   refine qbp ?_
   cases z5
   exact ⟨_, _, rfl, qar, rfl, rfl⟩
 ·rcases o_1 with o_1 | o_1
  ·obtain ⟨m_3, ho⟩ : ∃ z, z = o_1 := ⟨_, rfl⟩
   subst ho
   rintro _ mm_1 t_3 ⟨rfl, rfl⟩
   refine qca ?_
   refine qab (w_seq (w_ops (wsp (v := (.b true)) (p_mv rfl) (qac (qab ?_)))))
   refine w_ret ?_
   exact qf qba (rt rfl rn) z3
  ·obtain ⟨c4, m_4⟩ := o_1
   rintro _ mm_2 t_4 ⟨rfl, rfl, g4⟩
   refine qco ?_
   refine qbm ?_
   exact qf qba (rt g4 rn) z3
/- dibber/vine.matrix[dibber/vine.path] -/
abbrev g93_I0 (v0 : AVal) (v1 : AVal) (v11 : AVal) (x13 : Int) (s : Int × Mm) (m1 : Mm) (t1 : Tr) : Prop :=
 match s with
 | (x14, m_2) => m_2 = m1 ∧ t1.get 14 = (.i .i64 x14) ∧ t1.get 0 = v0 ∧ t1.get 1 = v1 ∧ t1.get 5 = v11 ∧ t1.get 13 = (.i .i64 x13)
abbrev g93_J0 (v0 : AVal) (v1 : AVal) (v11 : AVal) (x13 : Int) (o : Mm) (e : AExit) (m1 : Mm) (t1 : Tr) : Prop :=
 match o with
 | mo => e = (.exit 0) ∧ mo = m1 ∧ t1.get 5 = v11
abbrev g93_I1 (v0 : AVal) (v1 : AVal) (v11 : AVal) (x14 : Int) (x13 : Int) (x18 : Int) (s : Int × Mm) (m1 : Mm) (t1 : Tr) : Prop :=
 match s with
 | (x19, m_3) => m_3 = m1 ∧ t1.get 19 = (.i .i64 x19) ∧ t1.get 0 = v0 ∧ t1.get 1 = v1 ∧ t1.get 5 = v11 ∧ t1.get 6 = (.i .i64 x14) ∧ t1.get 13 = (.i .i64 x13) ∧ t1.get 14 = (.i .i64 x14) ∧ t1.get 17 = v0 ∧ t1.get 18 = (.i .i64 x18)
abbrev g93_J1 (v0 : AVal) (v1 : AVal) (v11 : AVal) (x14 : Int) (x13 : Int) (x18 : Int) (o : Mm) (e : AExit) (m1 : Mm) (t1 : Tr) : Prop :=
 match o with
 | mo => e = (.exit 2) ∧ mo = m1 ∧ t1.get 0 = v0 ∧ t1.get 1 = v1 ∧ t1.get 5 = v11 ∧ t1.get 13 = (.i .i64 x13) ∧ t1.get 14 = (.i .i64 x14)
def g93_b1 (M : Means) (ro : List ABlk) (v0 : AVal) (v1 : AVal) (v11 : AVal) (x14 : Int) (x13 : Int) (x18 : Int) (x19 : Int) (m_3 : Mm) : Option ((Int × Mm) ⊕ (Mm)) :=
 qap (ltI x19 x18) fun c20 =>
 cond c20 (
  bindO (evP .e (.ixS 1 (.c v0) (.c (.i .i64 x19)))) fun v21 =>
  bindO (ldM ro m_3 true 1 v21) fun v22 =>
  asS v22 fun s22 =>
  bindO (some (Mm.base m_3)) fun m_4 =>
  bindO (evP .e (.ixS 1 (.c v11) (.c (.i .i64 x14)))) fun v27 =>
  bindO (ldA ro m_3.h true 1 v27) fun v28 =>
  bindP (callM M.call m_4 89 [(.i .i64 x14)]) fun v32 m_5 =>
  asS v32 fun s32 =>
  chk (!Nat.blt m_5.lw m_3.h.length) <|
  bindP (callM M.call m_5 88 [(.s s22), (.s s32)]) fun v33 m_6 =>
  asI .i64 v33 fun x33 =>
  chk (!Nat.blt m_6.lw m_3.h.length) <|
  bindP (qgq M.call m_6 v1 [(.i .i64 x33)]) fun v34 m_7 =>
  asB v34 fun c34 =>
  chk (!Nat.blt m_7.lw m_3.h.length) <|
  bindP (stepM ro m_7 (.bsl 122 1 [(AVal.b false)] 1 [((0, 1), .c (.b c34))])) fun v35 m_8 =>
  chk (!Nat.blt m_8.lw m_3.h.length) <|
  bindP (stepM ro m_8 (.app 122 1 1 [(AVal.b false)] (.c v28) (.c v35))) fun v36 m_9 =>
  bindO (evP .e (.ixS 1 (.c v11) (.c (.i .i64 x14)))) fun v37 =>
  bindP (stepM ro m_9 (.st 1 (.c v37) (.c v36))) fun vn m_10 =>
  bindO (some (Mm.join m_3 m_10)) fun m_11 =>
  qax (wr .i64 (x19 + 1)) fun x38 =>
  some (.inl (x38, m_11))) (
  some (.inr m_3))
def g93_b0 (M : Means) (ro : List ABlk) (v0 : AVal) (v1 : AVal) (v11 : AVal) (x13 : Int) (x14 : Int) (m_2 : Mm) : Option ((Int × Mm) ⊕ (Mm)) :=
 qap (ltI x14 x13) fun c15 =>
 cond c15 (
  bindO (evP .e (.len false (.c v0))) fun v18 =>
  asI .i64 v18 fun x18 =>
  bindO (M.loop (S := Int × Mm) (R := Mm) (fun s => g93_b1 M ro v0 v1 v11 x14 x13 x18 s.1 s.2) (0, m_2)) fun m_12 =>
  qax (wr .i64 (x14 + 1)) fun x39 =>
  some (.inl (x39, m_12))) (
  some (.inr m_2))
def g93 (M : Means) (ro : List ABlk) (v0 : AVal) (v1 : AVal) (m0 : Mm) : Option (AVal × Heap × Nat × Nat) :=
 bindO (evP .e (.len false (.c v0))) fun v10 =>
 asI .i64 v10 fun x10 =>
 bindP (stepM ro m0 (.mk 124 1 24 [AVal.nsl] (.c (.i .i64 x10)) (.c (.i .i64 x10)))) fun v11 m_1 =>
 bindO (evP .e (.len false (.c v0))) fun v13 =>
 asI .i64 v13 fun x13 =>
 bindO (M.loop (S := Int × Mm) (R := Mm) (fun s => g93_b0 M ro v0 v1 v11 x13 s.1 s.2) (0, m_1)) fun m_13 =>
 finM m0.h.length (tupA [v11]) m_13
theorem g93_ok {ro : List ABlk} {O : qao} {M : Means} (hM : M.Ok ⟨F, O⟩ ro) {v0 v1 h r} (ho : O 93 [v0, v1] h = none) (hr : g93 M ro v0 v1 ⟨h, h.length, h.length⟩ = some r) : callX ⟨F, O⟩ ro 93 [v0, v1] h = some r := by
 refine qbc (F := ⟨F, O⟩) (fn := fn93) (g := g93 M ro v0 v1) ho rfl rfl hr ?_
 clear ho
 clear hr
 intro m0 t0 ht hr
 have g0 : t0.get 0 = v0 := ht 0
 have g1 : t0.get 1 = v1 := ht 1
 clear ht
 unfold g93 at hr
 refine w_seq (w_ops (wsp (v := AVal.nsl) (p_mv rfl) (qac (qab (w_seq (w_ops (wsp (p_mv g0) ?_)))))))
 obtain ⟨v10, e10, z1⟩ := qaa hr
 obtain ⟨x10, rfl, z2⟩ := qam z1
 refine wsp (o_len rfl e10) ?_
 obtain ⟨v11, m_1, e11, z3⟩ := qaf z2
 refine qan (s_mk rfl rfl e11) (wsp (v := v11) (p_mv rfl) (qac (qab (w_seq (w_seq (w_ops (wsp (p_mv g0) ?_)))))))
 obtain ⟨v13, e13, z4⟩ := qaa z3
 obtain ⟨x13, rfl, z5⟩ := qam z4
 refine wsp (o_len rfl e13) (wsp (v := (.i .i64 0)) (p_mv rfl) (qac (qab ?_)))
 refine qau ?_
 obtain ⟨o_1, hl_1, z6⟩ := qaa z5
 obtain ⟨n_1, hl_1⟩ := hM.loop _ _ _ hl_1
 refine qbl (qbw _ (g93_I0 v0 v1 v11 x13) (g93_J0 v0 v1 v11 x13) ?_ n_1 _ _ _ _ hl_1 ⟨rfl, gl rfl, gl g0, gl g1, gl rfl, gl rfl⟩) ?_
 ·clear z6 hl_1
  intro s mm_3 t_1 o hi hr
  obtain ⟨x14, m_2⟩ := s
  obtain ⟨rfl, g14, g0, g1, g5, g13⟩ := hi
  unfold g93_b0 at hr
  refine w_seq (w_ops ?_)
  obtain ⟨c15, e15, z7⟩ := qad hr
  refine wsp (p_bin g14 g13 (b_lss.trans (cb e15))) (qac (qab (w_seq ?_)))
  rcases qai z7 with ⟨rfl, z8⟩ | ⟨rfl, z8⟩
  ·refine qas rfl ?_
   refine qbb (qab (w_seq ?_))
   refine qau ?_
   refine w_seq (w_ops (wsp (p_mv g14) (wsp (v := (.i .i64 x14)) (p_mv rfl) (qac (qab (w_seq (w_ops (wsp (p_mv g0) ?_))))))))
   obtain ⟨v18, e18, z9⟩ := qaa z8
   obtain ⟨x18, rfl, z10⟩ := qam z9
   refine wsp (o_len rfl e18) (wsp (v := (.i .i64 0)) (p_mv rfl) (qac (qab ?_)))
   refine qau ?_
   obtain ⟨o, hl, z11⟩ := qaa z10
   obtain ⟨n, hl⟩ := hM.loop _ _ _ hl
   refine qbl (qbw _ (g93_I1 v0 v1 v11 x14 x13 x18) (g93_J1 v0 v1 v11 x14 x13 x18) ?_ n _ _ _ _ hl ⟨rfl, gl rfl, gl g0, gl g1, gl g5, gl rfl, gl g13, gl g14, gl rfl, gl rfl⟩) ?_
   ·clear z11 hl
    intro s mm_1 t_2 o hi hr
    obtain ⟨x19, m_3⟩ := s
    obtain ⟨rfl, g19, g0, g1, g5, g6, g13, g14, g17, g18⟩ := hi
    unfold g93_b1 at hr
    refine w_seq (w_ops ?_)
    obtain ⟨c20, e20, z12⟩ := qad hr
    refine wsp (p_bin g19 g18 (b_lss.trans (cb e20))) (qac (qab (w_seq ?_)))
    rcases qai z12 with ⟨rfl, z13⟩ | ⟨rfl, z13⟩
    ·refine qas rfl ?_
     refine qbb (qab (w_seq ?_))
     refine qau ?_
     refine w_seq (w_ops ?_)
     obtain ⟨v21, e21, z14⟩ := qaa z13
     refine wsp (o_ixS g17 g19 e21) ?_
     obtain ⟨v22, e22, z15⟩ := qaa z14
     obtain ⟨s22, rfl, z16⟩ := qck z15
     refine qan (s_ld rfl e22) (wsp (v := (.s s22)) (p_mv rfl) (qac (qab ?_)))
     obtain ⟨m_4, ef, z17⟩ := qaa z16
     refine w_flt (af := true) rfl ef ?_
     refine qal (v := v11) (f_P rfl (qag (p_mv g5))) ?_
     refine qal (v := (.i .i64 x14)) (f_P rfl (qag (p_mv g6))) ?_
     refine qal (v := v11) (f_P rfl (qag (p_mv g5))) ?_
     refine qal (v := (.i .i64 x14)) (f_P rfl (qag (p_mv g6))) ?_
     obtain ⟨v27, e27, z18⟩ := qaa z17
     refine qal (v := v27) (f_P rfl (qag (o_ixS rfl rfl e27))) ?_
     obtain ⟨v28, e28, z19⟩ := qaa z18
     refine qal (v := v28) (f_ld rfl e28) ?_
     refine qal (v := v1) (f_P rfl (qag (p_mv g1))) ?_
     refine qal (v := (.s s22)) (f_P rfl (qag (p_mv rfl))) ?_
     refine qal (v := (.i .i64 x14)) (f_P rfl (qag (p_mv g6))) ?_
     obtain ⟨v32, m_5, e32, z20⟩ := qaf z19
     obtain ⟨s32, rfl, z21⟩ := qck z20
     obtain ⟨hc32, z22⟩ := qdc z21
     refine qal (v := (.s s32)) (f_M hc32 (qbf (mc rfl mn) (qaq hM.call e32))) ?_
     obtain ⟨v33, m_6, e33, z23⟩ := qaf z22
     obtain ⟨x33, rfl, z24⟩ := qam z23
     obtain ⟨hc33, z25⟩ := qdc z24
     refine qal (v := (.i .i64 x33)) (f_M hc33 (qbf (mc rfl (mc rfl mn)) (qaq hM.call e33))) ?_
     obtain ⟨v34, m_7, e34, z26⟩ := qaf z25
     obtain ⟨c34, rfl, z27⟩ := qbr z26
     obtain ⟨hc34, z28⟩ := qdc z27
     refine qal (v := (.b c34)) (f_M hc34 (s_callv rfl (mc rfl mn) (callvM_le hM.call e34))) ?_
     obtain ⟨v35, m_8, e35, z29⟩ := qaf z28
     obtain ⟨hc35, z30⟩ := qdc z29
     refine qal (v := v35) (f_M hc35 (s_bsl (qc rfl qn) e35)) ?_
     obtain ⟨v36, m_9, e36, z31⟩ := qaf z30
     refine qal (v := v36) (f_F rfl (s_app rfl rfl e36)) ?_
     obtain ⟨v37, e37, z32⟩ := qaa z31
     refine qal (v := v37) (f_P rfl (qag (o_ixS rfl rfl e37))) ?_
     obtain ⟨vn, m_10, en, z33⟩ := qaf z32
     refine qjs (f_F rfl (s_st rfl rfl en)) ?_
     obtain ⟨m_11, ef_1, z34⟩ := qaa z33
     refine qja ef_1 ?_
     refine qbo ?_
     refine qab (w_ops ?_)
     obtain ⟨x38, e38, z35⟩ := qaj z34
     refine wsp (p_bin g19 rfl (b_add.trans (ci e38))) (wsp (v := (.i .i64 x38)) (p_mv rfl) (qac ?_))
     cases z35
     exact ⟨_, _, rfl, rfl, rfl, gl rfl, gl g0, gl g1, gl g5, gl g6, gl g13, gl g14, gl g17, gl g18⟩
    ·refine qat rfl ?_
     refine qbz ?_
     refine qbp ?_
     cases z13
     exact ⟨_, _, rfl, qar, rfl, rfl, gl g0, gl g1, gl g5, gl g13, gl g14⟩
   ·obtain ⟨m_12, ho⟩ : ∃ z, z = o := ⟨_, rfl⟩
    subst ho
    rintro _ mm t_3 ⟨rfl, rfl, g0, g1, g5, g13, g14⟩
    refine qca ?_
    refine qbo ?_
    refine qab (w_ops ?_)
    obtain ⟨x39, e39, z36⟩ := qaj z11
    refine wsp (p_bin g14 rfl (b_add.trans (ci e39))) (wsp (v := (.i .i64 x39)) (p_mv rfl) (qac ?_))
    cases z36
    exact ⟨_, _, rfl, rfl, rfl, gl rfl, gl g0, gl g1, gl g5, gl g13⟩
  ·refine qat rfl ?_
   refine qbz ?_
   refine qbp ?_
   cases z8
   exact ⟨_, _, rfl, qar, rfl, rfl, gl g5⟩
 ·obtain ⟨m_13, ho⟩ : ∃ z, z = o_1 := ⟨_, rfl⟩
  subst ho
  rintro _ mm_2 t_4 ⟨rfl, rfl, g5⟩
  refine qca ?_
  refine qab (w_seq (w_ops (wsp (p_mv g5) (wsp (v := v11) (p_mv rfl) (qac (qab ?_))))))
  refine w_ret ?_
  exact qf qba (rt rfl rn) z6
/- dibber/vine.asPath -/

def g94 (M : Means) (ro : List ABlk) (x0 : Int) (m0 : Mm) : Option (AVal × Heap × Nat × Nat) :=
 qap (ltI 0 x0) fun c4 =>
 finM m0.h.length (tupA [(.b c4)]) m0
theorem g94_ok {ro : List ABlk} {O : qao} {M : Means} (hM : M.Ok ⟨F, O⟩ ro) {x0 h r} (ho : O 94 [(.i .i64 x0)] h = none) (hr : g94 M ro x0 ⟨h, h.length, h.length⟩ = some r) : callX ⟨F, O⟩ ro 94 [(.i .i64 x0)] h = some r := by
 refine qbc (F := ⟨F, O⟩) (fn := fn94) (g := g94 M ro x0) ho rfl rfl hr ?_
 clear ho
 clear hr
 intro m0 t0 ht hr
 have g0 : t0.get 0 = (.i .i64 x0) := ht 0
 clear ht
 unfold g94 at hr
 refine w_seq (w_ops (wsp (v := (.b false)) (p_mv rfl) (qac (qab (w_seq (w_ops (wsp (p_mv g0) ?_)))))))
 obtain ⟨c4, e4, z1⟩ := qad hr
 refine wsp (p_bin rfl rfl (b_gtr.trans (cb e4))) (wsp (v := (.b c4)) (p_mv rfl) (qac (qab ?_)))
 refine w_ret ?_
 exact qf qba (rt rfl rn) z1
/- dibber/vine.product[dibber/vine.path] -/
abbrev g95_I0 (v1 : AVal) (v13 : AVal) (v0 : AVal) (x15 : Int) (s : Int × Mm) (m1 : Mm) (t1 : Tr) : Prop :=
 match s with
 | (x16, m_2) => m_2 = m1 ∧ t1.get 16 = (.i .i64 x16) ∧ t1.get 1 = v1 ∧ t1.get 5 = v13 ∧ t1.get 14 = v0 ∧ t1.get 15 = (.i .i64 x15)
abbrev g95_J0 (v1 : AVal) (v13 : AVal) (v0 : AVal) (x15 : Int) (o : Mm) (e : AExit) (m1 : Mm) (t1 : Tr) : Prop :=
 match o with
 | mo => e = (.exit 0) ∧ mo = m1 ∧ t1.get 5 = v13
abbrev g95_I1 (v1 : AVal) (v13 : AVal) (x16 : Int) (v20 : AVal) (v0 : AVal) (x15 : Int) (x33 : Int) (s : Int × Mm) (m1 : Mm) (t1 : Tr) : Prop :=
 match s with
 | (x34, m_5) => m_5 = m1 ∧ t1.get 34 = (.i .i64 x34) ∧ t1.get 1 = v1 ∧ t1.get 5 = v13 ∧ t1.get 6 = (.i .i64 x16) ∧ t1.get 7 = v20 ∧ t1.get 14 = v0 ∧ t1.get 15 = (.i .i64 x15) ∧ t1.get 16 = (.i .i64 x16) ∧ t1.get 33 = (.i .i64 x33)
abbrev g95_J1 (v1 : AVal) (v13 : AVal) (x16 : Int) (v20 : AVal) (v0 : AVal) (x15 : Int) (x33 : Int) (o : Mm) (e : AExit) (m1 : Mm) (t1 : Tr) : Prop :=
 match o with
 | mo => e = (.exit 2) ∧ mo = m1 ∧ t1.get 1 = v1 ∧ t1.get 5 = v13 ∧ t1.get 14 = v0 ∧ t1.get 15 = (.i .i64 x15) ∧ t1.get 16 = (.i .i64 x16)
abbrev g95_I2 (v1 : AVal) (v13 : AVal) (x16 : Int) (v20 : AVal) (x34 : Int) (v0 : AVal) (x15 : Int) (x33 : Int) (x38 : Int) (s : Int × Mm) (m1 : Mm) (t1 : Tr) : Prop :=
 match s with
 | (x39, m_6) => m_6 = m1 ∧ t1.get 39 = (.i .i64 x39) ∧ t1.get 1 = v1 ∧ t1.get 5 = v13 ∧ t1.get 6 = (.i .i64 x16) ∧ t1.get 7 = v20 ∧ t1.get 8 = (.i .i64 x34) ∧ t1.get 14 = v0 ∧ t1.get 15 = (.i .i64 x15) ∧ t1.get 16 = (.i .i64 x16) ∧ t1.get 33 = (.i .i64 x33) ∧ t1.get 34 = (.i .i64 x34) ∧ t1.get 37 = v20 ∧ t1.get 38 = (.i .i64 x38)
abbrev g95_J2 (v1 : AVal) (v13 : AVal) (x16 : Int) (v20 : AVal) (x34 : Int) (v0 : AVal) (x15 : Int) (x33 : Int) (x38 : Int) (o : Mm) (e : AExit) (m1 : Mm) (t1 : Tr) : Prop :=
 match o with
 | mo => e = (.exit 4) ∧ mo = m1 ∧ t1.get 1 = v1 ∧ t1.get 5 = v13 ∧ t1.get 6 = (.i .i64 x16) ∧ t1.get 7 = v20 ∧ t1.get 14 = v0 ∧ t1.get 15 = (.i .i64 x15) ∧ t1.get 16 = (.i .i64 x16) ∧ t1.get 33 = (.i .i64 x33) ∧ t1.get 34 = (.i .i64 x34)
def g95_b2 (M : Means) (ro : List ABlk) (v1 : AVal) (v13 : AVal) (x16 : Int) (v20 : AVal) (x34 : Int) (v0 : AVal) (x15 : Int) (x33 : Int) (x38 : Int) (x39 : Int) (m_6 : Mm) : Option ((Int × Mm) ⊕ (Mm)) :=
 qap (ltI x39 x38) fun c40 =>
 cond c40 (
  bindO (evP .e (.ixS 1 (.c v20) (.c (.i .i64 x39)))) fun v42 =>
  bindO (ldM ro m_6 true 1 v42) fun v43 =>
  asB v43 fun c43 =>
  bindO (some (Mm.base m_6)) fun m_7 =>
  bindO (evP .e (.ixS 1 (.c v13) (.c (.i .i64 x16)))) fun v46 =>
  bindO (ldA ro m_6.h true 1 v46) fun v47 =>
  bindO (evP .e (.ixS 1 (.c v13) (.c (.i .i64 x16)))) fun v51 =>
  bindO (ldA ro m_6.h true 1 v51) fun v52 =>
  bindO (evP .e (.ixS 1 (.c v52) (.c (.i .i64 x34)))) fun v54 =>
  bindO (ldA ro m_6.h true 1 v54) fun v55 =>
  asB v55 fun c55 =>
  bindO (some (AVal.ifc 122 (.b c55))) fun v56 =>
  bindO (some (AVal.ifc 122 (.b c43))) fun v58 =>
  bindO (evP .e (.ixS 1 (.c v1) (.c (.i .i64 x39)))) fun v61 =>
  bindO (ldM ro m_7 true 1 v61) fun v62 =>
  bindO (evP .e (.ixS 1 (.c v62) (.c (.i .i64 x34)))) fun v64 =>
  bindO (ldM ro m_7 true 1 v64) fun v65 =>
  asB v65 fun c65 =>
  bindP (qfc M.call m_7 [(61, (126, [])), (106, (129, [])), (122, (131, []))] v58 [(.b c65)]) fun v66 m_8 =>
  asB v66 fun c66 =>
  chk (!Nat.blt m_8.lw m_6.h.length) <|
  bindP (qfc M.call m_8 [(61, (86, [])), (106, (128, [])), (122, (130, []))] v56 [(.b c66)]) fun v67 m_9 =>
  asB v67 fun c67 =>
  chk (!Nat.blt m_9.lw m_6.h.length) <|
  bindO (evP .e (.ixS 1 (.c v47) (.c (.i .i64 x34)))) fun v68 =>
  bindP (stepM ro m_9 (.st 1 (.c v68) (.c (.b c67)))) fun vn_1 m_10 =>
  bindO (some (Mm.join m_6 m_10)) fun m_11 =>
  qax (wr .i64 (x39 + 1)) fun x69 =>
  some (.inl (x69, m_11))) (
  some (.inr m_6))
def g95_b1 (M : Means) (ro : List ABlk) (v1 : AVal) (v13 : AVal) (x16 : Int) (v20 : AVal) (v0 : AVal) (x15 : Int) (x33 : Int) (x34 : Int) (m_5 : Mm) : Option ((Int × Mm) ⊕ (Mm)) :=
 qap (ltI x34 x33) fun c35 =>
 cond c35 (
  bindO (evP .e (.len false (.c v20))) fun v38 =>
  asI .i64 v38 fun x38 =>
  bindO (M.loop (S := Int × Mm) (R := Mm) (fun s => g95_b2 M ro v1 v13 x16 v20 x34 v0 x15 x33 x38 s.1 s.2) (0, m_5)) fun m_12 =>
  qax (wr .i64 (x34 + 1)) fun x70 =>
  some (.inl (x70, m_12))) (
  some (.inr m_5))
def g95_b0 (M : Means) (ro : List ABlk) (v1 : AVal) (v13 : AVal) (v0 : AVal) (x15 : Int) (x16 : Int) (m_2 : Mm) : Option ((Int × Mm) ⊕ (Mm)) :=
 qap (ltI x16 x15) fun c17 =>
 cond c17 (
  bindO (evP .e (.ixS 1 (.c v0) (.c (.i .i64 x16)))) fun v19 =>
  bindO (ldM ro m_2 true 1 v19) fun v20 =>
  bindO (evP .e (.ixS 1 (.c v1) (.c (.i .i64 0)))) fun v24 =>
  bindO (ldM ro m_2 true 1 v24) fun v25 =>
  bindO (evP .e (.len false (.c v25))) fun v26 =>
  asI .i64 v26 fun x26 =>
  bindP (stepM ro m_2 (.mk 122 1 1 [(AVal.b false)] (.c (.i .i64 x26)) (.c (.i .i64 x26)))) fun v27 m_3 =>
  bindO (evP .e (.ixS 1 (.c v13) (.c (.i .i64 x16)))) fun v28 =>
  bindP (stepM ro m_3 (.st 1 (.c v28) (.c v27))) fun vn m_4 =>
  bindO (evP .e (.ixS 1 (.c v13) (.c (.i .i64 x16)))) fun v31 =>
  bindO (ldM ro m_4 true 1 v31) fun v32 =>
  bindO (evP .e (.len false (.c v32))) fun v33 =>
  asI .i64 v33 fun x33 =>
  bindO (M.loop (S := Int × Mm) (R := Mm) (fun s => g95_b1 M ro v1 v13 x16 v20 v0 x15 x33 s.1 s.2) (0, m_4)) fun m_13 =>
  qax (wr .i64 (x16 + 1)) fun x71 =>
  some (.inl (x71, m_13))) (
  some (.inr m_2))
def g95 (M : Means) (ro : List ABlk) (v0 : AVal) (v1 : AVal) (m0 : Mm) : Option (AVal × Heap × Nat × Nat) :=
 bindO (evP .e (.len false (.c v0))) fun v12 =>
 asI .i64 v12 fun x12 =>
 bindP (stepM ro m0 (.mk 124 1 24 [AVal.nsl] (.c (.i .i64 x12)) (.c (.i .i64 x12)))) fun v13 m_1 =>
 bindO (evP .e (.len false (.c v0))) fun v15 =>
 asI .i64 v15 fun x15 =>
 bindO (M.loop (S := Int × Mm) (R := Mm) (fun s => g95_b0 M ro v1 v13 v0 x15 s.1 s.2) (0, m_1)) fun m_14 =>
 finM m0.h.length (tupA [v13]) m_14
theorem g95_ok {ro : List ABlk} {O : qao} {M : Means} (hM : M.Ok ⟨F, O⟩ ro) {v0 v1 h r} (ho : O 95 [v0, v1] h = none) (hr : g95 M ro v0 v1 ⟨h, h.length, h.length⟩ = some r) : callX ⟨F, O⟩ ro 95 [v0, v1] h = some r := by
 refine qbc (F := ⟨F, O⟩) (fn := fn95) (g := g95 M ro v0 v1) ho rfl rfl hr ?_
 clear ho
 clear hr
 intro m0 t0 ht hr
 have g0 : t0.get 0 = v0 := ht 0
 have g1 : t0.get 1 = v1 := ht 1
 clear ht
 unfold g95 at hr
 refine w_seq (w_ops (wsp (v := AVal.nsl) (p_mv rfl) (qac (qab (w_seq (w_ops (wsp (p_mv g0) ?_)))))))
 obtain ⟨v12, e12, z1⟩ := qaa hr
 obtain ⟨x12, rfl, z2⟩ := qam z1
 refine wsp (o_len rfl e12) ?_
 obtain ⟨v13, m_1, e13, z3⟩ := qaf z2
 refine qan (s_mk rfl rfl e13) (wsp (v := v13) (p_mv rfl) (qac (qab (w_seq (w_seq (w_ops (wsp (p_mv g0) ?_)))))))
 obtain ⟨v15, e15, z4⟩ := qaa z3
 obtain ⟨x15, rfl, z5⟩ := qam z4
 refine wsp (o_len rfl e15) (wsp (v := (.i .i64 0)) (p_mv rfl) (qac (qab ?_)))
 refine qau ?_
 obtain ⟨o_2, hl_2, z6⟩ := qaa z5
 obtain ⟨n_2, hl_2⟩ := hM.loop _ _ _ hl_2
 refine qbl (qbw _ (g95_I0 v1 v13 v0 x15) (g95_J0 v1 v13 v0 x15) ?_ n_2 _ _ _ _ hl_2 ⟨rfl, gl rfl, gl g1, gl rfl, gl rfl, gl rfl⟩) ?_
 ·clear z6 hl_2
  intro s mm_5 t_1 o hi hr
  obtain ⟨x16, m_2⟩ := s
  obtain ⟨rfl, g16, g1, g5, g14, g15⟩ := hi
  unfold g95_b0 at hr
  refine w_seq (w_ops ?_)
  obtain ⟨c17, e17, z7⟩ := qad hr
  refine wsp (p_bin g16 g15 (b_lss.trans (cb e17))) (qac (qab (w_seq ?_)))
  rcases qai z7 with ⟨rfl, z8⟩ | ⟨rfl, z8⟩
  ·refine qas rfl ?_
   refine qbb (qab (w_seq ?_))
   refine qau ?_
   refine w_seq (w_ops (wsp (p_mv g16) ?_))
   obtain ⟨v19, e19, z9⟩ := qaa z8
   refine wsp (o_ixS g14 g16 e19) ?_
   obtain ⟨v20, e20, z10⟩ := qaa z9
   refine qan (s_ld rfl e20) (wsp (v := (.i .i64 x16)) (p_mv rfl) (wsp (v := v20) (p_mv rfl) (qac (qab (w_seq (w_ops (wsp (p_mv g5) (wsp (v := (.i .i64 x16)) (p_mv rfl) (wsp (p_mv g1) ?_)))))))))
   obtain ⟨v24, e24, z11⟩ := qaa z10
   refine wsp (o_ixS rfl rfl e24) ?_
   obtain ⟨v25, e25, z12⟩ := qaa z11
   refine qan (s_ld rfl e25) ?_
   obtain ⟨v26, e26, z13⟩ := qaa z12
   obtain ⟨x26, rfl, z14⟩ := qam z13
   refine wsp (o_len rfl e26) ?_
   obtain ⟨v27, m_3, e27, z15⟩ := qaf z14
   refine qan (s_mk rfl rfl e27) ?_
   obtain ⟨v28, e28, z16⟩ := qaa z15
   refine wsp (o_ixS rfl rfl e28) ?_
   obtain ⟨vn, m_4, en, z17⟩ := qaf z16
   refine qdq (s_st rfl rfl en) ?_
   refine qac (qab (w_seq (w_ops (wsp (p_mv g5) (wsp (v := (.i .i64 x16)) (p_mv rfl) ?_)))))
   obtain ⟨v31, e31, z18⟩ := qaa z17
   refine wsp (o_ixS rfl rfl e31) ?_
   obtain ⟨v32, e32, z19⟩ := qaa z18
   refine qan (s_ld rfl e32) ?_
   obtain ⟨v33, e33, z20⟩ := qaa z19
   obtain ⟨x33, rfl, z21⟩ := qam z20
   refine wsp (o_len rfl e33) (wsp (v := (.i .i64 0)) (p_mv rfl) (qac (qab ?_)))
   refine qau ?_
   obtain ⟨o_1, hl_1, z22⟩ := qaa z21
   obtain ⟨n_1, hl_1⟩ := hM.loop _ _ _ hl_1
   refine qbl (qbw _ (g95_I1 v1 v13 x16 v20 v0 x15 x33) (g95_J1 v1 v13 x16 v20 v0 x15 x33) ?_ n_1 _ _ _ _ hl_1 ⟨rfl, gl rfl, gl g1, gl g5, gl rfl, gl rfl, gl g14, gl g15, gl g16, gl rfl⟩) ?_
   ·clear z22 hl_1
    intro s mm_3 t_2 o hi hr
    obtain ⟨x34, m_5⟩ := s
    obtain ⟨rfl, g34, g1, g5, g6, g7, g14, g15, g16, g33⟩ := hi
    unfold g95_b1 at hr
    refine w_seq (w_ops ?_)
    obtain ⟨c35, e35, z23⟩ := qad hr
    refine wsp (p_bin g34 g33 (b_lss.trans (cb e35))) (qac (qab (w_seq ?_)))
    rcases qai z23 with ⟨rfl, z24⟩ | ⟨rfl, z24⟩
    ·refine qas rfl ?_
     refine qbb (qab (w_seq ?_))
     refine qau ?_
     refine w_seq (w_ops (wsp (p_mv g34) (wsp (v := (.i .i64 x34)) (p_mv rfl) (qac (qab (w_seq (w_ops (wsp (p_mv g7) ?_))))))))
     obtain ⟨v38, e38, z25⟩ := qaa z24
     obtain ⟨x38, rfl, z26⟩ := qam z25
     refine wsp (o_len rfl e38) (wsp (v := (.i .i64 0)) (p_mv rfl) (qac (qab ?_)))
     refine qau ?_
     obtain ⟨o, hl, z27⟩ := qaa z26
     obtain ⟨n, hl⟩ := hM.loop _ _ _ hl
     refine qbl (qbw _ (g95_I2 v1 v13 x16 v20 x34 v0 x15 x33 x38) (g95_J2 v1 v13 x16 v20 x34 v0 x15 x33 x38) ?_ n _ _ _ _ hl ⟨rfl, gl rfl, gl g1, gl g5, gl g6, gl g7, gl rfl, gl g14, gl g15, gl g16, gl g33, gl g34, gl rfl, gl rfl⟩) ?_
     ·clear z27 hl
      intro s mm_1 t_3 o hi hr
      obtain ⟨x39, m_6⟩ := s
      obtain ⟨rfl, g39, g1, g5, g6, g7, g8, g14, g15, g16, g33, g34, g37, g38⟩ := hi
      unfold g95_b2 at hr
      refine w_seq (w_ops ?_)
      obtain ⟨c40, e40, z28⟩ := qad hr
      refine wsp (p_bin g39 g38 (b_lss.trans (cb e40))) (qac (qab (w_seq ?_)))
      rcases qai z28 with ⟨rfl, z29⟩ | ⟨rfl, z29⟩
      ·refine qas rfl ?_
       refine qbb (qab (w_seq ?_))
       refine qau ?_
       refine w_seq (w_ops (wsp (p_mv g39) ?_))
       obtain ⟨v42, e42, z30⟩ := qaa z29
       refine wsp (o_ixS g37 g39 e42) ?_
       obtain ⟨v43, e43, z31⟩ := qaa z30
       obtain ⟨c43, rfl, z32⟩ := qbr z31
       refine qan (s_ld rfl e43) (wsp (v := (.i .i64 x39)) (p_mv rfl) (wsp (v := (.b c43)) (p_mv rfl) (qac (qab ?_))))
       obtain ⟨m_7, ef, z33⟩ := qaa z32
       refine w_flt (af := true) rfl ef ?_
       refine qal (v := v13) (f_P rfl (qag (p_mv g5))) ?_
       refine qal (v := (.i .i64 x16)) (f_P rfl (qag (p_mv g6))) ?_
       obtain ⟨v46, e46, z34⟩ := qaa z33
       refine qal (v := v46) (f_P rfl (qag (o_ixS rfl rfl e46))) ?_
       obtain ⟨v47, e47, z35⟩ := qaa z34
       refine qal (v := v47) (f_ld rfl e47) ?_
       refine qal (v := (.i .i64 x34)) (f_P rfl (qag (p_mv g8))) ?_
       refine qal (v := v13) (f_P rfl (qag (p_mv g5))) ?_
       refine qal (v := (.i .i64 x16)) (f_P rfl (qag (p_mv g6))) ?_
       obtain ⟨v51, e51, z36⟩ := qaa z35
       refine qal (v := v51) (f_P rfl (qag (o_ixS rfl rfl e51))) ?_
       obtain ⟨v52, e52, z37⟩ := qaa z36
       refine qal (v := v52) (f_ld rfl e52) ?_
       refine qal (v := (.i .i64 x34)) (f_P rfl (qag (p_mv g8))) ?_
       obtain ⟨v54, e54, z38⟩ := qaa z37
       refine qal (v := v54) (f_P rfl (qag (o_ixS rfl rfl e54))) ?_
       obtain ⟨v55, e55, z39⟩ := qaa z38
       obtain ⟨c55, rfl, z40⟩ := qbr z39
       refine qal (v := (.b c55)) (f_ld rfl e55) ?_
       obtain ⟨v56, e56, z41⟩ := qaa z40
       refine qal (v := v56) (f_P rfl (qag (o_mki rfl e56))) ?_
       refine qal (v := (.b c43)) (f_P rfl (qag (p_mv rfl))) ?_
       obtain ⟨v58, e58, z42⟩ := qaa z41
       refine qal (v := v58) (f_P rfl (qag (o_mki rfl e58))) ?_
       refine qal (v := v1) (f_P rfl (qag (p_mv g1))) ?_
       refine qal (v := (.i .i64 x39)) (f_P rfl (qag (p_mv rfl))) ?_
       obtain ⟨v61, e61, z43⟩ := qaa z42
       refine qal (v := v61) (f_P rfl (qag (o_ixS rfl rfl e61))) ?_
       obtain ⟨v62, e62, z44⟩ := qaa z43
       refine qal (v := v62) (f_P rfl (s_ld rfl e62)) ?_
       refine qal (v := (.i .i64 x34)) (f_P rfl (qag (p_mv g8))) ?_
       obtain ⟨v64, e64, z45⟩ := qaa z44
       refine qal (v := v64) (f_P rfl (qag (o_ixS rfl rfl e64))) ?_
       obtain ⟨v65, e65, z46⟩ := qaa z45
       obtain ⟨c65, rfl, z47⟩ := qbr z46
       refine qal (v := (.b c65)) (f_P rfl (s_ld rfl e65)) ?_
       obtain ⟨v66, m_8, e66, z48⟩ := qaf z47
       obtain ⟨c66, rfl, z49⟩ := qbr z48
       obtain ⟨hc66, z50⟩ := qdc z49
       refine qal (v := (.b c66)) (f_M hc66 (s_calli rfl (mc rfl mn) (qic hM.call e66))) ?_
       obtain ⟨v67, m_9, e67, z51⟩ := qaf z50
       obtain ⟨c67, rfl, z52⟩ := qbr z51
       obtain ⟨hc67, z53⟩ := qdc z52
       refine qal (v := (.b c67)) (f_M hc67 (s_calli rfl (mc rfl mn) (qic hM.call e67))) ?_
       obtain ⟨v68, e68, z54⟩ := qaa z53
       refine qal (v := v68) (f_P rfl (qag (o_ixS rfl rfl e68))) ?_
       obtain ⟨vn_1, m_10, en_1, z55⟩ := qaf z54
       refine qjs (f_F rfl (s_st rfl rfl en_1)) ?_
       obtain ⟨m_11, ef_1, z56⟩ := qaa z55
       refine qja ef_1 ?_
       refine qbo ?_
       refine qab (w_ops ?_)
       obtain ⟨x69, e69, z57⟩ := qaj z56
       refine wsp (p_bin g39 rfl (b_add.trans (ci e69))) (wsp (v := (.i .i64 x69)) (p_mv rfl) (qac ?_))
       cases z57
       exact ⟨_, _, rfl, rfl, rfl, gl rfl, gl g1, gl g5, gl g6, gl g7, gl g8, gl g14, gl g15, gl g16, gl g33, gl g34, gl g37, gl g38⟩
      ·refine qat rfl ?_
       refine qbz ?_
       refine qbp ?_
       cases z29
       exact ⟨_, _, rfl, qar, rfl, rfl, gl g1, gl g5, gl g6, gl g7, gl g14, gl g15, gl g16, gl g33, gl g34⟩
     ·obtain ⟨m_12, ho⟩ : ∃ z, z = o := ⟨_, rfl⟩
      subst ho
      rintro _ mm t_4 ⟨rfl, rfl, g1, g5, g6, g7, g14, g15, g16, g33, g34⟩
      refine qca ?_
      refine qbo ?_
      refine qab (w_ops ?_)
      obtain ⟨x70, e70, z58⟩ := qaj z27
      refine wsp (p_bin g34 rfl (b_add.trans (ci e70))) (wsp (v := (.i .i64 x70)) (p_mv rfl) (qac ?_))
      cases z58
      exact ⟨_, _, rfl, rfl, rfl, gl rfl, gl g1, gl g5, gl g6, gl g7, gl g14, gl g15, gl g16, gl g33⟩
    ·refine qat rfl ?_
     refine qbz ?_
     refine qbp ?_
     cases z24
     exact ⟨_, _, rfl, qar, rfl, rfl, gl g1, gl g5, gl g14, gl g15, gl g16⟩
   ·obtain ⟨m_13, ho⟩ : ∃ z, z = o_1 := ⟨_, rfl⟩
    subst ho
    rintro _ mm_2 t_5 ⟨rfl, rfl, g1, g5, g14, g15, g16⟩
    refine qca ?_
    refine qbo ?_
    refine qab (w_ops ?_)
    obtain ⟨x71, e71, z59⟩ := qaj z22
    refine wsp (p_bin g16 rfl (b_add.trans (ci e71))) (wsp (v := (.i .i64 x71)) (p_mv rfl) (qac ?_))
    cases z59
    exact ⟨_, _, rfl, rfl, rfl, gl rfl, gl g1, gl g5, gl g14, gl g15⟩
  ·refine qat rfl ?_
   refine qbz ?_
   refine qbp ?_
   cases z8
   exact ⟨_, _, rfl, qar, rfl, rfl, gl g5⟩
 ·obtain ⟨m_14, ho⟩ : ∃ z, z = o_2 := ⟨_, rfl⟩
  subst ho
  rintro _ mm_4 t_6 ⟨rfl, rfl, g5⟩
  refine qca ?_
  refine qab (w_seq (w_ops (wsp (p_mv g5) (wsp (v := v13) (p_mv rfl) (qac (qab ?_))))))
  refine w_ret ?_
  exact qf qba (rt rfl rn) z6
/- (dibber/vine.family).doubles -/
abbrev g96_I0 (x1 : Int) (v2 : AVal) (x12 : Int) (s : Int × Int × Mm) (m1 : Mm) (t1 : Tr) : Prop :=
 match s with
 | (x5, x13, m_2) => m_2 = m1 ∧ t1.get 5 = (.i .i64 x5) ∧ t1.get 13 = (.i .i64 x13) ∧ t1.get 1 = (.i .i64 x1) ∧ t1.get 2 = v2 ∧ t1.get 12 = (.i .i64 x12)
abbrev g96_J0 (x1 : Int) (v2 : AVal) (x12 : Int) (o : (Int × Mm)) (e : AExit) (m1 : Mm) (t1 : Tr) : Prop :=
 match o with
 | (y5, mo) => e = (.exit 0) ∧ mo = m1 ∧ t1.get 5 = (.i .i64 y5)
abbrev g96_J1 (x1 : Int) (v2 : AVal) (x12 : Int) (x13 : Int) (m_5 : Mm) (o : Int) (e : AExit) (m1 : Mm) (t1 : Tr) : Prop :=
 match o with
 | y5 => e = .norm ∧ m_5 = m1 ∧ t1.get 5 = (.i .i64 y5) ∧ t1.get 1 = (.i .i64 x1) ∧ t1.get 2 = v2 ∧ t1.get 12 = (.i .i64 x12) ∧ t1.get 13 = (.i .i64 x13)
def g96_b0 (M : Means) (ro : List ABlk) (x1 : Int) (v2 : AVal) (x12 : Int) (x5 : Int) (x13 : Int) (m_2 : Mm) : Option ((Int × Int × Mm) ⊕ ((Int × Mm))) :=
 qap (ltI x13 x12) fun c14 =>
 cond c14 (
  bindO (some (Mm.base m_2)) fun m_3 =>
  bindO (evP .e (.faddr 1 (.c v2))) fun v16 =>
  bindO (ldA ro m_2.h true 1 v16) fun v17 =>
  bindO (evP .e (.ixS 1 (.c v17) (.c (.i .i64 x1)))) fun v19 =>
  bindO (ldA ro m_2.h true 1 v19) fun v20 =>
  bindO (evP .e (.faddr 0 (.c v2))) fun v21 =>
  bindO (ldM ro m_3 true 1 v21) fun v22 =>
  bindO (evP .e (.ixS 1 (.c v22) (.c (.i .i64 x1)))) fun v24 =>
  bindO (ldM ro m_3 true 1 v24) fun v25 =>
  asS v25 fun s25 =>
  bindO (evP .e (.ixStr (.c (.s s25)) (.c (.i .i64 x13)))) fun v27 =>
  asI .u8 v27 fun x27 =>
  bindP (callM M.call m_3 54 [(.i .u8 x27)]) fun v28 m_4 =>
  asI .i64 v28 fun x28 =>
  chk (!Nat.blt m_4.lw m_2.h.length) <|
  bindO (evP .e (.ixS 1 (.c v20) (.c (.i .i64 x28)))) fun v29 =>
  bindO (ldM ro m_4 true 1 v29) fun v30 =>
  asB v30 fun c30 =>
  bindO (some (Mm.join m_2 m_4)) fun m_5 =>
  bindO (α := Int) (
   cond c30 (
    qax (wr .i64 (x5 + 1)) fun x32 =>
    some x32) (
    some x5)) fun x5_1 =>
  qax (wr .i64 (x13 + 1)) fun x33 =>
  some (.inl (x5_1, x33, m_5))) (
  some (.inr (x5, m_2)))
def g96 (M : Means) (ro : List ABlk) (v0 : AVal) (x1 : Int) (m0 : Mm) : Option (AVal × Heap × Nat × Nat) :=
 bindP (stepM ro m0 (.bx 85 2 (.c v0))) fun v2 m_1 =>
 bindO (evP .e (.faddr 0 (.c v2))) fun v7 =>
 bindO (ldM ro m_1 true 1 v7) fun v8 =>
 bindO (evP .e (.ixS 1 (.c v8) (.c (.i .i64 x1)))) fun v10 =>
 bindO (ldM ro m_1 true 1 v10) fun v11 =>
 asS v11 fun s11 =>
 bindO (evP .e (.len true (.c (.s s11)))) fun v12 =>
 asI .i64 v12 fun x12 =>
 bindO (M.loop (S := Int × Int × Mm) (R := (Int × Mm)) (fun s => g96_b0 M ro x1 v2 x12 s.1 s.2.1 s.2.2) (0, 0, m_1)) fun ⟨x5_2, m_6⟩ =>
 qap (!ltI x5_2 2) fun c35 =>
 finM m0.h.length (tupA [(.b c35)]) m_6
theorem g96_ok {ro : List ABlk} {O : qao} {M : Means} (hM : M.Ok ⟨F, O⟩ ro) {v0 x1 h r} (ho : O 96 [v0, (.i .i64 x1)] h = none) (hr : g96 M ro v0 x1 ⟨h, h.length, h.length⟩ = some r) : callX ⟨F, O⟩ ro 96 [v0, (.i .i64 x1)] h = some r := by
 refine qbc (F := ⟨F, O⟩) (fn := fn96) (g := g96 M ro v0 x1) ho rfl rfl hr ?_
 clear ho
 clear hr
 intro m0 t0 ht hr
 have g0 : t0.get 0 = v0 := ht 0
 have g1 : t0.get 1 = (.i .i64 x1) := ht 1
 clear ht
 unfold g96 at hr
 refine w_seq (w_ops ?_)
 obtain ⟨v2, m_1, e2, z1⟩ := qaf hr
 refine qan (s_bx g0 e2) (wsp (v := (.b false)) (p_mv rfl) (qac (qab (w_seq (w_ops (wsp (v := (.i .i64 0)) (p_mv rfl) (qac (qab (w_seq (w_seq (w_ops ?_)))))))))))
 obtain ⟨v7, e7, z2⟩ := qaa z1
 refine wsp (qfq rfl e7) ?_
 obtain ⟨v8, e8, z3⟩ := qaa z2
 refine qan (s_ld rfl e8) (wsp (p_mv g1) ?_)
 obtain ⟨v10, e10, z4⟩ := qaa z3
 refine wsp (o_ixS rfl rfl e10) ?_
 obtain ⟨v11, e11, z5⟩ := qaa z4
 obtain ⟨s11, rfl, z6⟩ := qck z5
 refine qan (s_ld rfl e11) ?_
 obtain ⟨v12, e12, z7⟩ := qaa z6
 obtain ⟨x12, rfl, z8⟩ := qam z7
 refine wsp (o_len rfl e12) (wsp (v := (.i .i64 0)) (p_mv rfl) (qac (qab ?_)))
 refine qau ?_
 obtain ⟨o_1, hl, z9⟩ := qaa z8
 obtain ⟨n, hl⟩ := hM.loop _ _ _ hl
 refine qbl (qbw _ (g96_I0 x1 v2 x12) (g96_J0 x1 v2 x12) ?_ n _ _ _ _ hl ⟨rfl, gl rfl, gl rfl, gl g1, gl rfl, gl rfl⟩) ?_
 ·clear z9 hl
  intro s mm_2 t_1 o hi hr
  obtain ⟨x5, x13, m_2⟩ := s
  obtain ⟨rfl, g5, g13, g1, g2, g12⟩ := hi
  unfold g96_b0 at hr
  refine w_seq (w_ops ?_)
  obtain ⟨c14, e14, z10⟩ := qad hr
  refine wsp (p_bin g13 g12 (b_lss.trans (cb e14))) (qac (qab (w_seq ?_)))
  rcases qai z10 with ⟨rfl, z11⟩ | ⟨rfl, z11⟩
  ·refine qas rfl ?_
   refine qbb (qab (w_seq ?_))
   refine qau ?_
   refine w_seq (w_ops (wsp (p_mv g13) (wsp (v := (.i .i64 x13)) (p_mv rfl) (qac (qab (w_seq ?_))))))
   obtain ⟨m_3, ef, z12⟩ := qaa z11
   refine w_flt (af := true) rfl ef ?_
   obtain ⟨v16, e16, z13⟩ := qaa z12
   refine qal (v := v16) (f_P rfl (qag (qfq g2 e16))) ?_
   obtain ⟨v17, e17, z14⟩ := qaa z13
   refine qal (v := v17) (f_ld rfl e17) ?_
   refine qal (v := (.i .i64 x1)) (f_P rfl (qag (p_mv g1))) ?_
   obtain ⟨v19, e19, z15⟩ := qaa z14
   refine qal (v := v19) (f_P rfl (qag (o_ixS rfl rfl e19))) ?_
   obtain ⟨v20, e20, z16⟩ := qaa z15
   refine qal (v := v20) (f_ld rfl e20) ?_
   obtain ⟨v21, e21, z17⟩ := qaa z16
   refine qal (v := v21) (f_P rfl (qag (qfq g2 e21))) ?_
   obtain ⟨v22, e22, z18⟩ := qaa z17
   refine qal (v := v22) (f_P rfl (s_ld rfl e22)) ?_
   refine qal (v := (.i .i64 x1)) (f_P rfl (qag (p_mv g1))) ?_
   obtain ⟨v24, e24, z19⟩ := qaa z18
   refine qal (v := v24) (f_P rfl (qag (o_ixS rfl rfl e24))) ?_
   obtain ⟨v25, e25, z20⟩ := qaa z19
   obtain ⟨s25, rfl, z21⟩ := qck z20
   refine qal (v := (.s s25)) (f_P rfl (s_ld rfl e25)) ?_
   refine qal (v := (.i .i64 x13)) (f_P rfl (qag (p_mv rfl))) ?_
   obtain ⟨v27, e27, z22⟩ := qaa z21
   obtain ⟨x27, rfl, z23⟩ := qam z22
   refine qal (v := (.i .u8 x27)) (f_P rfl (qag (qhg rfl rfl e27))) ?_
   obtain ⟨v28, m_4, e28, z24⟩ := qaf z23
   obtain ⟨x28, rfl, z25⟩ := qam z24
   obtain ⟨hc28, z26⟩ := qdc z25
   refine qal (v := (.i .i64 x28)) (f_M hc28 (qbf (mc rfl mn) (qaq hM.call e28))) ?_
   obtain ⟨v29, e29, z27⟩ := qaa z26
   refine qal (v := v29) (f_P rfl (qag (o_ixS rfl rfl e29))) ?_
   obtain ⟨v30, e30, z28⟩ := qaa z27
   obtain ⟨c30, rfl, z29⟩ := qbr z28
   refine qal (v := (.b c30)) (f_P rfl (s_ld rfl e30)) ?_
   obtain ⟨m_5, ef_1, z30⟩ := qaa z29
   refine qja ef_1 ?_
   refine qab ?_
   obtain ⟨o, z31, hk⟩ := qaa z30
   refine qbl (J := g96_J1 x1 v2 x12 x13 m_5 o) ?_ ?_
   ·clear hk
    rcases qai z31 with ⟨rfl, z32⟩ | ⟨rfl, z32⟩
    ·refine qas rfl ?_
     refine w_ops (wsp (p_mv g5) ?_)
     obtain ⟨x32, e32, z33⟩ := qaj z32
     refine wsp (p_bin rfl rfl (b_add.trans (ci e32))) (wsp (v := (.i .i64 x32)) (p_mv rfl) (qac ?_))
     cases z33
     exact ⟨_, _, rfl, rfl, rfl, gl rfl, gl g1, gl g2, gl g12, gl g13⟩
    ·refine qat rfl ?_
     refine qbb ?_
     cases z32
     exact ⟨_, _, rfl, rfl, rfl, gl g5, gl g1, gl g2, gl g12, gl g13⟩
   ·clear z31
    have hr := hk
    clear hk
    obtain ⟨x5_1, ho⟩ : ∃ z, z = o := ⟨_, rfl⟩
    subst ho
    rintro _ mm t_2 ⟨rfl, rfl, g5, g1, g2, g12, g13⟩
    refine qbo ?_
    refine qab (w_ops ?_)
    obtain ⟨x33, e33, z34⟩ := qaj hr
    refine wsp (p_bin g13 rfl (b_add.trans (ci e33))) (wsp (v := (.i .i64 x33)) (p_mv rfl) (qac ?_))
    cases z34
    exact ⟨_, _, rfl, rfl, rfl, gl g5, gl rfl, gl g1, gl g2, gl g12⟩
  ·refine qat rfl ?_
   refine qbz ?_
   refine qbp ?_
   cases z11
   exact ⟨_, _, rfl, qar, rfl, rfl, gl g5⟩
 ·obtain ⟨x5_2, m_6⟩ := o_1
  rintro _ mm_1 t_3 ⟨rfl, rfl, g5⟩
  refine qca ?_
  refine qab (w_seq (w_ops (wsp (p_mv g5) ?_)))
  obtain ⟨c35, e35, z35⟩ := qad z9
  refine wsp (p_bin rfl rfl (b_geq.trans (cb e35))) (wsp (v := (.b c35)) (p_mv rfl) (qac (qab ?_)))
  refine w_ret ?_
  exact qf qba (rt rfl rn) z35
/- strings.CutPrefix -/

def g97 (M : Means) (ro : List ABlk) (s0 : List UInt8) (s1 : List UInt8) (m0 : Mm) : Option (AVal × Heap × Nat × Nat) :=
 bindP (callM M.call m0 102 [(.s s0), (.s s1)]) fun v8 m_1 =>
 bindO (evP .e (.ext 0 (.c v8))) fun v9 =>
 asS v9 fun s9 =>
 bindO (evP .e (.ext 1 (.c v8))) fun v10 =>
 asB v10 fun c10 =>
 finM m0.h.length (tupA [(.s s9), (.b c10)]) m_1
theorem g97_ok {ro : List ABlk} {O : qao} {M : Means} (hM : M.Ok ⟨F, O⟩ ro) {s0 s1 h r} (ho : O 97 [(.s s0), (.s s1)] h = none) (hr : g97 M ro s0 s1 ⟨h, h.length, h.length⟩ = some r) : callX ⟨F, O⟩ ro 97 [(.s s0), (.s s1)] h = some r := by
 refine qbc (F := ⟨F, O⟩) (fn := fn97) (g := g97 M ro s0 s1) ho rfl rfl hr ?_
 clear ho
 clear hr
 intro m0 t0 ht hr
 have g0 : t0.get 0 = (.s s0) := ht 0
 have g1 : t0.get 1 = (.s s1) := ht 1
 clear ht
 unfold g97 at hr
 refine w_seq (w_ops (wsp (v := (AVal.s [])) (p_mv rfl) (wsp (v := (.b false)) (p_mv rfl) (qac (qab (w_seq (w_ops (wsp (p_mv g0) (wsp (p_mv g1) ?_)))))))))
 obtain ⟨v8, m_1, e8, z1⟩ := qaf hr
 refine qan (qbf (mc rfl (mc rfl mn)) (qaq hM.call e8)) ?_
 obtain ⟨v9, e9, z2⟩ := qaa z1
 obtain ⟨s9, rfl, z3⟩ := qck z2
 refine wsp (o_ext rfl e9) ?_
 obtain ⟨v10, e10, z4⟩ := qaa z3
 obtain ⟨c10, rfl, z5⟩ := qbr z4
 refine wsp (o_ext rfl e10) (wsp (v := (.s s9)) (p_mv rfl) (wsp (v := (.b c10)) (p_mv rfl) (qac (qab ?_))))
 refine w_ret ?_
 exact qf qba (rt rfl (rt rfl rn)) z5
/- (dibber/vine.rules).endless-1 -/
abbrev g98_I0 (v0 : AVal) (v1 : AVal) (s : AVal × Int × Mm) (m1 : Mm) (t1 : Tr) : Prop :=
 match s with
 | (v4, x5, m_2) => m_2 = m1 ∧ t1.get 4 = v4 ∧ t1.get 5 = (.i .i64 x5) ∧ t1.get 0 = v0 ∧ t1.get 1 = v1
abbrev g98_J0 (v0 : AVal) (v1 : AVal) (o : (Mm ⊕ Mm)) (e : AExit) (m1 : Mm) (t1 : Tr) : Prop :=
 match o with
 | (.inl mo) => e = (.exit 0) ∧ mo = m1
 | (.inr mo) => e = .ret ∧ mo = m1
abbrev g98_J1 (v0 : AVal) (v1 : AVal) (x5 : Int) (o : (AVal × Mm)) (e : AExit) (m1 : Mm) (t1 : Tr) : Prop :=
 match o with
 | (y4, mo) => e = .norm ∧ mo = m1 ∧ t1.get 4 = y4 ∧ t1.get 0 = v0 ∧ t1.get 1 = v1 ∧ t1.get 5 = (.i .i64 x5)
def g98_b0 (M : Means) (ro : List ABlk) (v0 : AVal) (v1 : AVal) (v4 : AVal) (x5 : Int) (m_2 : Mm) : Option ((AVal × Int × Mm) ⊕ ((Mm ⊕ Mm))) :=
 qap (ltI x5 100000) fun c12 =>
 cond c12 (
  qap (ltI 0 x5) fun c16 =>
  bindO (α := (AVal × Mm)) (
   cond c16 (
    bindO (some (Mm.base m_2)) fun m_3 =>
    bindO (ldA ro m_2.h true 1 v1) fun v18 =>
    bindO (evP .e (.ixS 1 (.c v4) (.c (.i .i64 x5)))) fun v21 =>
    bindO (ldM ro m_3 true 1 v21) fun v22 =>
    asI .u8 v22 fun x22 =>
    bindP (callM M.call m_3 54 [(.i .u8 x22)]) fun v23 m_4 =>
    asI .i64 v23 fun x23 =>
    chk (!Nat.blt m_4.lw m_2.h.length) <|
    bindO (evP .e (.ixS 1 (.c v18) (.c (.i .i64 x23)))) fun v24 =>
    bindO (ldM ro m_4 true 1 v24) fun v25 =>
    asS v25 fun s25 =>
    bindP (stepM ro m_4 (.app 5 1 1 [(AVal.i IntKind.u8 0)] (.c v4) (.c (.s s25)))) fun v26 m_5 =>
    bindO (some (Mm.join m_2 m_5)) fun m_6 =>
    some (v26, m_6)) (
    some (v4, m_2))) fun ⟨v4_1, m_7⟩ =>
  bindO (evP .e (.ixS 1 (.c v4_1) (.c (.i .i64 x5)))) fun v31 =>
  bindO (ldM ro m_7 true 1 v31) fun v32 =>
  asI .u8 v32 fun x32 =>
  bindP (qjp M.call M.round m_7 v0 [(.i .i64 x5), (.i .u8 x32)]) fun v33 m_8 =>
  asB v33 fun c33 =>
  qap (!c33) fun c34 =>
  cond c34 (
   some (.inr (.inr m_8))) (
   qax (wr .i64 (x5 + 1)) fun x14 =>
   some (.inl (v4_1, x14, m_8)))) (
  some (.inr (.inl m_2)))
def g98 (M : Means) (ro : List ABlk) (v0 : AVal) (v1 : AVal) (v2 : AVal) (m0 : Mm) : Option (AVal × Heap × Nat × Nat) :=
 bindO (ldM ro m0 true 1 v1) fun v6 =>
 bindO (ldM ro m0 true 1 v2) fun v7 =>
 asI .i64 v7 fun x7 =>
 bindO (evP .e (.ixS 1 (.c v6) (.c (.i .i64 x7)))) fun v8 =>
 bindO (ldM ro m0 true 1 v8) fun v9 =>
 asS v9 fun s9 =>
 bindP (stepM ro m0 (.stb 5 (.c (.s s9)))) fun v10 m_1 =>
 bindO (M.loop (S := AVal × Int × Mm) (R := (Mm ⊕ Mm)) (fun s => g98_b0 M ro v0 v1 s.1 s.2.1 s.2.2) (v10, 0, m_1)) fun o_1 => match o_1 with
 | (.inl m_9) =>
  finM m0.h.length (tupA []) m_9
 | (.inr m_10) =>
  finM m0.h.length (tupA []) m_10
theorem g98_ok {ro : List ABlk} {O : qao} {M : Means} (hM : M.Ok ⟨F, O⟩ ro) {v0 v1 v2 h r} (ho : O 98 [v0, v1, v2] h = none) (hr : g98 M ro v0 v1 v2 ⟨h, h.length, h.length⟩ = some r) : callX ⟨F, O⟩ ro 98 [v0, v1, v2] h = some r := by
 refine qbc (F := ⟨F, O⟩) (fn := fn98) (g := g98 M ro v0 v1 v2) ho rfl rfl hr ?_
 clear ho
 clear hr
 intro m0 t0 ht hr
 have g0 : t0.get 0 = v0 := ht 0
 have g1 : t0.get 1 = v1 := ht 1
 have g2 : t0.get 2 = v2 := ht 2
 clear ht
 unfold g98 at hr
 refine w_seq (w_ops ?_)
 obtain ⟨v6, e6, z1⟩ := qaa hr
 refine qan (s_ld g1 e6) ?_
 obtain ⟨v7, e7, z2⟩ := qaa z1
 obtain ⟨x7, rfl, z3⟩ := qam z2
 refine qan (s_ld g2 e7) ?_
 obtain ⟨v8, e8, z4⟩ := qaa z3
 refine wsp (o_ixS rfl rfl e8) ?_
 obtain ⟨v9, e9, z5⟩ := qaa z4
 obtain ⟨s9, rfl, z6⟩ := qck z5
 refine qan (s_ld rfl e9) ?_
 obtain ⟨v10, m_1, e10, z7⟩ := qaf z6
 refine qan (s_stb rfl e10) (wsp (v := v10) (p_mv rfl) (qac (qab (w_seq (w_ops (wsp (v := (.i .i64 0)) (p_mv rfl) (qac (qab ?_))))))))
 refine qau ?_
 obtain ⟨o_1, hl, z8⟩ := qaa z7
 obtain ⟨n, hl⟩ := hM.loop _ _ _ hl
 refine qbl (qbw _ (g98_I0 v0 v1) (g98_J0 v0 v1) ?_ n _ _ _ _ hl ⟨rfl, gl rfl, gl rfl, gl g0, gl g1⟩) ?_
 ·clear z8 hl
  intro s mm_3 t_1 o hi hr
  obtain ⟨v4, x5, m_2⟩ := s
  obtain ⟨rfl, g4, g5, g0, g1⟩ := hi
  unfold g98_b0 at hr
  refine w_seq (w_seq (w_ops (wsp (p_mv g5) ?_)))
  obtain ⟨c12, e12, z9⟩ := qad hr
  refine wsp (p_bin rfl rfl (b_lss.trans (cb e12))) (qac (qab ?_))
  rcases qai z9 with ⟨rfl, z10⟩ | ⟨rfl, z10⟩
  ·refine qas rfl ?_
   refine qbb (qab (w_seq ?_))
   refine qau ?_
   refine w_seq (w_seq (w_ops (wsp (p_mv g5) ?_)))
   obtain ⟨c16, e16, z11⟩ := qad z10
   refine wsp (p_bin rfl rfl (b_gtr.trans (cb e16))) (qac (qab ?_))
   obtain ⟨o, z12, hk⟩ := qaa z11
   refine qbl (J := g98_J1 v0 v1 x5 o) ?_ ?_
   ·clear hk
    rcases qai z12 with ⟨rfl, z13⟩ | ⟨rfl, z13⟩
    ·refine qas rfl ?_
     obtain ⟨m_3, ef, z14⟩ := qaa z13
     refine w_flt (af := true) rfl ef ?_
     refine qal (v := v4) (f_P rfl (qag (p_mv g4))) ?_
     obtain ⟨v18, e18, z15⟩ := qaa z14
     refine qal (v := v18) (f_ld g1 e18) ?_
     refine qal (v := v4) (f_P rfl (qag (p_mv g4))) ?_
     refine qal (v := (.i .i64 x5)) (f_P rfl (qag (p_mv g5))) ?_
     obtain ⟨v21, e21, z16⟩ := qaa z15
     refine qal (v := v21) (f_P rfl (qag (o_ixS rfl rfl e21))) ?_
     obtain ⟨v22, e22, z17⟩ := qaa z16
     obtain ⟨x22, rfl, z18⟩ := qam z17
     refine qal (v := (.i .u8 x22)) (f_P rfl (s_ld rfl e22)) ?_
     obtain ⟨v23, m_4, e23, z19⟩ := qaf z18
     obtain ⟨x23, rfl, z20⟩ := qam z19
     obtain ⟨hc23, z21⟩ := qdc z20
     refine qal (v := (.i .i64 x23)) (f_M hc23 (qbf (mc rfl mn) (qaq hM.call e23))) ?_
     obtain ⟨v24, e24, z22⟩ := qaa z21
     refine qal (v := v24) (f_P rfl (qag (o_ixS rfl rfl e24))) ?_
     obtain ⟨v25, e25, z23⟩ := qaa z22
     obtain ⟨s25, rfl, z24⟩ := qck z23
     refine qal (v := (.s s25)) (f_P rfl (s_ld rfl e25)) ?_
     obtain ⟨v26, m_5, e26, z25⟩ := qaf z24
     refine qal (v := v26) (f_F rfl (s_app rfl rfl e26)) ?_
     refine qal (v := v26) (f_P rfl (qag (p_mv rfl))) ?_
     obtain ⟨m_6, ef_1, z26⟩ := qaa z25
     refine qja ef_1 ?_
     cases z26
     exact ⟨_, _, rfl, rfl, rfl, gl rfl, gl g0, gl g1, gl g5⟩
    ·refine qat rfl ?_
     refine qbb ?_
     cases z13
     exact ⟨_, _, rfl, rfl, rfl, gl g4, gl g0, gl g1, gl g5⟩
   ·clear z12
    have hr := hk
    clear hk
    obtain ⟨v4_1, m_7⟩ := o
    rintro _ mm t_2 ⟨rfl, rfl, g4, g0, g1, g5⟩
    refine qab (w_seq ?_)
    refine w_opsY ?_
    refine qgd (v := v0) (y_C (qag (p_mv g0))) ?_
    refine qgd (v := (.i .i64 x5)) (y_C (qag (p_mv g5))) ?_
    refine qgd (v := v4_1) (y_C (qag (p_mv g4))) ?_
    refine qgd (v := (.i .i64 x5)) (y_C (qag (p_mv g5))) ?_
    obtain ⟨v31, e31, z27⟩ := qaa hr
    refine qgd (v := v31) (y_C (qag (o_ixS rfl rfl e31))) ?_
    obtain ⟨v32, e32, z28⟩ := qaa z27
    obtain ⟨x32, rfl, z29⟩ := qam z28
    refine qgd (v := (.i .u8 x32)) (y_C (s_ld rfl e32)) ?_
    obtain ⟨v33, m_8, e33, z30⟩ := qaf z29
    obtain ⟨c33, rfl, z31⟩ := qbr z30
    refine qgd (v := (.b c33)) (y_callv rfl (mc rfl (mc rfl mn)) (callyM_le hM.call hM.round e33)) ?_
    obtain ⟨c34, e34, z32⟩ := qad z31
    refine qgd (v := (.b c34)) (y_C (qag ((p_not rfl).trans (cb e34)))) ?_
    refine wy_nil ?_
    refine qab ?_
    rcases qai z32 with ⟨rfl, z33⟩ | ⟨rfl, z33⟩
    ·refine qas rfl ?_
     refine w_ret ?_
     refine qco ?_
     refine qbm ?_
     cases z33
     exact ⟨_, _, rfl, qcb, rfl, rfl⟩
    ·refine qat rfl ?_
     refine qbb ?_
     refine qbo ?_
     refine qab (w_ops (wsp (p_mv g5) ?_))
     obtain ⟨x14, e14, z34⟩ := qaj z33
     refine wsp (p_bin rfl rfl (b_add.trans (ci e14))) (wsp (v := (.i .i64 x14)) (p_mv rfl) (qac ?_))
     cases z34
     exact ⟨_, _, rfl, rfl, rfl, gl g4, gl rfl, gl g0, gl g1⟩
  ·refine qat rfl ?_
   refine qbz ?_
   refine qbp ?_
   cases z10
   exact ⟨_, _, rfl, qar, rfl, rfl⟩
 ·rcases o_1 with o_1 | o_1
  ·obtain ⟨m_9, ho⟩ : ∃ z, z = o_1 := ⟨_, rfl⟩
   subst ho
   rintro _ mm_1 t_3 ⟨rfl, rfl⟩
   refine qca ?_
   exact qf norm_ok rn z8
  ·obtain ⟨m_10, ho⟩ : ∃ z, z = o_1 := ⟨_, rfl⟩
   subst ho
   rintro _ mm_2 t_4 ⟨rfl, rfl⟩
   refine qco ?_
   exact qf qba rn z8
/- internal/stringslite.CutPrefix -/

def g102 (M : Means) (ro : List ABlk) (s0 : List UInt8) (s1 : List UInt8) (m0 : Mm) : Option (AVal × Heap × Nat × Nat) :=
 bindP (callM M.call m0 104 [(.s s0), (.s s1)]) fun v8 m_1 =>
 asB v8 fun c8 =>
 qap (!c8) fun c9 =>
 cond c9 (
  finM m0.h.length (tupA [(.s s0), (.b false)]) m_1) (
  bindO (evP .e (.len true (.c (.s s1)))) fun v13 =>
  asI .i64 v13 fun x13 =>
  bindO (evP .e (.slStr (.c (.s s0)) (some (.c (.i .i64 x13))) none)) fun v14 =>
  asS v14 fun s14 =>
  finM m0.h.length (tupA [(.s s14), (.b true)]) m_1)
theorem g102_ok {ro : List ABlk} {O : qao} {M : Means} (hM : M.Ok ⟨F, O⟩ ro) {s0 s1 h r} (ho : O 102 [(.s s0), (.s s1)] h = none) (hr : g102 M ro s0 s1 ⟨h, h.length, h.length⟩ = some r) : callX ⟨F, O⟩ ro 102 [(.s s0), (.s s1)] h = some r := by
 refine qbc (F := ⟨F, O⟩) (fn := fn102) (g := g102 M ro s0 s1) ho rfl rfl hr ?_
 clear ho
 clear hr
 intro m0 t0 ht hr
 have g0 : t0.get 0 = (.s s0) := ht 0
 have g1 : t0.get 1 = (.s s1) := ht 1
 clear ht
 unfold g102 at hr
 refine w_seq (w_ops (wsp (v := (AVal.s [])) (p_mv rfl) (wsp (v := (.b false)) (p_mv rfl) (qac (qab (w_seq (w_seq (w_ops (wsp (p_mv g0) (wsp (p_mv g1) ?_))))))))))
 obtain ⟨v8, m_1, e8, z1⟩ := qaf hr
 obtain ⟨c8, rfl, z2⟩ := qbr z1
 refine qan (qbf (mc rfl (mc rfl mn)) (qaq hM.call e8)) ?_
 obtain ⟨c9, e9, z3⟩ := qad z2
 refine wsp ((p_not rfl).trans (cb e9)) (qac (qab ?_))
 rcases qai z3 with ⟨rfl, z4⟩ | ⟨rfl, z4⟩
 ·refine qas rfl ?_
  refine w_seq (w_ops (wsp (p_mv g0) (wsp (v := (.s s0)) (p_mv rfl) (wsp (v := (.b false)) (p_mv rfl) (qac (qab ?_))))))
  refine w_ret ?_
  refine qbm ?_
  exact qf qba (rt rfl (rt rfl rn)) z4
 ·refine qat rfl ?_
  refine qbb (qab (w_seq (w_ops (wsp (p_mv g0) (wsp (p_mv g1) ?_)))))
  obtain ⟨v13, e13, z5⟩ := qaa z4
  obtain ⟨x13, rfl, z6⟩ := qam z5
  refine wsp (o_len rfl e13) ?_
  obtain ⟨v14, e14, z7⟩ := qaa z6
  obtain ⟨s14, rfl, z8⟩ := qck z7
  refine wsp (o_slStr rfl (os rfl) on e14) (wsp (v := (.s s14)) (p_mv rfl) (wsp (v := (.b true)) (p_mv rfl) (qac (qab ?_))))
  refine w_ret ?_
  exact qf qba (rt rfl (rt rfl rn)) z8
/- internal/stringslite.HasPrefix -/
abbrev g104_J0 (m0 : Mm) (o : Bool) (m1 : Mm) (t1 : Tr) : Prop :=
 match o with
 | c17 => m0 = m1 ∧ t1.get 17 = (.b c17)
def g104 (M : Means) (ro : List ABlk) (s0 : List UInt8) (s1 : List UInt8) (m0 : Mm) : Option (AVal × Heap × Nat × Nat) :=
 bindO (evP .e (.len true (.c (.s s0)))) fun v6 =>
 asI .i64 v6 fun x6 =>
 bindO (evP .e (.len true (.c (.s s1)))) fun v8 =>
 asI .i64 v8 fun x8 =>
 qap (!ltI x6 x8) fun c9 =>
 bindO (cond c9 (
  bindO (evP .e (.len true (.c (.s s1)))) fun v13 =>
  asI .i64 v13 fun x13 =>
  bindO (evP .e (.slStr (.c (.s s0)) none (some (.c (.i .i64 x13))))) fun v14 =>
  asS v14 fun s14 =>
  bindO (evP .e (.sbin BinOp.eql (.c (.s s14)) (.c (.s s1)))) fun v16 =>
  asB v16 fun c16 =>
  some c16) (
  some false)) fun c17 =>
 finM m0.h.length (tupA [(.b c17)]) m0
theorem g104_ok {ro : List ABlk} {O : qao} {M : Means} (hM : M.Ok ⟨F, O⟩ ro) {s0 s1 h r} (ho : O 104 [(.s s0), (.s s1)] h = none) (hr : g104 M ro s0 s1 ⟨h, h.length, h.length⟩ = some r) : callX ⟨F, O⟩ ro 104 [(.s s0), (.s s1)] h = some r := by
 refine qbc (F := ⟨F, O⟩) (fn := fn104) (g := g104 M ro s0 s1) ho rfl rfl hr ?_
 clear ho
 clear hr
 intro m0 t0 ht hr
 have g0 : t0.get 0 = (.s s0) := ht 0
 have g1 : t0.get 1 = (.s s1) := ht 1
 clear ht
 unfold g104 at hr
 refine w_seq (w_ops (wsp (v := (.b false)) (p_mv rfl) (qac (qab (w_seq (w_ops (wsp (p_mv g0) ?_)))))))
 obtain ⟨v6, e6, z1⟩ := qaa hr
 obtain ⟨x6, rfl, z2⟩ := qam z1
 refine wsp (o_len rfl e6) (wsp (p_mv g1) ?_)
 obtain ⟨v8, e8, z3⟩ := qaa z2
 obtain ⟨x8, rfl, z4⟩ := qam z3
 refine wsp (o_len rfl e8) ?_
 obtain ⟨c9, e9, z5⟩ := qad z4
 refine wsp (p_bin rfl rfl (b_geq.trans (cb e9))) (wsp (v := (.b c9)) (p_mv rfl) ?_)
 obtain ⟨o, z6, hk⟩ := qaa z5
 refine qbn 7 (g104_J0 m0 o) ?_ ?_
 ·clear hk
  rcases qai z6 with ⟨rfl, z7⟩ | ⟨rfl, z7⟩
  ·refine qah (v := (.s s0)) rfl (qag (p_mv g0)) (qah (v := (.s s1)) rfl (qag (p_mv g1)) ?_)
   obtain ⟨v13, e13, z8⟩ := qaa z7
   obtain ⟨x13, rfl, z9⟩ := qam z8
   refine qah (v := (.i .i64 x13)) rfl (qag (o_len rfl e13)) ?_
   obtain ⟨v14, e14, z10⟩ := qaa z9
   obtain ⟨s14, rfl, z11⟩ := qck z10
   refine qah (v := (.s s14)) rfl (qag (o_slStr rfl on (os rfl) e14)) (qah (v := (.s s1)) rfl (qag (p_mv g1)) ?_)
   obtain ⟨v16, e16, z12⟩ := qaa z11
   obtain ⟨c16, rfl, z13⟩ := qbr z12
   refine qah (v := (.b c16)) rfl (qag (o_sbin rfl rfl e16)) (wsp (v := (.b c16)) (qbj rfl rfl) (qac ?_))
   cases z13
   exact ⟨_, _, rfl, rfl, gl rfl⟩
  ·refine qae (v := (.b false)) rfl rfl (qae (v := (.b false)) rfl rfl (qae (v := (.b false)) rfl rfl (qae (v := (.b false)) rfl rfl (qae (v := (.b false)) rfl rfl (qae (v := (.b false)) rfl rfl (wsp (v := (.b false)) (qbd rfl rfl) (qac ?_)))))))
   cases z7
   exact ⟨_, _, rfl, rfl, gl rfl⟩
 ·clear z6
  have hr := hk
  clear hk
  obtain ⟨c17, ho⟩ : ∃ z, z = o := ⟨_, rfl⟩
  subst ho
  rintro mm t_1 ⟨rfl, g17⟩
  refine wsp (p_mv g17) (qac (qab ?_))
  refine w_ret ?_
  exact qf qba (rt rfl rn) hr
/- (dibber/vine.many).times -/

def g126 (M : Means) (ro : List ABlk) (x0 : Int) (x1 : Int) (m0 : Mm) : Option (AVal × Heap × Nat × Nat) :=
 bindP (callM M.call m0 127 [(.i .u64 x0), (.i .u64 x1)]) fun v10 m_1 =>
 bindO (evP .e (.ext 0 (.c v10))) fun v11 =>
 asI .u64 v11 fun x11 =>
 bindO (evP .e (.ext 1 (.c v10))) fun v12 =>
 asI .u64 v12 fun x12 =>
 qap (ltI 0 x11) fun c14 =>
 cond c14 (
  finM m0.h.length (tupA [(.i .u64 9223372036854775808)]) m_1) (
  qax (mxV false x12 9223372036854775808) fun x16 =>
  finM m0.h.length (tupA [(.i .u64 x16)]) m_1)
theorem g126_ok {ro : List ABlk} {O : qao} {M : Means} (hM : M.Ok ⟨F, O⟩ ro) {x0 x1 h r} (ho : O 126 [(.i .u64 x0), (.i .u64 x1)] h = none) (hr : g126 M ro x0 x1 ⟨h, h.length, h.length⟩ = some r) : callX ⟨F, O⟩ ro 126 [(.i .u64 x0), (.i .u64 x1)] h = some r := by
 refine qbc (F := ⟨F, O⟩) (fn := fn126) (g := g126 M ro x0 x1) ho rfl rfl hr ?_
 clear ho
 clear hr
 intro m0 t0 ht hr
 have g0 : t0.get 0 = (.i .u64 x0) := ht 0
 have g1 : t0.get 1 = (.i .u64 x1) := ht 1
 clear ht
 unfold g126 at hr
 refine w_seq (w_ops (wsp (v := (.i .u64 0)) (p_mv rfl) (qac (qab (w_seq (w_ops (wsp (p_mv g0) (wsp (p_mv g1) ?_))))))))
 obtain ⟨v10, m_1, e10, z1⟩ := qaf hr
 refine qan (qbf (mc rfl (mc rfl mn)) (qaq hM.call e10)) (wsp (v := v10) (p_mv rfl) ?_)
 obtain ⟨v11, e11, z2⟩ := qaa z1
 obtain ⟨x11, rfl, z3⟩ := qam z2
 refine wsp (o_ext rfl e11) ?_
 obtain ⟨v12, e12, z4⟩ := qaa z3
 obtain ⟨x12, rfl, z5⟩ := qam z4
 refine wsp (o_ext rfl e12) (wsp (v := (.i .u64 x11)) (p_mv rfl) (wsp (v := (.i .u64 x12)) (p_mv rfl) (qac (qab (w_seq (w_seq (w_ops (wsp (v := (.i .u64 x11)) (p_mv rfl) ?_))))))))
 obtain ⟨c14, e14, z6⟩ := qad z5
 refine wsp (p_bin rfl rfl (b_gtr.trans (cb e14))) (qac (qab ?_))
 rcases qai z6 with ⟨rfl, z7⟩ | ⟨rfl, z7⟩
 ·refine qas rfl ?_
  refine w_seq (w_ops (wsp (v := (.i .u64 9223372036854775808)) (p_mv rfl) (qac (qab ?_))))
  refine w_ret ?_
  refine qbm ?_
  exact qf qba (rt rfl rn) z7
 ·refine qat rfl ?_
  refine qbb (qab (w_seq (w_ops (wsp (v := (.i .u64 x12)) (p_mv rfl) ?_))))
  obtain ⟨x16, e16, z8⟩ := qaj z7
  refine wsp ((p_mx rfl rfl).trans (ci e16)) (wsp (v := (.i .u64 x16)) (p_mv rfl) (qac (qab ?_)))
  refine w_ret ?_
  exact qf qba (rt rfl rn) z8
/- math/bits.Mul64 -/

def g127 (M : Means) (ro : List ABlk) (x0 : Int) (x1 : Int) (m0 : Mm) : Option (AVal × Heap × Nat × Nat) :=
 qax (bitV .and .u64 x0 4294967295) fun x15 =>
 qax (shrV .u64 x0 32) fun x17 =>
 qax (bitV .and .u64 x1 4294967295) fun x19 =>
 qax (shrV .u64 x1 32) fun x21 =>
 qax (wr .u64 (x15 * x19)) fun x24 =>
 qax (wr .u64 (x17 * x19)) fun x27 =>
 qax (shrV .u64 x24 32) fun x29 =>
 qax (wr .u64 (x27 + x29)) fun x30 =>
 qax (bitV .and .u64 x30 4294967295) fun x32 =>
 qax (shrV .u64 x30 32) fun x34 =>
 qax (wr .u64 (x15 * x21)) fun x38 =>
 qax (wr .u64 (x32 + x38)) fun x39 =>
 qax (wr .u64 (x17 * x21)) fun x42 =>
 qax (wr .u64 (x42 + x34)) fun x44 =>
 qax (shrV .u64 x39 32) fun x46 =>
 qax (wr .u64 (x44 + x46)) fun x47 =>
 qax (wr .u64 (x0 * x1)) fun x50 =>
 finM m0.h.length (tupA [(.i .u64 x47), (.i .u64 x50)]) m0
theorem g127_ok {ro : List ABlk} {O : qao} {M : Means} (hM : M.Ok ⟨F, O⟩ ro) {x0 x1 h r} (ho : O 127 [(.i .u64 x0), (.i .u64 x1)] h = none) (hr : g127 M ro x0 x1 ⟨h, h.length, h.length⟩ = some r) : callX ⟨F, O⟩ ro 127 [(.i .u64 x0), (.i .u64 x1)] h = some r := by
 refine qbc (F := ⟨F, O⟩) (fn := fn127) (g := g127 M ro x0 x1) ho rfl rfl hr ?_
 clear ho
 clear hr
 intro m0 t0 ht hr
 have g0 : t0.get 0 = (.i .u64 x0) := ht 0
 have g1 : t0.get 1 = (.i .u64 x1) := ht 1
 clear ht
 unfold g127 at hr
 refine w_seq (w_ops (wsp (v := (.i .u64 0)) (p_mv rfl) (wsp (v := (.i .u64 0)) (p_mv rfl) (qac (qab (w_seq (w_ops (wsp (p_mv g0) ?_))))))))
 obtain ⟨x15, e15, z1⟩ := qaj hr
 refine wsp (p_bin rfl rfl (b_and.trans (ci e15))) (wsp (v := (.i .u64 x15)) (p_mv rfl) (qac (qab (w_seq (w_ops (wsp (p_mv g0) ?_))))))
 obtain ⟨x17, e17, z2⟩ := qaj z1
 refine wsp (p_bin rfl rfl ((b_shr rfl).trans (ci e17))) (wsp (v := (.i .u64 x17)) (p_mv rfl) (qac (qab (w_seq (w_ops (wsp (p_mv g1) ?_))))))
 obtain ⟨x19, e19, z3⟩ := qaj z2
 refine wsp (p_bin rfl rfl (b_and.trans (ci e19))) (wsp (v := (.i .u64 x19)) (p_mv rfl) (qac (qab (w_seq (w_ops (wsp (p_mv g1) ?_))))))
 obtain ⟨x21, e21, z4⟩ := qaj z3
 refine wsp (p_bin rfl rfl ((b_shr rfl).trans (ci e21))) (wsp (v := (.i .u64 x21)) (p_mv rfl) (qac (qab (w_seq (w_ops (wsp (v := (.i .u64 x15)) (p_mv rfl) (wsp (v := (.i .u64 x19)) (p_mv rfl) ?_)))))))
 obtain ⟨x24, e24, z5⟩ := qaj z4
 refine wsp (p_bin rfl rfl (b_mul.trans (ci e24))) (wsp (v := (.i .u64 x24)) (p_mv rfl) (qac (qab (w_seq (w_ops (wsp (v := (.i .u64 x17)) (p_mv rfl) (wsp (v := (.i .u64 x19)) (p_mv rfl) ?_)))))))
 obtain ⟨x27, e27, z6⟩ := qaj z5
 refine wsp (p_bin rfl rfl (b_mul.trans (ci e27))) (wsp (v := (.i .u64 x24)) (p_mv rfl) ?_)
 obtain ⟨x29, e29, z7⟩ := qaj z6
 refine wsp (p_bin rfl rfl ((b_shr rfl).trans (ci e29))) ?_
 obtain ⟨x30, e30, z8⟩ := qaj z7
 refine wsp (p_bin rfl rfl (b_add.trans (ci e30))) (wsp (v := (.i .u64 x30)) (p_mv rfl) (qac (qab (w_seq (w_ops (wsp (v := (.i .u64 x30)) (p_mv rfl) ?_))))))
 obtain ⟨x32, e32, z9⟩ := qaj z8
 refine wsp (p_bin rfl rfl (b_and.trans (ci e32))) (wsp (v := (.i .u64 x32)) (p_mv rfl) (qac (qab (w_seq (w_ops (wsp (v := (.i .u64 x30)) (p_mv rfl) ?_))))))
 obtain ⟨x34, e34, z10⟩ := qaj z9
 refine wsp (p_bin rfl rfl ((b_shr rfl).trans (ci e34))) (wsp (v := (.i .u64 x34)) (p_mv rfl) (qac (qab (w_seq (w_ops (wsp (v := (.i .u64 x32)) (p_mv rfl) (wsp (v := (.i .u64 x15)) (p_mv rfl) (wsp (v := (.i .u64 x21)) (p_mv rfl) ?_))))))))
 obtain ⟨x38, e38, z11⟩ := qaj z10
 refine wsp (p_bin rfl rfl (b_mul.trans (ci e38))) ?_
 obtain ⟨x39, e39, z12⟩ := qaj z11
 refine wsp (p_bin rfl rfl (b_add.trans (ci e39))) (wsp (v := (.i .u64 x39)) (p_mv rfl) (qac (qab (w_seq (w_ops (wsp (v := (.i .u64 x17)) (p_mv rfl) (wsp (v := (.i .u64 x21)) (p_mv rfl) ?_)))))))
 obtain ⟨x42, e42, z13⟩ := qaj z12
 refine wsp (p_bin rfl rfl (b_mul.trans (ci e42))) (wsp (v := (.i .u64 x34)) (p_mv rfl) ?_)
 obtain ⟨x44, e44, z14⟩ := qaj z13
 refine wsp (p_bin rfl rfl (b_add.trans (ci e44))) (wsp (v := (.i .u64 x39)) (p_mv rfl) ?_)
 obtain ⟨x46, e46, z15⟩ := qaj z14
 refine wsp (p_bin rfl rfl ((b_shr rfl).trans (ci e46))) ?_
 obtain ⟨x47, e47, z16⟩ := qaj z15
 refine wsp (p_bin rfl rfl (b_add.trans (ci e47))) (wsp (v := (.i .u64 x47)) (p_mv rfl) (qac (qab (w_seq (w_ops (wsp (p_mv g0) (wsp (p_mv g1) ?_)))))))
 obtain ⟨x50, e50, z17⟩ := qaj z16
 refine wsp (p_bin rfl rfl (b_mul.trans (ci e50))) (wsp (v := (.i .u64 x50)) (p_mv rfl) (qac (qab ?_)))
 refine w_ret ?_
 exact qf qba (rt rfl (rt rfl rn)) z17
/- (dibber/vine.path).plus -/
abbrev g130_J0 (m0 : Mm) (o : Bool) (m1 : Mm) (t1 : Tr) : Prop :=
 match o with
 | c8 => m0 = m1 ∧ t1.get 8 = (.b c8)
def g130 (M : Means) (ro : List ABlk) (c0 : Bool) (c1 : Bool) (m0 : Mm) : Option (AVal × Heap × Nat × Nat) :=
 bindO (cond c0 (
  some true) (
  some c1)) fun c8 =>
 finM m0.h.length (tupA [(.b c8)]) m0
theorem g130_ok {ro : List ABlk} {O : qao} {M : Means} (hM : M.Ok ⟨F, O⟩ ro) {c0 c1 h r} (ho : O 130 [(.b c0), (.b c1)] h = none) (hr : g130 M ro c0 c1 ⟨h, h.length, h.length⟩ = some r) : callX ⟨F, O⟩ ro 130 [(.b c0), (.b c1)] h = some r := by
 refine qbc (F := ⟨F, O⟩) (fn := fn130) (g := g130 M ro c0 c1) ho rfl rfl hr ?_
 clear ho
 clear hr
 intro m0 t0 ht hr
 have g0 : t0.get 0 = (.b c0) := ht 0
 have g1 : t0.get 1 = (.b c1) := ht 1
 clear ht
 unfold g130 at hr
 refine w_seq (w_ops (wsp (v := (.b false)) (p_mv rfl) (qac (qab (w_seq (w_ops (wsp (p_mv g0) (wsp (v := (.b c0)) (p_mv rfl) ?_))))))))
 obtain ⟨o, z1, hk⟩ := qaa hr
 refine qbn 2 (g130_J0 m0 o) ?_ ?_
 ·clear hk
  rcases qai z1 with ⟨rfl, z2⟩ | ⟨rfl, z2⟩
  ·refine qae (v := (.b true)) rfl rfl (wsp (v := (.b true)) (qbj rfl rfl) (qac ?_))
   cases z2
   exact ⟨_, _, rfl, rfl, gl rfl⟩
  ·refine qah (v := (.b c1)) rfl (qag (p_mv g1)) (wsp (v := (.b c1)) (qbd rfl rfl) (qac ?_))
   cases z2
   exact ⟨_, _, rfl, rfl, gl rfl⟩
 ·clear z1
  have hr := hk
  clear hk
  obtain ⟨c8, ho⟩ : ∃ z, z = o := ⟨_, rfl⟩
  subst ho
  rintro mm t_1 ⟨rfl, g8⟩
  refine wsp (p_mv g8) (qac (qab ?_))
  refine w_ret ?_
  exact qf qba (rt rfl rn) hr
/- (dibber/vine.path).times -/
abbrev g131_J0 (m0 : Mm) (o : Bool) (m1 : Mm) (t1 : Tr) : Prop :=
 match o with
 | c8 => m0 = m1 ∧ t1.get 8 = (.b c8)
def g131 (M : Means) (ro : List ABlk) (c0 : Bool) (c1 : Bool) (m0 : Mm) : Option (AVal × Heap × Nat × Nat) :=
 bindO (cond c0 (
  some c1) (
  some false)) fun c8 =>
 finM m0.h.length (tupA [(.b c8)]) m0
theorem g131_ok {ro : List ABlk} {O : qao} {M : Means} (hM : M.Ok ⟨F, O⟩ ro) {c0 c1 h r} (ho : O 131 [(.b c0), (.b c1)] h = none) (hr : g131 M ro c0 c1 ⟨h, h.length, h.length⟩ = some r) : callX ⟨F, O⟩ ro 131 [(.b c0), (.b c1)] h = some r := by
 refine qbc (F := ⟨F, O⟩) (fn := fn131) (g := g131 M ro c0 c1) ho rfl rfl hr ?_
 clear ho
 clear hr
 intro m0 t0 ht hr
 have g0 : t0.get 0 = (.b c0) := ht 0
 have g1 : t0.get 1 = (.b c1) := ht 1
 clear ht
 unfold g131 at hr
 refine w_seq (w_ops (wsp (v := (.b false)) (p_mv rfl) (qac (qab (w_seq (w_ops (wsp (p_mv g0) (wsp (v := (.b c0)) (p_mv rfl) ?_))))))))
 obtain ⟨o, z1, hk⟩ := qaa hr
 refine qbn 2 (g131_J0 m0 o) ?_ ?_
 ·clear hk
  rcases qai z1 with ⟨rfl, z2⟩ | ⟨rfl, z2⟩
  ·refine qah (v := (.b c1)) rfl (qag (p_mv g1)) (wsp (v := (.b c1)) (qbj rfl rfl) (qac ?_))
   cases z2
   exact ⟨_, _, rfl, rfl, gl rfl⟩
  ·refine qae (v := (.b false)) rfl rfl (wsp (v := (.b false)) (qbd rfl rfl) (qac ?_))
   cases z2
   exact ⟨_, _, rfl, rfl, gl rfl⟩
 ·clear z1
  have hr := hk
  clear hk
  obtain ⟨c8, ho⟩ : ∃ z, z = o := ⟨_, rfl⟩
  subst ho
  rintro mm t_1 ⟨rfl, g8⟩
  refine wsp (p_mv g8) (qac (qab ?_))
  refine w_ret ?_
  exact qf qba (rt rfl rn) hr
end Go.Proofs.Ytfohppnelbbepaa.T

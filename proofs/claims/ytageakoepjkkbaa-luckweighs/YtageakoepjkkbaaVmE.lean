/- More operations that touch no memory: integers, places, parts, lengths. -/
import Derived.Test.YtageakoepjkkbaaVmD
namespace Go.Vm
open Go.RowKit

theorem mkN_eq (k : IntKind) (n : Nat) : mkN k n = .i k (Int.ofNat n) := by cases n <;> rfl

theorem ofInt_u8 (a : Nat) (h : a < 256) : (BitVec.ofInt IntKind.u8.bits (Int.ofNat a)).toNat = a := by
  have : IntKind.u8.bits = 8 := rfl
  rw [BitVec.toNat_ofInt, this]
  simp only [Int.ofNat_eq_natCast]
  omega

theorem bits8_and (a b : Nat) (ha : a < 256) (hb : b < 256) : (BitVec.ofInt IntKind.u8.bits (Int.ofNat a) &&& BitVec.ofInt IntKind.u8.bits (Int.ofNat b)).toNat = Nat.land a b := by
  rw [BitVec.toNat_and, ofInt_u8 a ha, ofInt_u8 b hb]; rfl
theorem bits8_or (a b : Nat) (ha : a < 256) (hb : b < 256) : (BitVec.ofInt IntKind.u8.bits (Int.ofNat a) ||| BitVec.ofInt IntKind.u8.bits (Int.ofNat b)).toNat = Nat.lor a b := by
  rw [BitVec.toNat_or, ofInt_u8 a ha, ofInt_u8 b hb]; rfl
theorem bits8_xor (a b : Nat) (ha : a < 256) (hb : b < 256) : (BitVec.ofInt IntKind.u8.bits (Int.ofNat a) ^^^ BitVec.ofInt IntKind.u8.bits (Int.ofNat b)).toNat = Nat.xor a b := by
  rw [BitVec.toNat_xor, ofInt_u8 a ha, ofInt_u8 b hb]; rfl
theorem andNot_bv (x y : BitVec 8) : x &&& ~~~y = x ^^^ (x &&& y) := by
  apply BitVec.eq_of_getLsbD_eq
  intro i hi
  simp only [BitVec.getLsbD_and, BitVec.getLsbD_not, BitVec.getLsbD_xor, hi, decide_true, Bool.true_and]
  cases x.getLsbD i <;> cases y.getLsbD i <;> rfl
theorem bits8_andNot (a b : Nat) (ha : a < 256) (hb : b < 256) : (BitVec.ofInt IntKind.u8.bits (Int.ofNat a) &&& ~~~(BitVec.ofInt IntKind.u8.bits (Int.ofNat b))).toNat = Nat.xor a (Nat.land a b) := by
  have e := andNot_bv (BitVec.ofInt 8 (Int.ofNat a)) (BitVec.ofInt 8 (Int.ofNat b))
  show (BitVec.ofInt 8 (Int.ofNat a) &&& ~~~(BitVec.ofInt 8 (Int.ofNat b))).toNat = _
  rw [e, BitVec.toNat_xor, BitVec.toNat_and]
  have h1 := ofInt_u8 a ha; have h2 := ofInt_u8 b hb
  have : IntKind.u8.bits = 8 := rfl
  rw [this] at h1 h2
  rw [h1, h2]; rfl

theorem land_lt (a b : Nat) (ha : a < 256) : Nat.land a b < 256 := Nat.lt_of_le_of_lt Nat.and_le_left ha
theorem lor_lt (a b : Nat) (ha : a < 256) (hb : b < 256) : Nat.lor a b < 256 := Nat.or_lt_two_pow (n := 8) ha hb
theorem xor_lt (a b : Nat) (ha : a < 256) (hb : b < 256) : Nat.xor a b < 256 := Nat.xor_lt_two_pow (n := 8) ha hb

theorem wrap_u8_nat (n : Nat) (h : n < 256) : IntKind.u8.wrap (n : Int) = (n : Int) := wrap_u8_in _ (by omega) (by omega)

/-- the bit operations as the model has them -/
def isBits (op : BinOp) : Bool := match op with | .and | .or | .xor | .andNot => true | _ => false

theorem bitsS_sound {P : Program} {op : BinOp} {k : IntKind} {x y : Int} {v : AVal} (h : bitsS op k x y = some v) :
    ∃ n, v = .i k n ∧ ∀ w, (Op.intBits op k x y).run P w = .ok (.int k n) w := by
  cases op <;> simp only [bitsS, Option.some.injEq, reduceCtorEq] at h <;> subst h <;> rw [mkI_eq] <;> exact ⟨_, rfl, fun w => rfl⟩

theorem bits_sound {P : Program} {op : BinOp} {k : IntKind} {x y : Int} {v : AVal} (h : bits op k x y = some v) :
    ∃ n, v = .i k n ∧ ∀ w, (Op.intBits op k x y).run P w = .ok (.int k n) w := by
  unfold bits at h
  split at h
  · split at h
    · rename_i a
      split at h
      · rename_i b
        cases hc : (Nat.blt a 256 && Nat.blt b 256)
        · rw [hc] at h; exact bitsS_sound h
        · rw [hc] at h
          simp only [Bool.and_eq_true, Nat.blt_eq] at hc
          obtain ⟨ha, hb⟩ := hc
          cases op <;> simp only [bits8, cond_true, Option.some.injEq, reduceCtorEq] at h <;> subst h <;> rw [mkN_eq] <;> refine ⟨_, rfl, fun w => ?_⟩
          · have := land_lt a b ha
            simp only [Op.intBits, bits8_and a b ha hb, wrap_u8_nat _ this]; rfl
          · have := lor_lt a b ha hb
            simp only [Op.intBits, bits8_or a b ha hb, wrap_u8_nat _ this]; rfl
          · have := xor_lt a b ha hb
            simp only [Op.intBits, bits8_xor a b ha hb, wrap_u8_nat _ this]; rfl
          · have := xor_lt a (Nat.land a b) ha (land_lt a b ha)
            simp only [Op.intBits, bits8_andNot a b ha hb, wrap_u8_nat _ this]; rfl
      · exact bitsS_sound h
    · exact bitsS_sound h
  · exact bitsS_sound h

theorem fdiv_pow (x : Int) (n : Nat) : x.fdiv (Int.ofNat (2 ^ n)) = x.fdiv (2 ^ n) := by
  congr 1

theorem binK_sound {P : Program} {op : BinOp} {k : IntKind} {x y : Int} {v : AVal} {ty : TypeId} (hs : op ≠ .shl) (hs' : op ≠ .shr) (h : binK op k x y = some v) :
    ∃ v', (∀ w, (binOp op ty (.int k x) (.int k y)).run P w = .ok v' w) ∧ ∀ rl m, VR rl m v v' := by
  cases op <;> simp only [binK, Option.some.injEq] at h
  case add => subst h; rw [mkI_eq, wr_eq]; exact ⟨_, fun w => by simp [binOp, Op.intArith], fun _ _ => .i _ _⟩
  case sub => subst h; rw [mkI_eq, wr_eq]; exact ⟨_, fun w => by simp [binOp, Op.intArith], fun _ _ => .i _ _⟩
  case mul => subst h; rw [mkI_eq, wr_eq]; exact ⟨_, fun w => by simp [binOp, Op.intArith], fun _ _ => .i _ _⟩
  case quo =>
    unfold quoI at h
    cases hc : eqI y (.ofNat 0)
    · rw [hc] at h; simp only [cond_false, Option.some.injEq] at h; subst h; rw [mkI_eq, wr_eq]
      rw [eqI_eq] at hc
      have hy : y ≠ 0 := by simpa using hc
      exact ⟨_, fun w => by simp [binOp, Op.intDiv, hy], fun _ _ => .i _ _⟩
    · rw [hc] at h; cases h
  case rem =>
    unfold remI at h
    cases hc : eqI y (.ofNat 0)
    · rw [hc] at h; simp only [cond_false, Option.some.injEq] at h; subst h; rw [mkI_eq]
      rw [eqI_eq] at hc
      have hy : y ≠ 0 := by simpa using hc
      exact ⟨_, fun w => by simp [binOp, Op.intDiv, hy], fun _ _ => .i _ _⟩
    · rw [hc] at h; cases h
  case eql => subst h; rw [eqI_eq]; exact ⟨_, fun w => by simp [binOp, Op.intCmp], fun _ _ => .b _⟩
  case neq => subst h; rw [eqI_eq]; exact ⟨.bool (!(x == y)), fun w => by simp [binOp, Op.intCmp, bne], fun _ _ => .b _⟩
  case lss => subst h; rw [ltI_eq]; exact ⟨_, fun w => by simp [binOp, Op.intCmp], fun _ _ => .b _⟩
  case leq =>
    subst h; rw [ltI_eq]
    have e : (!decide (y < x)) = decide (x ≤ y) := by rw [Bool.eq_iff_iff]; simp
    rw [e]; exact ⟨_, fun w => by simp [binOp, Op.intCmp], fun _ _ => .b _⟩
  case gtr => subst h; rw [ltI_eq]; exact ⟨_, fun w => by simp [binOp, Op.intCmp], fun _ _ => .b _⟩
  case geq =>
    subst h; rw [ltI_eq]
    have e : (!decide (x < y)) = decide (y ≤ x) := by rw [Bool.eq_iff_iff]; simp
    rw [e]; exact ⟨_, fun w => by simp [binOp, Op.intCmp], fun _ _ => .b _⟩
  case and => obtain ⟨n, rfl, hr⟩ := bits_sound (P := P) h; exact ⟨_, fun w => by simp [binOp, hr], fun _ _ => .i _ _⟩
  case or => obtain ⟨n, rfl, hr⟩ := bits_sound (P := P) h; exact ⟨_, fun w => by simp [binOp, hr], fun _ _ => .i _ _⟩
  case xor => obtain ⟨n, rfl, hr⟩ := bits_sound (P := P) h; exact ⟨_, fun w => by simp [binOp, hr], fun _ _ => .i _ _⟩
  case andNot => obtain ⟨n, rfl, hr⟩ := bits_sound (P := P) h; exact ⟨_, fun w => by simp [binOp, hr], fun _ _ => .i _ _⟩
  case shl => exact absurd rfl hs
  case shr => exact absurd rfl hs'

theorem binI_sound {P : Program} {op : BinOp} {k k' : IntKind} {x y : Int} {v : AVal} {ty : TypeId} (h : binI op k x k' y = some v) :
    ∃ v', (∀ w, (binOp op ty (.int k x) (.int k' y)).run P w = .ok v' w) ∧ ∀ rl m, VR rl m v v' := by
  by_cases h1 : op = .shl
  · subst h1
    simp only [binI, shlI] at h
    split at h
    · cases h
      rename_i n
      rw [mkI_eq, wr_eq]
      refine ⟨_, fun w => ?_, fun _ _ => .i _ _⟩
      have hn : ¬ ((n : Int) < 0) := by omega
      simp [binOp, Op.shift, hn]
    · cases h
  · by_cases h2 : op = .shr
    · subst h2
      simp only [binI, shrI] at h
      split at h
      · cases h
        rename_i n
        rw [mkI_eq, fdiv_pow]
        refine ⟨_, fun w => ?_, fun _ _ => .i _ _⟩
        have hn : ¬ ((n : Int) < 0) := by omega
        simp [binOp, Op.shift, hn]
      · cases h
    · have h' : (cond (kEq k k') (binK op k x y) none) = some v := by
        cases op <;> first | exact h | exact absurd rfl h1 | exact absurd rfl h2
      cases hk : kEq k k'
      · rw [hk] at h'; cases h'
      · rw [hk] at h'
        have := (kEq_iff k k').1 hk
        subst this
        exact binK_sound h1 h2 h'

section
variable {P : Program} {a : Act} {o : Oper} {rl : Rl} {m : M} {t : Tr} {v : AVal}

theorem eqGuard_int (op : BinOp) (ty : TypeId) (x y : Operand) (k k' : IntKind) (p q : Int) (w : World) : (eqGuard op ty x y (.int k p) (.int k' q)).run P w = .ok () w := by
  unfold eqGuard; split <;> rfl

theorem pur_bin {x y : Operand} {x' y' : AOpd} {ty ty' : TypeId} {op : BinOp} (ho : o.op = .binOp op ty x y ty') (hx : copd x = some x') (hy : copd y = some y')
    (ht : TRk rl m t a (opdT x' ++ opdT y')) (hv : ev_bin t op x' y' = some v) : Pur P a o rl m v := by
  have rx := copd_sound hx (rl := rl) (m := m) (t := t) (a := a) (ht.mem fun n hn => by simp [hn])
  have ry := copd_sound hy (rl := rl) (m := m) (t := t) (a := a) (ht.mem fun n hn => by simp [hn])
  unfold ev_bin at hv
  split at hv
  · rename_i k p e1
    split at hv
    · rename_i k' q e2
      rw [e1] at rx; rw [e2] at ry
      obtain ⟨v', hr, hvr⟩ := binI_sound (P := P) (ty := ty) hv
      refine ⟨v', fun w => ?_, hvr rl m⟩
      simp only [execOp, ho, rx.inv_i, ry.inv_i, Sem.run_bind, eqGuard_int, Result.andThen_ok, hr, Sem.run_pure]
    · cases hv
  · cases hv

theorem pur_mx {x y : Operand} {x' y' : AOpd} {mxm : Bool} {ts : Array TypeId} (ho : o.op = .call { callee := .builtin (if mxm then .max else .min), args := #[x, y], argTypes := ts }) (hx : copd x = some x') (hy : copd y = some y')
    (ht : TRk rl m t a (opdT x' ++ opdT y')) (hv : ev_mx t mxm x' y' = some v) : Pur P a o rl m v := by
  have rx := copd_sound hx (rl := rl) (m := m) (t := t) (a := a) (ht.mem fun n hn => by simp [hn])
  have ry := copd_sound hy (rl := rl) (m := m) (t := t) (a := a) (ht.mem fun n hn => by simp [hn])
  unfold ev_mx at hv
  split at hv <;> cases hv
  rename_i k p k' q e1 e2
  rw [e1] at rx; rw [e2] at ry
  rw [mkI_eq]
  refine ⟨_, fun w => ?_, .i _ _⟩
  cases mxm <;> simp [execOp, ho, resolve, invoke, builtin, rx.inv_i, ry.inv_i, Builtin.max_, Builtin.max2, Builtin.min_, Builtin.min2]

theorem addr_off {q : Loc} {p : Addr} (h : addr rl m q = some p) (n : Nat) : addr rl m ⟨q.ro, q.b, q.off + n⟩ = some (p.add n) := by
  unfold addr at *
  have hadd : ∀ (b o : Nat), (⟨b, o, none⟩ : Addr).add n = ⟨b, o + n, none⟩ := fun b o => by
    unfold Addr.add; split <;> simp_all
  cases hr : q.ro
  · simp only [hr, Bool.false_eq_true, if_false] at h ⊢
    cases hm : m[q.b]? with
    | none => simp [hm] at h
    | some x => cases x with
      | none => simp [hm] at h
      | some x => simp [hm] at h ⊢; subst h; rw [hadd]
  · simp only [hr, if_true] at h ⊢
    cases hm : rl[q.b]? with
    | none => simp [hm] at h
    | some x => simp [hm] at h ⊢; subst h; rw [addr_addadd]

theorem pur_faddr {x : Operand} {x' : AOpd} {ty : TypeId} {fi : Nat} {fs : Array Field} {fd : Field} {s : Nat} (ho : o.op = .fieldAddr ty x fi) (hu : P.underlying ty = some (.struct fs))
    (hf : fs[fi]? = some fd) (hs : csize P fd.type = some s) (hs0 : s ≠ 0) (hx : copd x = some x')
    (ht : TRk rl m t a (opdT x')) (hv : ev_faddr t fd.offset x' = some v) : Pur P a o rl m v := by
  have rx := copd_sound hx ht
  unfold ev_faddr at hv
  split at hv <;> cases hv
  rename_i r b off e
  rw [e] at rx
  obtain ⟨p, e', h'⟩ := rx.inv_p
  refine ⟨.pointer (some (p.add fd.offset)), fun w => ?_, .p _ _ (addr_off h' _)⟩
  simp [execOp, ho, e', Instr.fieldAt, run_und hu, hf, Instr.sureAddr, fieldPlace, csize_sound hs, hs0]

theorem atI_inv {n : Int} {len es : Nat} {r : Bool} {b off : Nat} (h : atI n len r b off es = some v) :
    0 ≤ n ∧ n < len ∧ v = .p (some ⟨r, b, off + n.toNat * es⟩) := by
  unfold atI at h
  split at h
  · rename_i k
    cases hc : Nat.blt k len
    · rw [hc] at h; cases h
    · rw [hc] at h; simp only [cond_true, Option.some.injEq] at h
      rw [Nat.blt_eq] at hc
      exact ⟨by simp, by simp only [Int.ofNat_eq_natCast]; omega, by rw [← h]; rfl⟩
  · cases h

theorem pur_ixA {x i : Operand} {x' i' : AOpd} {ty e : TypeId} {len es : Nat} (ho : o.op = .indexAddr ty x i) (hu : P.underlying ty = some (.array len e)) (hs : csize P e = some es)
    (hx : copd x = some x') (hi : copd i = some i') (ht : TRk rl m t a (opdT x' ++ opdT i')) (hv : ev_ixA t len es x' i' = some v) : Pur P a o rl m v := by
  have rx := copd_sound hx (rl := rl) (m := m) (t := t) (a := a) (ht.mem fun n hn => by simp [hn])
  have ri := copd_sound hi (rl := rl) (m := m) (t := t) (a := a) (ht.mem fun n hn => by simp [hn])
  unfold ev_ixA at hv
  split at hv
  · rename_i r b off e1
    split at hv
    · rename_i k n e2
      rw [e1] at rx; rw [e2] at ri
      obtain ⟨h0, h1, rfl⟩ := atI_inv hv
      obtain ⟨p, e', h'⟩ := rx.inv_p
      refine ⟨.pointer (some (p.add (n.toNat * es))), fun w => ?_, .p _ _ (addr_off h' _)⟩
      simp [execOp, ho, e', ri.inv_i, Instr.indexAt, asIntOf, run_und hu, Instr.sureAddr, h0, h1, csize_sound hs]
    · cases hv
  · cases hv

theorem pur_ixS {x i : Operand} {x' i' : AOpd} {ty e : TypeId} {es : Nat} (ho : o.op = .indexAddr ty x i) (hu : P.underlying ty = some (.slice e)) (hs : csize P e = some es)
    (hx : copd x = some x') (hi : copd i = some i') (ht : TRk rl m t a (opdT x' ++ opdT i')) (hv : ev_ixS t es x' i' = some v) : Pur P a o rl m v := by
  have rx := copd_sound hx (rl := rl) (m := m) (t := t) (a := a) (ht.mem fun n hn => by simp [hn])
  have ri := copd_sound hi (rl := rl) (m := m) (t := t) (a := a) (ht.mem fun n hn => by simp [hn])
  unfold ev_ixS at hv
  split at hv
  · rename_i r b off len c e1
    split at hv
    · rename_i k n e2
      rw [e1] at rx; rw [e2] at ri
      obtain ⟨h0, h1, rfl⟩ := atI_inv hv
      obtain ⟨p, c', e', h', -⟩ := rx.inv_sl
      refine ⟨.pointer (some (p.add (n.toNat * es))), fun w => ?_, .p _ _ (addr_off h' _)⟩
      simp [execOp, ho, e', ri.inv_i, Instr.indexAt, asIntOf, run_und hu, h0, h1, csize_sound hs]
    · cases hv
  · cases hv

/-- a part of an aggregate -/
theorem partA_sound {e : TypeId} {ag : Bool} {n off : Nat} {cs : List AVal} {cs' : Array Value} (hag : cagg P e = some ag) (hn : csize P e = some n) (hl : cs.length = cs'.size)
    (h : ∀ i v, cs[i]? = some v → VR rl m v (cs'.getD i undef)) (hv : partA (!ag) cs off n = some v) :
    ∃ v', (∀ w, (part e cs' off).run P w = .ok v' w) ∧ VR rl m v v' := by
  cases ag
  · simp only [partA, Bool.not_false, if_true, lget_eq] at hv
    have hi : off < cs'.size := by rw [← hl]; exact (List.getElem?_eq_some_iff.1 hv).1
    exact ⟨cs'.getD off undef, fun w => by simp [part, cagg_sound hag, hi], h _ _ hv⟩
  · simp only [partA, Bool.not_true, Bool.false_eq_true, if_false] at hv
    cases hc : Nat.ble (off + n) cs.length
    · rw [hc] at hv; cases hv
    rw [hc] at hv
    cases hv
    have ho := Nat.le_of_ble_eq_true hc
    refine ⟨.agg (cs'.extract off (off + n)), fun w => by simp [part, cagg_sound hag, csize_sound hn], .agg _ _ (by simp; omega) fun i v hv => ?_⟩
    rw [List.getElem?_take] at hv
    split at hv
    · rename_i hi
      rw [List.getElem?_drop] at hv
      have := h _ _ hv
      have e : (cs'.extract off (off + n)).getD i undef = cs'.getD (off + i) undef := by
        rw [Array.getD_eq_getD_getElem?, Array.getD_eq_getD_getElem?, Array.getElem?_extract, if_pos (by omega)]
      rw [e]; exact this
    · cases hv

theorem pur_field {x : Operand} {x' : AOpd} {ty : TypeId} {fi : Nat} {fs : Array Field} {fd : Field} {n : Nat} {ag : Bool} (ho : o.op = .field ty x fi) (hu : P.underlying ty = some (.struct fs))
    (hf : fs[fi]? = some fd) (hag : cagg P fd.type = some ag) (hs : csize P fd.type = some n) (hx : copd x = some x')
    (ht : TRk rl m t a (opdT x')) (hv : ev_field t (!ag) fd.offset n x' = some v) : Pur P a o rl m v := by
  have rx := copd_sound hx ht
  unfold ev_field at hv
  split at hv
  · rename_i cs e
    rw [e] at rx
    obtain ⟨cs', e', hl, h⟩ := rx.inv_agg
    obtain ⟨v', hr, hvr⟩ := partA_sound hag hs hl h hv
    exact ⟨v', fun w => by simp [execOp, ho, e', Instr.field, run_und hu, hf, asAgg, hr], hvr⟩
  · cases hv

theorem pur_ixV {x i : Operand} {x' i' : AOpd} {ty e : TypeId} {len es : Nat} {ag : Bool} (ho : o.op = .index ty x i) (hu : P.underlying ty = some (.array len e)) (hag : cagg P e = some ag) (hs : csize P e = some es)
    (hx : copd x = some x') (hi : copd i = some i') (ht : TRk rl m t a (opdT x' ++ opdT i')) (hv : ev_ixV t len es (!ag) x' i' = some v) : Pur P a o rl m v := by
  have rx := copd_sound hx (rl := rl) (m := m) (t := t) (a := a) (ht.mem fun n hn => by simp [hn])
  have ri := copd_sound hi (rl := rl) (m := m) (t := t) (a := a) (ht.mem fun n hn => by simp [hn])
  unfold ev_ixV at hv
  split at hv
  · rename_i cs e1
    split at hv
    · rename_i k n e2
      split at hv
      · rename_i j
        cases hc : Nat.blt j len
        · rw [hc] at hv; cases hv
        · rw [hc] at hv; simp only [cond_true] at hv
          rw [Nat.blt_eq] at hc
          rw [e1] at rx; rw [e2] at ri
          obtain ⟨cs', e', hl, h⟩ := rx.inv_agg
          obtain ⟨v', hr, hvr⟩ := partA_sound hag hs hl h hv
          refine ⟨v', fun w => ?_, hvr⟩
          simp [execOp, ho, e', ri.inv_i, Instr.index, asIntOf, run_und hu, hc, csize_sound hs, hr]
      · cases hv
    · cases hv
  · cases hv

theorem bytes_get (l : List UInt8) (j : Nat) (c : UInt8) (h : l[j]? = some c) : (ByteArray.mk l.toArray)[j]? = some c := by
  have hlt : j < l.length := (List.getElem?_eq_some_iff.1 h).1
  have hs : j < (ByteArray.mk l.toArray).size := by simpa [ByteArray.size] using hlt
  have he := (List.getElem?_eq_some_iff.1 h).2
  rw [getElem?_pos (ByteArray.mk l.toArray) j hs, ← he]
  rfl

theorem pur_ixStr {x i : Operand} {x' i' : AOpd} {ty : TypeId} (ho : o.op = .index ty x i) (hu : P.underlying ty = some .string)
    (hx : copd x = some x') (hi : copd i = some i') (ht : TRk rl m t a (opdT x' ++ opdT i')) (hv : ev_ixStr t x' i' = some v) : Pur P a o rl m v := by
  have rx := copd_sound hx (rl := rl) (m := m) (t := t) (a := a) (ht.mem fun n hn => by simp [hn])
  have ri := copd_sound hi (rl := rl) (m := m) (t := t) (a := a) (ht.mem fun n hn => by simp [hn])
  unfold ev_ixStr at hv
  split at hv
  · rename_i l e1
    split at hv
    · rename_i k n e2
      split at hv
      · rename_i j
        rw [lget_eq, Option.map_eq_some_iff] at hv
        obtain ⟨c, hc, rfl⟩ := hv
        rw [e1] at rx; rw [e2] at ri
        rw [mkI_eq]
        refine ⟨_, fun w => ?_, .i _ _⟩
        have hb := bytes_get l j c hc
        simp [execOp, ho, rx.inv_s, ri.inv_i, Instr.index, asIntOf, run_und hu, hb]
      · cases hv
    · cases hv
  · cases hv

theorem getD_toArray_map (l : List Operand) (f : Operand → Value) (i : Nat) : (l.toArray.map f).getD i undef = (l.map f).getD i undef := by
  simp [Array.getD_eq_getD_getElem?]

theorem copds_size {l : List Operand} {ys : List AOpd} : copds l = some ys → ys.length = l.length := by
  induction l generalizing ys with
  | nil => intro h; cases h; rfl
  | cons x l ih =>
    intro h
    unfold copds at h
    split at h
    · cases h; rename_i h2; simp [ih h2]
    · cases h

theorem copds_arr {xs : Array Operand} {ys : List AOpd} (h : copds xs.toList = some ys) (ht : TRk rl m t a (ys.flatMap opdT)) :
    (ys.map (opd t)).length = (xs.map a.eval).size ∧ ∀ i v, (ys.map (opd t))[i]? = some v → VR rl m v ((xs.map a.eval).getD i undef) := by
  obtain ⟨h1, h2⟩ := copds_sound h ht
  refine ⟨by simp [h1], fun i v hv => ?_⟩
  have := h2 i v hv
  have e : (xs.map a.eval).getD i undef = (xs.toList.map a.eval).getD i undef := by
    simp [Array.getD_eq_getD_getElem?, List.getD]
  rw [e]; exact this

theorem pur_mkfn {f : Nat} {fs cs : Array Operand} {fs' cs' : List AOpd} (ho : o.op = .makeFunc (.func f) fs cs) (hf : copds fs.toList = some fs') (hc : copds cs.toList = some cs')
    (ht : TRk rl m t a (fs'.flatMap opdT ++ cs'.flatMap opdT)) (hv : ev_mkfn t f fs' cs' = some v) : Pur P a o rl m v := by
  unfold ev_mkfn at hv
  cases hv
  obtain ⟨h1, h2⟩ := copds_arr hf (rl := rl) (m := m) (t := t) (a := a) (ht.mem fun n hn => by simp at hn ⊢; exact .inl hn)
  obtain ⟨h3, h4⟩ := copds_arr hc (rl := rl) (m := m) (t := t) (a := a) (ht.mem fun n hn => by simp at hn ⊢; exact .inr hn)
  exact ⟨_, fun w => by simp only [execOp, ho, Instr.makeFunc]; rfl, .fn _ _ _ _ _ h1 h3 h2 h4⟩

theorem pur_len {x : Operand} {y : AOpd} {ty : TypeId} {d : TypeDesc} {str : Bool} (ho : o.op = .call { callee := .builtin .len, args := #[x], argTypes := #[ty] }) (hu : P.underlying ty = some d)
    (hd : if str then d = .string else ∃ e, d = .slice e) (hc : copd x = some y) (ht : TRk rl m t a (opdT y)) (hv : ev_len t str y = some v) : Pur P a o rl m v := by
  have rx := copd_sound hc ht
  unfold ev_len at hv
  cases str
  · obtain ⟨el, rfl⟩ : ∃ e, d = .slice e := by simpa using hd
    split at hv <;> cases hv
    · rename_i q n c e; rw [e] at rx
      obtain ⟨a', c', e', -, -⟩ := rx.inv_sl
      rw [mkI_eq]
      exact ⟨.int .i64 n, fun w => by simp [execOp, ho, resolve, invoke, builtin, e', Builtin.len_, run_und hu, goInt], .i _ _⟩
    · rename_i e; rw [e] at rx
      exact ⟨.int .i64 0, fun w => by simp [execOp, ho, resolve, invoke, builtin, rx.inv_nsl, Builtin.len_, run_und hu, goInt], .i _ _⟩
    · rename_i e; rw [e] at rx
      obtain ⟨a', c', e'⟩ := rx.inv_esl
      exact ⟨.int .i64 0, fun w => by simp [execOp, ho, resolve, invoke, builtin, e', Builtin.len_, run_und hu, goInt], .i _ _⟩
  · obtain rfl : d = .string := by simpa using hd
    split at hv <;> cases hv
    rename_i l e; rw [e] at rx
    rw [mkI_eq]
    have hz : (ByteArray.mk l.toArray).size = l.length := by rfl
    exact ⟨.int .i64 l.length, fun w => by simp [execOp, ho, resolve, invoke, builtin, rx.inv_s, Builtin.len_, run_und hu, goInt, hz], .i _ _⟩

end
end Go.Vm

/- Operations that touch no memory: what the small machine computes is what the model computes, in every world. -/
import Derived.Test.YtageakoepjkkbaaVmC
import Derived.Laws.Bits
namespace Go.Vm
open Go.RowKit

section
variable {P : Program}

theorem csize_sound {e : TypeId} {s : Nat} (h : csize P e = some s) (w : World) : (sizeOf e).run P w = .ok s w := by
  unfold csize at h
  cases hi : P.info? e with
  | none => simp [hi] at h
  | some i => simp [hi] at h; subst h; simp [sizeOf, typeInfo, hi]

theorem csize_info {e : TypeId} {s : Nat} (h : csize P e = some s) : ∃ i, P.info? e = some i ∧ i.size = s := by
  unfold csize at h
  cases hi : P.info? e with
  | none => simp [hi] at h
  | some i => simp [hi] at h; exact ⟨i, rfl, h⟩

theorem csize_cells {e : TypeId} {s : Nat} (h : csize P e = some s) : P.cellsOf e = s := by
  obtain ⟨i, hi, hs⟩ := csize_info h
  simp [Program.cellsOf, hi, hs]

theorem run_und {t : TypeId} {d : TypeDesc} (h : P.underlying t = some d) (w : World) : (underlying t).run P w = .ok d w := by
  simp [underlying, h]

theorem cagg_sound {t : TypeId} {b : Bool} (h : cagg P t = some b) (w : World) : (isAgg t).run P w = .ok b w := by
  unfold cagg at h
  split at h
  · cases h; rename_i fs hu; simp [isAgg, run_und hu]
  · cases h; rename_i n e hu; simp [isAgg, run_und hu]
  · rename_i d h1 h2 hu
    cases h
    simp only [isAgg, Sem.run_bind, run_und hu, Result.andThen_ok]
    cases d <;> first | rfl | (exact absurd hu (h1 _)) | (exact absurd hu (h2 _ _))
  · cases h

theorem czero_sound {e : TypeId} {zs : List AVal} (h : czero P e = some zs) : ∃ i z, P.info? e = some i ∧ i.zero = some z ∧ cvals z.cells.toList = some zs ∧ zs.length = i.size := by
  unfold czero at h
  split at h
  · rename_i i hi
    split at h
    · rename_i z hz
      split at h
      · rename_i zs' hzs
        split at h
        · cases h; exact ⟨i, z, hi, hz, hzs, ‹_›⟩
        · cases h
      · cases h
    · cases h
  · cases h

theorem run_zero {e : TypeId} {i : TypeInfo} {z : Value} (hi : P.info? e = some i) (hz : i.zero = some z) (w : World) : (zeroValue e).run P w = .ok z w := by
  simp [zeroValue, typeInfo, hi, hz]

end

def Pur (P : Program) (a : Act) (o : Oper) (rl : Rl) (m : M) (v : AVal) : Prop :=
  ∃ v', (∀ w, (execOp a.eval o).run P w = .ok (.value v') w) ∧ VR rl m v v'

section
variable {P : Program} {a : Act} {o : Oper} {rl : Rl} {m : M} {t : Tr} {v : AVal}

theorem pur_mv {x : Operand} {y : AOpd} (ho : o.op = .move x ∨ o.op = .assign x) (hc : copd x = some y) (ht : TRk rl m t a (opdT y)) (hv : opd t y = v) : Pur P a o rl m v := by
  subst hv
  refine ⟨a.eval x, fun w => ?_, copd_sound hc ht⟩
  rcases ho with ho | ho <;> simp [execOp, ho]

theorem pur_pick {c x y : Operand} {c' x' y' : AOpd} (ho : o.op = .pick c x y) (hc : copd c = some c') (hx : copd x = some x') (hy : copd y = some y')
    (ht : TRk rl m t a (opdT c' ++ opdT x' ++ opdT y')) (hv : ev_pick t c' x' y' = some v) : Pur P a o rl m v := by
  have rc := copd_sound hc (rl := rl) (m := m) (t := t) (a := a) (ht.mem fun n hn => by simp [hn])
  have rx := copd_sound hx (rl := rl) (m := m) (t := t) (a := a) (ht.mem fun n hn => by simp [hn])
  have ry := copd_sound hy (rl := rl) (m := m) (t := t) (a := a) (ht.mem fun n hn => by simp [hn])
  unfold ev_pick at hv
  split at hv <;> cases hv
  · rename_i e; rw [e] at rc
    exact ⟨_, fun w => by simp [execOp, ho, rc.inv_b, asBool], rx⟩
  · rename_i e; rw [e] at rc
    exact ⟨_, fun w => by simp [execOp, ho, rc.inv_b, asBool], ry⟩

theorem pur_nilck {x : Operand} {y : AOpd} (ho : o.op = .nilCheck x) (hc : copd x = some y) (ht : TRk rl m t a (opdT y)) (hv : ev_nilck t y = some v) : Pur P a o rl m v := by
  have rx := copd_sound hc ht
  unfold ev_nilck at hv
  split at hv <;> cases hv
  · rename_i q e; rw [e] at rx
    obtain ⟨a', e', h'⟩ := rx.inv_p
    exact ⟨_, fun w => by simp [execOp, ho, e'], .p q a' h'⟩
  · rename_i q l c e; rw [e] at rx
    obtain ⟨a', c', e', -, -⟩ := rx.inv_sl
    exact ⟨a.eval x, fun w => by simp [execOp, ho, e'], rx⟩
  · rename_i e; rw [e] at rx
    exact ⟨a.eval x, fun w => by simp [execOp, ho, rx.inv_nsl], rx⟩
  · rename_i f a0 c0 e; rw [e] at rx
    obtain ⟨a', c', e', -⟩ := rx.inv_fn
    exact ⟨a.eval x, fun w => by simp [execOp, ho, e'], rx⟩

theorem pur_not {x : Operand} {y : AOpd} {ty : TypeId} (ho : o.op = .unOp .not ty x) (hc : copd x = some y) (ht : TRk rl m t a (opdT y)) (hv : ev_not t y = some v) : Pur P a o rl m v := by
  have rx := copd_sound hc ht
  unfold ev_not at hv
  split at hv <;> cases hv
  rename_i z e; rw [e] at rx
  exact ⟨.bool !z, fun w => by simp [execOp, ho, rx.inv_b, Op.unary], .b _⟩

theorem pur_neg {x : Operand} {y : AOpd} {ty : TypeId} (ho : o.op = .unOp .neg ty x) (hc : copd x = some y) (ht : TRk rl m t a (opdT y)) (hv : ev_neg t y = some v) : Pur P a o rl m v := by
  have rx := copd_sound hc ht
  unfold ev_neg at hv
  split at hv <;> cases hv
  rename_i k n e; rw [e] at rx
  rw [mkI_eq, wr_eq]
  exact ⟨_, fun w => by simp only [execOp, ho, rx.inv_i, Op.unary, Op.intArith]; rfl, .i _ _⟩

theorem pur_conv {x : Operand} {y : AOpd} {src dst : TypeId} {k0 k : IntKind} (ho : o.op = .convert src dst x) (hs : P.underlying src = some (.int k0)) (hd : P.underlying dst = some (.int k))
    (hc : copd x = some y) (ht : TRk rl m t a (opdT y)) (hv : ev_conv t k y = some v) : Pur P a o rl m v := by
  have rx := copd_sound hc ht
  unfold ev_conv at hv
  split at hv <;> cases hv
  rename_i k1 n e; rw [e] at rx
  rw [mkI_eq, wr_eq]
  exact ⟨_, fun w => by simp [execOp, ho, rx.inv_i, convert, run_und hs, run_und hd, Conv.intToInt], .i _ _⟩

theorem eqIn_bool (d : Nat) {ty : TypeId} (hu : P.underlying ty = some .bool) (b1 b2 : Bool) (w : World) : (Op.equalIn (d + 1) ty (.bool b1) (.bool b2)).run P w = .ok (b1 == b2) w := by
  simp [Op.equalIn, run_und hu]
theorem eqIn_nn (d : Nat) {ty e : TypeId} (hu : P.underlying ty = some (.slice e)) (w : World) : (Op.equalIn (d + 1) ty (.slice none 0 0) (.slice none 0 0)).run P w = .ok true w := by
  simp [Op.equalIn, run_und hu]
theorem eqIn_sn (d : Nat) {ty e : TypeId} (hu : P.underlying ty = some (.slice e)) (a : Addr) (l c : Nat) (w : World) : (Op.equalIn (d + 1) ty (.slice (some a) l c) (.slice none 0 0)).run P w = .ok false w := by
  simp [Op.equalIn, run_und hu]

theorem pur_beq {x y : Operand} {x' y' : AOpd} {ty ty' : TypeId} {ng : Bool} (ho : o.op = .binOp (if ng then .neq else .eql) ty x y ty') (hu : P.underlying ty = some .bool) (hx : copd x = some x') (hy : copd y = some y')
    (ht : TRk rl m t a (opdT x' ++ opdT y')) (hv : ev_beq t ng x' y' = some v) : Pur P a o rl m v := by
  have rx := copd_sound hx (rl := rl) (m := m) (t := t) (a := a) (ht.mem fun n hn => by simp [hn])
  have ry := copd_sound hy (rl := rl) (m := m) (t := t) (a := a) (ht.mem fun n hn => by simp [hn])
  unfold ev_beq at hv
  split at hv <;> cases hv
  rename_i b1 b2 e1 e2
  rw [e1] at rx; rw [e2] at ry
  have heq : ∀ w, (Op.equal ty (.bool b1) (.bool b2)).run P w = .ok (b1 == b2) w := eqIn_bool 9999 hu b1 b2
  refine ⟨.bool (if ng then !(b1 == b2) else b1 == b2), fun w => ?_, .b _⟩
  cases ng <;> simp [execOp, ho, rx.inv_b, ry.inv_b, eqGuard, binOp, heq]

theorem pur_nilcmp {x : Operand} {x' : AOpd} {ty ty' e : TypeId} {ng : Bool} (ho : o.op = .binOp (if ng then .neq else .eql) ty x (.const (.slice none 0 0)) ty') (hu : P.underlying ty = some (.slice e)) (hx : copd x = some x')
    (ht : TRk rl m t a (opdT x')) (hv : ev_nilcmp t ng x' = some v) : Pur P a o rl m v := by
  have rx := copd_sound hx ht
  unfold ev_nilcmp at hv
  have hn : ∀ w, (Op.equal ty (.slice none 0 0) (.slice none 0 0)).run P w = .ok true w := eqIn_nn 9999 hu
  have hs : ∀ w (a : Addr) (l c : Nat), (Op.equal ty (.slice (some a) l c) (.slice none 0 0)).run P w = .ok false w := fun w a l c => eqIn_sn 9999 hu a l c w
  have ec : a.eval (.const (.slice none 0 0)) = .slice none 0 0 := rfl
  split at hv <;> cases hv
  · rename_i e; rw [e] at rx
    refine ⟨.bool !ng, fun w => ?_, .b _⟩
    cases ng <;> simp [execOp, ho, rx.inv_nsl, ec, eqGuard, binOp, hn]
  · rename_i e; rw [e] at rx
    obtain ⟨a', c', e', -, -⟩ := rx.inv_sl
    refine ⟨.bool ng, fun w => ?_, .b _⟩
    cases ng <;> simp [execOp, ho, e', ec, eqGuard, binOp, hs]

theorem pur_ext {x : Operand} {y : AOpd} {ix : Nat} (ho : o.op = .extract x ix) (hc : copd x = some y) (ht : TRk rl m t a (opdT y)) (hv : ev_ext t ix y = some v) : Pur P a o rl m v := by
  have rx := copd_sound hc ht
  unfold ev_ext at hv
  split at hv
  · rename_i vs e; rw [e] at rx
    rw [lget_eq] at hv
    obtain ⟨cs', e', hl, h⟩ := rx.inv_tup
    have hi : ix < cs'.size := by rw [← hl]; exact (List.getElem?_eq_some_iff.1 hv).1
    exact ⟨cs'.getD ix undef, fun w => by simp [execOp, ho, e', Instr.extract, hi], h _ _ hv⟩
  · cases hv

end
end Go.Vm

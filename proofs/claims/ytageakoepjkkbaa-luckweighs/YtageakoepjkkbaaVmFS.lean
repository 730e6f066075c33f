/- Strings: joined, compared, cut; a number as a string. -/
import Derived.Test.YtageakoepjkkbaaVmF
import Derived.Laws.Strings
import Derived.Laws.BytesString
namespace Go.Vm
open Go.RowKit

theorem nbeq {a b : Nat} : Nat.beq a b = true ↔ a = b := ⟨Nat.eq_of_beq_eq_true, fun h => by rw [h]; exact Nat.beq_refl b⟩
theorem u8_ext {a b : UInt8} : a = b ↔ a.toNat = b.toNat := UInt8.toNat_inj.symm
theorem eqL_eq : ∀ a b : List UInt8, eqL a b = (a == b)
  | [], [] => rfl
  | [], _ :: _ => rfl
  | _ :: _, [] => rfl
  | a :: x, b :: y => by
    have h : (a :: x == b :: y) = ((a == b) && (x == y)) := rfl
    rw [h, eqL, eqL_eq x y]
    by_cases e : a = b
    · subst e; simp
    · have h1 : Nat.beq a.toNat b.toNat = false := by
        cases hh : Nat.beq a.toNat b.toNat
        · rfl
        · exact absurd (u8_ext.2 (nbeq.1 hh)) e
      have h2 : (a == b) = false := by simp [e]
      rw [h1, h2]; rfl
theorem ltL_eq : ∀ a b : List UInt8, ltL a b = Op.bytesLess a b
  | _, [] => by cases ‹List UInt8› <;> rfl
  | [], _ :: _ => rfl
  | a :: x, b :: y => by
    rw [ltL, Op.bytesLess, ltL_eq x y]
    have hl : Nat.blt a.toNat b.toNat = decide (a < b) := by
      cases hh : Nat.blt a.toNat b.toNat
      · symm
        rw [decide_eq_false_iff_not]
        intro h
        have : a.toNat < b.toNat := UInt8.lt_iff_toNat_lt.1 h
        rw [← Nat.blt_eq, hh] at this; cases this
      · rw [Nat.blt_eq] at hh
        exact (decide_eq_true (UInt8.lt_iff_toNat_lt.2 hh)).symm
    have he : Nat.beq a.toNat b.toNat = (a == b) := by
      cases hh : Nat.beq a.toNat b.toNat
      · symm
        rw [beq_eq_false_iff_ne]
        intro h
        rw [h, Nat.beq_refl] at hh; cases hh
      · rw [u8_ext.2 (nbeq.1 hh)]; simp
    rw [hl, he]
    cases decide (a < b) <;> cases (a == b) <;> simp

section
variable {P : Program} {a : Act} {o : Oper} {rl : Rl} {m : M} {t : Tr} {v : AVal}

theorem sOp_sound {op : BinOp} {x y : List UInt8} (h : sOp op x y = some v) (ty : TypeId) : ∃ v', (∀ w, (binOp op ty (.string ⟨x.toArray⟩) (.string ⟨y.toArray⟩)).run P w = .ok v' w) ∧ ∀ rl m, VR rl m v v' := by
  have e1 : (ByteArray.mk x.toArray).toList = x := by rw [ByteArray.toList_eq]
  have e2 : (ByteArray.mk y.toArray).toList = y := by rw [ByteArray.toList_eq]
  cases op <;> simp only [sOp, reduceCtorEq] at h
  case add =>
    cases hc : Nat.ble (x.length + y.length) 1099511627776
    · rw [hc] at h; cases h
    · rw [hc] at h
      rw [Nat.ble_eq] at hc
      cases h
      have hs1 : (ByteArray.mk x.toArray).size = x.length := by simp [ByteArray.size]
      have hs2 : (ByteArray.mk y.toArray).size = y.length := by simp [ByteArray.size]
      have hm : ¬ (((ByteArray.mk x.toArray).size + (ByteArray.mk y.toArray).size : Nat) : Int) > IntKind.i64.max := by
        rw [hs1, hs2]
        have : IntKind.i64.max = 9223372036854775807 := rfl
        rw [this]
        omega
      have hap : (ByteArray.mk x.toArray) ++ (ByteArray.mk y.toArray) = ByteArray.mk (x ++ y).toArray := by
        apply ByteArray.ext
        rw [ByteArray.data_append]
        simp
      refine ⟨.string ⟨(x ++ y).toArray⟩, fun w => ?_, fun rl m => .s _⟩
      simp only [binOp, Op.stringOp]
      rw [if_neg hm, hap]
      rfl
  all_goals
    cases h
    refine ⟨_, fun w => by simp only [binOp, Op.stringOp]; rfl, fun rl m => ?_⟩
    first
      | (rw [e1, e2]; simp only [eqL_eq, ltL_eq]; exact .b _)

theorem eqGuard_str (op : BinOp) (ty : TypeId) (x y : Operand) (p q : ByteArray) (w : World) : (eqGuard op ty x y (.string p) (.string q)).run P w = .ok () w := by
  unfold eqGuard; split <;> rfl
theorem pur_sbin {x y : Operand} {x' y' : AOpd} {ty ty' : TypeId} {op : BinOp} (ho : o.op = .binOp op ty x y ty') (hx : copd x = some x') (hy : copd y = some y')
    (ht : TRk rl m t a (opdT x' ++ opdT y')) (hv : ev_sbin t op x' y' = some v) : Pur P a o rl m v := by
  have rx := copd_sound hx (rl := rl) (m := m) (t := t) (a := a) (ht.mem fun n hn => by simp [hn])
  have ry := copd_sound hy (rl := rl) (m := m) (t := t) (a := a) (ht.mem fun n hn => by simp [hn])
  unfold ev_sbin at hv
  split at hv
  · rename_i p e1
    split at hv
    · rename_i q e2
      rw [e1] at rx; rw [e2] at ry
      obtain ⟨v', hr, hvr⟩ := sOp_sound (P := P) hv ty
      refine ⟨v', fun w => ?_, hvr rl m⟩
      simp only [execOp, ho, rx.inv_s, ry.inv_s, Sem.run_bind, eqGuard_str, Result.andThen_ok, hr, Sem.run_pure]
    · cases hv
  · cases hv

theorem enc1' (r : Nat) (c1 : r < 128) : (Utf8.encode (r : Int)).data.toList = [UInt8.ofNat r] := by
  have v : Utf8.valid (r : Int) = true := by simp [Utf8.valid]; omega
  simp [Utf8.encode, v, c1]
theorem bytes_of {B : ByteArray} {l : List UInt8} (h : B.data.toList = l) : B = ByteArray.mk l.toArray := by
  subst h
  cases B
  simp
theorem enc_small (j : Nat) (hc : j < 128) : Utf8.encode (j : Int) = ByteArray.mk [UInt8.ofNat j].toArray := bytes_of (enc1' j hc)
theorem ev_chr_inv {x : AOpd} (hv : ev_chr t x = some v) : ∃ k j, opd t x = .i k (.ofNat j) ∧ j < 128 ∧ v = .s [UInt8.ofNat j] := by
  unfold ev_chr at hv
  split at hv
  · rename_i k n e1
    split at hv
    · rename_i j
      by_cases hc : j < 128
      · have hb : Nat.blt j 128 = true := by rw [Nat.blt_eq]; exact hc
        rw [hb] at hv
        simp only [cond_true, Option.some.injEq] at hv
        exact ⟨k, j, e1, hc, hv.symm⟩
      · have hb : Nat.blt j 128 = false := by
          rw [← Bool.not_eq_true]
          intro h
          rw [Nat.blt_eq] at h; exact hc h
        rw [hb] at hv
        simp at hv
    · cases hv
  · cases hv
theorem pur_chr {x : Operand} {x' : AOpd} {src dst : TypeId} {k : IntKind} (ho : o.op = .convert src dst x) (hs : P.underlying src = some (.int k)) (hd : P.underlying dst = some .string) (hx : copd x = some x')
    (ht : TRk rl m t a (opdT x')) (hv : ev_chr t x' = some v) : Pur P a o rl m v := by
  have rx := copd_sound hx (rl := rl) (m := m) (t := t) (a := a) ht
  obtain ⟨k', j, e1, hc, rfl⟩ := ev_chr_inv hv
  have henc := enc_small j hc
  rw [e1] at rx
  have e := rx.inv_i
  refine ⟨.string ⟨[UInt8.ofNat j].toArray⟩, fun w => ?_, .s _⟩
  have e : a.eval x = .int k' (j : Int) := e
  rw [← henc]
  simp [execOp, ho, e, convert, run_und hs, run_und hd, Conv.intToString]

theorem pur_mvS {x : Operand} {x' : AOpd} {src dst : TypeId} (ho : o.op = .convert src dst x) (hs : P.underlying src = some .string) (hd : P.underlying dst = some .string) (hx : copd x = some x')
    (ht : TRk rl m t a (opdT x')) (hv : evP t (.mvS x') = some v) : Pur P a o rl m v := by
  have rx := copd_sound hx (rl := rl) (m := m) (t := t) (a := a) ht
  simp only [evP, ev_mvS] at hv
  split at hv
  · rename_i l e1
    cases hv
    rw [e1] at rx
    refine ⟨.string ⟨l.toArray⟩, fun w => ?_, .s _⟩
    have e := rx.inv_s
    simp [execOp, ho, e, convert, run_und hs, run_und hd]
  · cases hv

theorem pur_slStr {x : Operand} {x' : AOpd} {ty : TypeId} {lo hi : Option Operand} {lo' hi' : Option AOpd} (ho : o.op = .slice ty x lo hi none) (hu : P.underlying ty = some .string)
    (hx : copd x = some x') (hlo : copt lo = some lo') (hhi : copt hi = some hi') (ht : TRk rl m t a (opdT x' ++ optT lo' ++ optT hi')) (hv : ev_slStr t x' lo' hi' = some v) : Pur P a o rl m v := by
  have rx := copd_sound hx (rl := rl) (m := m) (t := t) (a := a) (ht.mem fun n hn => by simp [hn])
  have tl : TRk rl m t a (optT lo') := ht.mem fun n hn => by simp [hn]
  have th : TRk rl m t a (optT hi') := ht.mem fun n hn => by simp [hn]
  unfold ev_slStr at hv
  split at hv
  · rename_i s eq
    split at hv
    · rename_i h hh
      split at hv
      · rename_i l hl
        cases hv
        rw [eq] at rx
        obtain ⟨b1, r1⟩ := optb_sound (P := P) hhi th hh
        obtain ⟨b2, r2⟩ := optb_sound (P := P) hlo tl hl
        have hsz : (ByteArray.mk s.toArray).size = s.length := by simp [ByteArray.size]
        have hb : (Instr.sliceBounds false s.length s.length (lo.map a.eval) (hi.map a.eval) none).run P = fun w => .ok (l, h, s.length) w := funext fun w =>
          sliceBounds_eq false s.length s.length _ _ w (fun c => r1 c s.length w (b1.imp id (·.1))) (fun c => r2 c h w (b2.imp id (·.1)))
        have hex : (ByteArray.mk s.toArray).extract l h = ByteArray.mk ((s.take h).drop l).toArray := by
          apply ByteArray.ext
          rw [ByteArray.data_extract]
          rw [← Array.toList_inj]
          have hlh : l + (h - l) = h := by rcases b2 with b | ⟨-, b⟩ <;> omega
          simp [List.take_drop, hlh]
        refine ⟨.string ⟨((s.take h).drop l).toArray⟩, fun w => ?_, .s _⟩
        have e := rx.inv_s
        have hbw := congrFun hb w
        simp [execOp, ho, e, Instr.sliceAt, Instr.slice, run_und hu, hsz, hbw, hex]
      · cases hv
    · cases hv
  · cases hv
end
end Go.Vm

/- Slices of slices and of arrays, aggregates: and all operations that touch no memory in one word. -/
import Derived.Test.YtageakoepjkkbaaVmE
namespace Go.Vm
open Go.RowKit

section
variable {P : Program} {a : Act} {o : Oper} {rl : Rl} {m : M} {t : Tr} {v : AVal}


theorem bound_sound {x : Operand} {x' : AOpd} (hx : copd x = some x') (ht : TRk rl m t a (opdT x')) {d y n : Nat} (h : sbound (some (opd t x')) d y = some n) :
    n ≤ y ∧ ∀ (c : BoundsCode) (y' : Nat) w, n ≤ y' → (Instr.sliceBound (a.eval x) y' c).run P w = .ok n w := by
  have rx := copd_sound hx ht
  unfold sbound at h
  split at h
  · rename_i e; cases e
  · rename_i k z e
    simp only [Option.some.injEq] at e
    split at h
    · rename_i j
      cases hc : Nat.ble j y
      · rw [hc] at h; cases h
      · rw [hc] at h; cases h
        have := Nat.le_of_ble_eq_true hc
        rw [e] at rx
        refine ⟨this, fun c y' w hy => ?_⟩
        simp [Instr.sliceBound, rx.inv_i, asIntOf, hy]
    · cases h
  · cases h

def lookB (v : Option Value) (d y : Nat) (c : BoundsCode) : Sem Nat :=
  match v with
  | some v => Instr.sliceBound v y c
  | none => pure d

theorem optb_sound {x : Option Operand} {x' : Option AOpd} (hx : copt x = some x') (ht : TRk rl m t a (optT x')) {d y n : Nat} (h : sbound (x'.map (opd t)) d y = some n) :
    (n ≤ y ∨ (x = none ∧ n = d)) ∧ ∀ (c : BoundsCode) (y' : Nat) w, (n ≤ y' ∨ x = none) → (lookB (x.map a.eval) d y' c).run P w = .ok n w := by
  cases x with
  | none =>
    cases hx
    simp only [Option.map_none, sbound, Option.some.injEq] at h
    subst h
    exact ⟨.inr ⟨rfl, rfl⟩, fun c y' w _ => rfl⟩
  | some x =>
    simp only [copt, Option.map_eq_some_iff] at hx
    obtain ⟨x1, hx1, rfl⟩ := hx
    obtain ⟨h1, h2⟩ := bound_sound (P := P) hx1 ht h
    exact ⟨.inl h1, fun c y' w hy => h2 c y' w (hy.resolve_right (by simp))⟩

theorem add_zero_addr (p : Addr) : p.add 0 = p := by simp [Addr.add]

theorem sliceBounds_eq (isS : Bool) (len cap : Nat) (lo hi : Option Value) (w : World) {h l : Nat}
    (hh : ∀ c, (lookB hi len cap c).run P w = .ok h w) (hl : ∀ c, (lookB lo 0 h c).run P w = .ok l w) :
    (Instr.sliceBounds isS len cap lo hi none).run P w = .ok (l, h, cap) w := by
  cases lo <;> cases hi <;> simp only [lookB] at hh hl <;> simp [Instr.sliceBounds, hh, hl]
  all_goals (first | (have := hh .index; simp at this; subst this; have := hl .index; simp at this; subst this; exact ⟨rfl, rfl⟩) | skip)
  all_goals (first | (have := hh .index; simp at this; subst this; simp [hl]) | (have := hl .index; simp at this; exact this) | skip)

theorem pur_slA {x : Operand} {x' : AOpd} {ty e : TypeId} {n es : Nat} {lo hi : Option Operand} {lo' hi' : Option AOpd} (ho : o.op = .slice ty x lo hi none) (hu : P.underlying ty = some (.array n e)) (hs : csize P e = some es)
    (hx : copd x = some x') (hlo : copt lo = some lo') (hhi : copt hi = some hi') (ht : TRk rl m t a (opdT x' ++ optT lo' ++ optT hi')) (hv : ev_slA t n es x' lo' hi' = some v) : Pur P a o rl m v := by
  have rx := copd_sound hx (rl := rl) (m := m) (t := t) (a := a) (ht.mem fun n hn => by simp [hn])
  have tl : TRk rl m t a (optT lo') := ht.mem fun n hn => by simp [hn]
  have th : TRk rl m t a (optT hi') := ht.mem fun n hn => by simp [hn]
  unfold ev_slA at hv
  split at hv
  · rename_i q eq
    split at hv
    · rename_i h hh
      split at hv
      · rename_i l hl
        cases hc : Nat.blt l n
        · rw [hc] at hv; cases hv
        · rw [hc] at hv; cases hv
          rw [Nat.blt_eq] at hc
          rw [eq] at rx
          obtain ⟨p, e', h'⟩ := rx.inv_p
          obtain ⟨b1, r1⟩ := optb_sound (P := P) hhi th hh
          obtain ⟨b2, r2⟩ := optb_sound (P := P) hlo tl hl
          have hb : (Instr.sliceBounds false n n (lo.map a.eval) (hi.map a.eval) none).run P = fun w => .ok (l, h, n) w := funext fun w =>
            sliceBounds_eq false n n _ _ w (fun c => r1 c n w (b1.imp id (·.1))) (fun c => r2 c h w (b2.imp id (·.1)))
          have hne : ¬ n = l := by omega
          refine ⟨.slice (some (p.add (l * es))) (h - l) (n - l), fun w => ?_, .slk _ _ _ _ (addr_off h' _)⟩
          simp [execOp, ho, e', Instr.sliceAt, run_und hu, Instr.sureAddr, hb, csize_sound hs, hne]
      · cases hv
    · cases hv
  · cases hv

end
end Go.Vm

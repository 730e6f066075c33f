/- Slices of slices, aggregates, and all operations that touch no memory in one word. -/
import Derived.Test.YtageakoepjkkbaaVmF
namespace Go.Vm
open Go.RowKit

section
variable {P : Program} {a : Act} {o : Oper} {rl : Rl} {m : M} {t : Tr} {v : AVal}

theorem slice_run {ty e : TypeId} {es : Nat} {x : Operand} {lo hi : Option Operand} {A : Option Addr} {len cap l h : Nat} (ho : o.op = .slice ty x lo hi none) (hu : P.underlying ty = some (.slice e)) (hs : csize P e = some es)
    (ex : a.eval x = .slice A len cap) (hb : ∀ w, (Instr.sliceBounds true len cap (lo.map a.eval) (hi.map a.eval) none).run P w = .ok (l, h, cap) w) (w : World) :
    (execOp a.eval o).run P w = .ok (.value (.slice (if cap = l then A else A.map (·.add (l * es))) (h - l) (cap - l))) w := by
  simp [execOp, ho, ex, Instr.sliceAt, Instr.slice, run_und hu, hb, csize_sound hs]

theorem pur_sl_lh {x : Operand} {ty e : TypeId} {es : Nat} {lo hi : Option Operand} {lo' hi' : Option AOpd} {q : Loc} {len : Nat} {cap : Cap} (ho : o.op = .slice ty x lo hi none) (hu : P.underlying ty = some (.slice e)) (hs : csize P e = some es)
    (rx : VR rl m (.sl q len cap) (a.eval x)) (hlo : copt lo = some lo') (hhi : copt hi = some hi') (tl : TRk rl m t a (optT lo')) (th : TRk rl m t a (optT hi')) (hv : sl_lh t es q len cap lo' hi' = some v) : Pur P a o rl m v := by
  unfold sl_lh at hv
  split at hv
  · rename_i h hh
    split at hv
    · rename_i l hl
      obtain ⟨p, c', e', h', hcap⟩ := rx.inv_sl
      obtain ⟨b1, r1⟩ := optb_sound (P := P) hhi th hh
      obtain ⟨b2, r2⟩ := optb_sound (P := P) hlo tl hl
      have hcb : capB cap len ≤ c' := by
        cases cap with
        | known n => have e : c' = n := hcap; simp only [capB]; omega
        | grow => exact hcap.2.2.2
        | any => exact hcap
      have hb : ∀ w, (Instr.sliceBounds true len c' (lo.map a.eval) (hi.map a.eval) none).run P w = .ok (l, h, c') w := fun w =>
        sliceBounds_eq true len c' _ _ w (fun c => r1 c c' w (b1.imp (fun b => Nat.le_trans b hcb) (·.1))) (fun c => r2 c h w (b2.imp id (·.1)))
      have hrun := slice_run ho hu hs e' hb
      split at hv
      · cases hv
        have e0 : (if c' = 0 then some p else Option.map (·.add (0 * es)) (some p)) = some p := by split <;> simp [add_zero_addr]
        refine ⟨.slice (some p) h c', fun w => by rw [hrun w, e0]; rfl, ?_⟩
        cases cap with
        | known n => have e : c' = n := hcap; subst e; exact .slk _ _ _ _ h'
        | grow =>
          obtain ⟨h1, h2, ⟨r, hr⟩, h3⟩ := hcap
          obtain ⟨qr, qb, qo⟩ := q
          simp only at h1 h2 hr
          subst h1; subst h2
          have hp : p = ⟨r, 0, none⟩ := by simp [addr, hr] at h'; exact h'.symm
          subst hp
          refine .slg _ _ _ _ hr ?_
          rcases b1 with b1 | ⟨-, rfl⟩
          · exact Nat.le_trans b1 hcb
          · exact h3
        | any =>
          refine .sla _ _ _ _ h' ?_
          rcases b1 with b1 | ⟨-, rfl⟩
          · exact Nat.le_trans b1 hcb
          · exact hcap
      · rename_i l
        split at hv
        · rename_i n
          cases hc : Nat.blt (l + 1) n
          · rw [hc] at hv; cases hv
          · rw [hc] at hv; cases hv
            rw [Nat.blt_eq] at hc
            have e : c' = n := hcap
            subst e
            have hne : ¬ c' = l + 1 := by omega
            refine ⟨.slice (some (p.add ((l + 1) * es))) (h - (l + 1)) (c' - (l + 1)), fun w => by rw [hrun w, if_neg hne]; rfl, .slk _ _ _ _ (addr_off h' _)⟩
        · rename_i hnk
          cases hc : Nat.blt (l + 1) len
          · rw [hc] at hv; cases hv
            have hlen : capB cap len = len := by
              cases cap with
              | known n => exact absurd rfl (hnk n)
              | grow => rfl
              | any => rfl
            have hz : h - (l + 1) = 0 := by
              have : ¬ (l + 1 < len) := fun hh => by rw [← Nat.blt_eq, hc] at hh; cases hh
              rcases b1 with b1 | ⟨-, rfl⟩
              · rw [hlen] at b1; omega
              · omega
            exact ⟨_, fun w => hrun w, by rw [Nat.succ_eq_add_one, hz]; exact .esl _ _⟩
          · rw [hc] at hv; cases hv
            rw [Nat.blt_eq] at hc
            have hle : len ≤ c' := by
              cases cap with
              | known n => exact absurd rfl (hnk n)
              | grow => exact hcap.2.2.2
              | any => exact hcap
            have hne : ¬ c' = l + 1 := by omega
            have hh' : h ≤ c' := by
              rcases b1 with b1 | ⟨-, rfl⟩
              · exact Nat.le_trans b1 hcb
              · exact hle
            refine ⟨.slice (some (p.add ((l + 1) * es))) (h - (l + 1)) (c' - (l + 1)), fun w => by rw [hrun w, if_neg hne]; rfl, .sla _ _ _ _ (addr_off h' _) (by omega)⟩
    · cases hv
  · cases hv

theorem capLe_sound {cap : Cap} {len k c' : Nat} {q : Loc} (h : capLe cap len k = true)
    (hcap : CapR m q len c' cap) : k ≤ c' := by
  cases cap with
  | known n => simp only [capLe] at h; have := Nat.le_of_ble_eq_true h; have e : c' = n := hcap; omega
  | grow => simp only [capLe] at h; have := Nat.le_of_ble_eq_true h; have := hcap.2.2.2; omega
  | any => simp only [capLe] at h; have := Nat.le_of_ble_eq_true h; have e : len ≤ c' := hcap; omega

theorem pur_sl_mx {x mo hi : Operand} {ty e : TypeId} {es : Nat} {lo : Option Operand} {lo' : Option AOpd} {mo' hi' : AOpd} {q : Loc} {len : Nat} {cap : Cap} (ho : o.op = .slice ty x lo (some hi) (some mo)) (hu : P.underlying ty = some (.slice e)) (hs : csize P e = some es)
    (rx : VR rl m (.sl q len cap) (a.eval x)) (hlo : copt lo = some lo') (hhi : copd hi = some hi') (hmo : copd mo = some mo') (tl : TRk rl m t a (optT lo')) (th : TRk rl m t a (opdT hi')) (tm : TRk rl m t a (opdT mo'))
    (hv : sl_mx t es q len cap lo' hi' mo' = some v) : Pur P a o rl m v := by
  have rm := copd_sound hmo tm
  unfold sl_mx at hv
  split at hv
  · rename_i kk mn em
    split at hv
    · rename_i k
      cases hcl : capLe cap len k
      · rw [hcl] at hv; cases hv
      rw [hcl] at hv
      simp only [cond_true] at hv
      split at hv
      · rename_i h hh
        split at hv
        · rename_i l hl
          cases hc : (Nat.blt l k || Nat.beq l 0)
          · rw [hc] at hv; cases hv
          rw [hc] at hv; cases hv
          rw [em] at rm
          obtain ⟨p, c', e', h', hcap⟩ := rx.inv_sl
          have hk := capLe_sound hcl hcap
          obtain ⟨b1, r1⟩ := bound_sound (P := P) hhi th hh
          obtain ⟨b2, r2⟩ := optb_sound (P := P) hlo tl hl
          have hl2 : ∀ c w, (lookB (lo.map a.eval) 0 h c).run P w = .ok l w := fun c w => r2 c h w (b2.imp id (·.1))
          have hb : ∀ w, (Instr.sliceBounds true len c' (lo.map a.eval) (some (a.eval hi)) (some (a.eval mo))).run P w = .ok (l, h, k) w := fun w => by
            have hm : ∀ c, (Instr.sliceBound (a.eval mo) c' c).run P w = .ok k w := fun c => by
              simp [Instr.sliceBound, rm.inv_i, asIntOf, hk]
            have hh2 : ∀ c, (Instr.sliceBound (a.eval hi) k c).run P w = .ok h w := fun c => r1 c k w b1
            cases lo with
            | none => have := hl2 .index w; simp [lookB] at this; subst this; simp [Instr.sliceBounds, hm, hh2]
            | some lo => have := fun c => hl2 c w; simp only [Option.map_some, lookB] at this; simp [Instr.sliceBounds, hm, hh2, this]
          have hval : (if k = l then some p else Option.map (·.add (l * es)) (some p)) = some (p.add (l * es)) := by
            simp only [Bool.or_eq_true, Nat.blt_eq, Nat.beq_eq] at hc
            rcases hc with hc | hc
            · have : ¬ k = l := by omega
              simp [this]
            · subst hc; split <;> simp [add_zero_addr]
          refine ⟨.slice (some (p.add (l * es))) (h - l) (k - l), fun w => ?_, .slk _ _ _ _ (addr_off h' _)⟩
          have : (execOp a.eval o).run P w = .ok (.value (.slice (if k = l then some p else Option.map (·.add (l * es)) (some p)) (h - l) (k - l))) w := by
            simp [execOp, ho, e', Instr.sliceAt, Instr.slice, run_und hu, hb, csize_sound hs]
          rw [this, hval]
        · cases hv
      · cases hv
    · cases hv
  · cases hv

theorem pur_nsl_mx {x mo hi : Operand} {ty e : TypeId} {es : Nat} {lo : Option Operand} {lo' : Option AOpd} {mo' hi' : AOpd} (ho : o.op = .slice ty x lo (some hi) (some mo)) (hu : P.underlying ty = some (.slice e)) (hs : csize P e = some es)
    (rx : VR rl m .nsl (a.eval x)) (hlo : copt lo = some lo') (hhi : copd hi = some hi') (hmo : copd mo = some mo') (tl : TRk rl m t a (optT lo')) (th : TRk rl m t a (opdT hi')) (tm : TRk rl m t a (opdT mo'))
    (hv : nsl_mx t lo' hi' mo' = some v) : Pur P a o rl m v := by
  unfold nsl_mx at hv
  split at hv
  · rename_i k hk
    split at hv
    · rename_i h hh
      split at hv
      · rename_i l hl
        cases hv
        obtain ⟨b0, r0⟩ := bound_sound (P := P) hmo tm hk
        obtain ⟨b1, r1⟩ := bound_sound (P := P) hhi th hh
        obtain ⟨b2, r2⟩ := optb_sound (P := P) hlo tl hl
        have hk0 : k = 0 := by omega
        have hh0 : h = 0 := by omega
        have hl0 : l = 0 := by rcases b2 with b | ⟨-, b⟩ <;> omega
        subst hk0; subst hh0; subst hl0
        have hl2 : ∀ c w, (lookB (lo.map a.eval) 0 0 c).run P w = .ok 0 w := fun c w => r2 c 0 w (.inl (Nat.le_refl _))
        have hb : ∀ w, (Instr.sliceBounds true 0 0 (lo.map a.eval) (some (a.eval hi)) (some (a.eval mo))).run P w = .ok (0, 0, 0) w := fun w => by
          have hm : ∀ c, (Instr.sliceBound (a.eval mo) 0 c).run P w = .ok 0 w := fun c => r0 c 0 w b0
          have hh2 : ∀ c, (Instr.sliceBound (a.eval hi) 0 c).run P w = .ok 0 w := fun c => r1 c 0 w b1
          cases lo with
          | none => simp [Instr.sliceBounds, hm, hh2]
          | some lo => have := fun c => hl2 c w; simp only [Option.map_some, lookB] at this; simp [Instr.sliceBounds, hm, hh2, this]
        refine ⟨.slice none 0 0, fun w => ?_, .nsl⟩
        simp [execOp, ho, rx.inv_nsl, Instr.sliceAt, Instr.slice, run_und hu, hb, csize_sound hs]
      · cases hv
    · cases hv
  · cases hv
theorem pur_slS {x : Operand} {x' : AOpd} {ty e : TypeId} {es : Nat} {lo hi mx : Option Operand} {lo' hi' mx' : Option AOpd} (ho : o.op = .slice ty x lo hi mx) (hu : P.underlying ty = some (.slice e)) (hs : csize P e = some es)
    (hx : copd x = some x') (hlo : copt lo = some lo') (hhi : copt hi = some hi') (hmx : copt mx = some mx') (ht : TRk rl m t a (opdT x' ++ optT lo' ++ optT hi' ++ optT mx')) (hv : ev_slS t es x' lo' hi' mx' = some v) : Pur P a o rl m v := by
  have rx := copd_sound hx (rl := rl) (m := m) (t := t) (a := a) (ht.mem fun n hn => by simp [hn])
  have tl : TRk rl m t a (optT lo') := ht.mem fun n hn => by simp [hn]
  have th : TRk rl m t a (optT hi') := ht.mem fun n hn => by simp [hn]
  have tm : TRk rl m t a (optT mx') := ht.mem fun n hn => by simp [hn]
  unfold ev_slS at hv
  split at hv
  · rename_i eq
    split at hv
    · rename_i mo'
      rw [eq] at rx
      split at hv
      · rename_i hi'
        cases mx with
        | none => cases hmx
        | some mo =>
          cases hi with
          | none => cases hhi
          | some hi =>
            simp only [copt, Option.map_eq_some_iff] at hmx hhi
            obtain ⟨m1, hm1, e1⟩ := hmx
            obtain ⟨h1, hh1, e2⟩ := hhi
            cases e1; cases e2
            exact pur_nsl_mx ho hu hs rx hlo hh1 hm1 tl th tm hv
      · cases hv
    · have hmn : mx = none := by
        cases mx with
        | none => rfl
        | some mo => simp [copt] at hmx
      subst hmn
      split at hv
      · rename_i h hh
        split at hv
        · rename_i l hl
          cases hv
          rw [eq] at rx
          obtain ⟨b1, r1⟩ := optb_sound (P := P) hhi th hh
          obtain ⟨b2, r2⟩ := optb_sound (P := P) hlo tl hl
          have hh0 : h = 0 := by rcases b1 with b | ⟨-, b⟩ <;> omega
          have hl0 : l = 0 := by rcases b2 with b | ⟨-, b⟩ <;> omega
          subst hh0; subst hl0
          have hb : ∀ w, (Instr.sliceBounds true 0 0 (lo.map a.eval) (hi.map a.eval) none).run P w = .ok (0, 0, 0) w := fun w =>
            sliceBounds_eq true 0 0 _ _ w (fun c => r1 c 0 w (.inl (Nat.le_refl _))) (fun c => r2 c 0 w (.inl (Nat.le_refl _)))
          exact ⟨.slice none 0 0, fun w => by rw [slice_run ho hu hs rx.inv_nsl hb w]; rfl, .nsl⟩
        · cases hv
      · cases hv
  · rename_i q len cap eq
    rw [eq] at rx
    split at hv
    · rename_i mo'
      split at hv
      · rename_i hi'
        cases mx with
        | none => cases hmx
        | some mo =>
          cases hi with
          | none => cases hhi
          | some hi =>
            simp only [copt, Option.map_eq_some_iff] at hmx hhi
            obtain ⟨m1, hm1, e1⟩ := hmx
            obtain ⟨h1, hh1, e2⟩ := hhi
            cases e1; cases e2
            exact pur_sl_mx ho hu hs rx hlo hh1 hm1 tl th tm hv
      · cases hv
    · have hmn : mx = none := by
        cases mx with
        | none => rfl
        | some mo => simp [copt] at hmx
      subst hmn
      exact pur_sl_lh ho hu hs rx hlo hhi tl th hv
  · cases hv

end
end Go.Vm

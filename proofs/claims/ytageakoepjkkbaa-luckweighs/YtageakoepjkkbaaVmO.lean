/- Every operation but calls, in one word. -/
import Derived.Test.YtageakoepjkkbaaVmMP
namespace Go.Vm
open Go.RowKit

/-- is an operation one that the compiler makes a pure one of? -/
def pureOp : Op → Bool
  | .move _ | .assign _ | .pick .. | .build .. | .nilCheck _ | .binOp .. | .unOp .. | .fieldAddr .. | .field .. | .indexAddr .. | .index .. | .makeFunc .. | .slice .. | .extract .. | .makeInterface .. => true
  | _ => false

theorem compK_pure {P : Program} {op : Op} {k : Kind} (hp : pureOp op = true) (hk : compK P op = some k) : ∃ k', k = .pure k' := by
  cases op <;> simp only [pureOp, Bool.false_eq_true] at hp
  case move x => simp only [compK, Option.map_eq_some_iff] at hk; obtain ⟨_, _, rfl⟩ := hk; exact ⟨_, rfl⟩
  case assign x => simp only [compK, Option.map_eq_some_iff] at hk; obtain ⟨_, _, rfl⟩ := hk; exact ⟨_, rfl⟩
  case pick => simp only [compK, bind, Option.bind_eq_some_iff, Option.some.injEq] at hk; obtain ⟨_, _, _, _, _, _, rfl⟩ := hk; exact ⟨_, rfl⟩
  case build =>
    simp only [compK, c_build, bind, Option.bind_eq_some_iff] at hk
    obtain ⟨z, hz, hk⟩ := hk
    split at hk
    · simp only [Option.bind_eq_some_iff] at hk
      obtain ⟨_, _, hk⟩ := hk
      split at hk <;> cases hk
      exact ⟨_, rfl⟩
    · simp only [Option.bind_eq_some_iff, Option.some.injEq] at hk
      obtain ⟨_, _, _, _, rfl⟩ := hk; exact ⟨_, rfl⟩
    · cases hk
  case nilCheck =>
    simp only [compK, c_nilck] at hk
    split at hk
    · simp only [bind, Option.bind_eq_some_iff, Option.some.injEq] at hk; obtain ⟨_, _, rfl⟩ := hk; exact ⟨_, rfl⟩
    · simp only [bind, Option.bind_eq_some_iff, Option.some.injEq] at hk; obtain ⟨_, _, rfl⟩ := hk; exact ⟨_, rfl⟩
  case binOp op ty x y _ =>
    have eqs : ∀ ng, c_eqs P ty ng x y = some k → ∃ k', k = .pure k' := by
      intro ng hk
      simp only [c_eqs] at hk
      split at hk
      · simp only [bind, Option.bind_eq_some_iff, Option.some.injEq] at hk; obtain ⟨_, _, _, _, rfl⟩ := hk; exact ⟨_, rfl⟩
      · split at hk
        · simp only [bind, Option.bind_eq_some_iff, Option.some.injEq] at hk; obtain ⟨_, _, rfl⟩ := hk; exact ⟨_, rfl⟩
        · cases hk
      · split at hk
        · cases hk
        · simp only [bind, Option.bind_eq_some_iff, Option.some.injEq] at hk; obtain ⟨_, _, _, _, _, _, rfl⟩ := hk; exact ⟨_, rfl⟩
      · split at hk
        · cases hk
        · simp only [bind, Option.bind_eq_some_iff, Option.some.injEq] at hk; obtain ⟨_, _, _, _, _, _, rfl⟩ := hk; exact ⟨_, rfl⟩
      · cases hk
    simp only [compK, c_bin] at hk
    split at hk
    · simp only [bind, Option.bind_eq_some_iff, Option.some.injEq] at hk; obtain ⟨_, _, _, _, rfl⟩ := hk; exact ⟨_, rfl⟩
    · simp only [bind, Option.bind_eq_some_iff, Option.some.injEq] at hk; obtain ⟨_, _, _, _, rfl⟩ := hk; exact ⟨_, rfl⟩
    · split at hk
      · exact eqs _ hk
      · exact eqs _ hk
      · cases hk
  case unOp =>
    simp only [compK, c_un] at hk
    split at hk
    · simp only [bind, Option.bind_eq_some_iff, Option.some.injEq] at hk; obtain ⟨_, _, rfl⟩ := hk; exact ⟨_, rfl⟩
    · simp only [bind, Option.bind_eq_some_iff, Option.some.injEq] at hk; obtain ⟨_, _, rfl⟩ := hk; exact ⟨_, rfl⟩
    · cases hk
  case fieldAddr =>
    simp only [compK, c_faddr] at hk
    split at hk
    · simp only [bind, Option.bind_eq_some_iff] at hk
      obtain ⟨_, _, _, _, hk⟩ := hk
      split at hk
      · cases hk
      · simp only [Option.bind_eq_some_iff, Option.some.injEq] at hk; obtain ⟨_, _, rfl⟩ := hk; exact ⟨_, rfl⟩
    · cases hk
  case field =>
    simp only [compK, c_field] at hk
    split at hk
    · simp only [bind, Option.bind_eq_some_iff, Option.some.injEq] at hk; obtain ⟨_, _, _, _, _, _, _, _, rfl⟩ := hk; exact ⟨_, rfl⟩
    · cases hk
  case indexAddr =>
    simp only [compK, c_ixa] at hk
    split at hk
    · simp only [bind, Option.bind_eq_some_iff, Option.some.injEq] at hk; obtain ⟨_, _, _, _, _, _, rfl⟩ := hk; exact ⟨_, rfl⟩
    · simp only [bind, Option.bind_eq_some_iff, Option.some.injEq] at hk; obtain ⟨_, _, _, _, _, _, rfl⟩ := hk; exact ⟨_, rfl⟩
    · cases hk
  case index =>
    simp only [compK, c_ixv] at hk
    split at hk
    · simp only [bind, Option.bind_eq_some_iff, Option.some.injEq] at hk; obtain ⟨_, _, _, _, _, _, _, _, rfl⟩ := hk; exact ⟨_, rfl⟩
    · simp only [bind, Option.bind_eq_some_iff, Option.some.injEq] at hk; obtain ⟨_, _, _, _, rfl⟩ := hk; exact ⟨_, rfl⟩
    · cases hk
  case makeFunc =>
    simp only [compK, c_fn] at hk
    split at hk
    · simp only [bind, Option.bind_eq_some_iff, Option.some.injEq] at hk; obtain ⟨_, _, _, _, rfl⟩ := hk; exact ⟨_, rfl⟩
    · split at hk
      · split at hk
        · simp only [bind, Option.bind_eq_some_iff, Option.some.injEq] at hk; obtain ⟨_, _, rfl⟩ := hk; exact ⟨_, rfl⟩
        · cases hk
      · cases hk
    · cases hk
  case slice =>
    simp only [compK, c_slice, bind, Option.bind_eq_some_iff] at hk
    obtain ⟨_, _, _, _, _, _, hk⟩ := hk
    split at hk
    · simp only [Option.bind_eq_some_iff] at hk
      obtain ⟨_, _, hk⟩ := hk
      split at hk
      · cases hk
      · simp only [Option.bind_eq_some_iff, Option.some.injEq] at hk; obtain ⟨_, _, rfl⟩ := hk; exact ⟨_, rfl⟩
    · simp only [Option.bind_eq_some_iff, Option.some.injEq] at hk; obtain ⟨_, _, _, _, rfl⟩ := hk; exact ⟨_, rfl⟩
    · split at hk
      · cases hk
      · simp only [Option.bind_eq_some_iff, Option.some.injEq] at hk; obtain ⟨_, _, rfl⟩ := hk; exact ⟨_, rfl⟩
    · cases hk
  case makeInterface =>
    simp only [compK, c_mki] at hk
    split at hk
    · cases hk
    · simp only [bind, Option.bind_eq_some_iff, Option.some.injEq] at hk; obtain ⟨_, _, rfl⟩ := hk; exact ⟨_, rfl⟩
    · cases hk
  case extract => simp only [compK, bind, Option.bind_eq_some_iff, Option.some.injEq] at hk; obtain ⟨_, _, rfl⟩ := hk; exact ⟨_, rfl⟩

theorem conv_cases {P : Program} {src dst : TypeId} {x : Operand} {k : Kind} (hk : compK P (.convert src dst x) = some k) :
    (∃ k', k = .pure k') ∨ ∃ e x', k = .bts x' ∧ P.underlying src = some (.slice e) ∧ P.underlying e = some (.int .u8) ∧ P.underlying dst = some .string ∧ copd x = some x' := by
  simp only [compK, c_conv] at hk
  split at hk
  · split at hk
    · simp only [bind, Option.bind_eq_some_iff, Option.some.injEq] at hk; obtain ⟨_, _, rfl⟩ := hk; exact .inl ⟨_, rfl⟩
    · simp only [bind, Option.bind_eq_some_iff, Option.some.injEq] at hk; obtain ⟨_, _, rfl⟩ := hk; exact .inl ⟨_, rfl⟩
    · cases hk
  · split at hk
    · simp only [bind, Option.bind_eq_some_iff, Option.some.injEq] at hk; obtain ⟨_, _, rfl⟩ := hk; exact .inl ⟨_, rfl⟩
    · cases hk
  · rename_i e he
    split at hk
    · rename_i he2
      split at hk
      · rename_i hd
        simp only [bind, Option.bind_eq_some_iff, Option.some.injEq] at hk
        obtain ⟨x', hx, rfl⟩ := hk
        exact .inr ⟨e, x', rfl, he, he2, hd, hx⟩
      · cases hk
    · cases hk
  · cases hk

section
variable {E : Env} {o : Oper} {a : Act} {m : M} {st st' : St} {w : World} {v : AVal}

theorem stp_pure {k : PK} (hr : HR E m st.h w) (hk : compK E.P o.op = some (.pure k)) (ht : TRk E.rl m st.t a k.looks) (hs : stepK E.ro st (.pure k) = some (v, st')) : Stp E o a m st w v st' := by
  simp only [stepK, Option.map_eq_some_iff] at hs
  obtain ⟨u, hu, e⟩ := hs
  cases e
  obtain ⟨v', h1, h2⟩ := pure_sound hk ht hu
  exact ⟨rfl, v', w, m, .inl (h1 w), h2, Tn.refl hr _ _⟩

theorem stepK_sound {k : Kind} (hE : E.Ok) (hr : HR E m st.h w) (hk : compK E.P o.op = some k) (ht : TRk E.rl m st.t a k.looks) (hs : stepK E.ro st k = some (v, st')) : Stp E o a m st w v st' := by
  have hk0 := hk
  generalize hop : o.op = op at hk
  by_cases hp : pureOp op = true
  · obtain ⟨k', rfl⟩ := compK_pure hp hk
    exact stp_pure hr hk0 ht hs
  · cases op <;> simp only [pureOp, not_true_eq_false] at hp
    case convert src dst x =>
      rcases conv_cases hk with ⟨k', rfl⟩ | ⟨e, x', rfl, hs1, hs2, hs3, hx⟩
      · exact stp_pure hr hk0 ht hs
      · exact stp_bts hE hr hop hs1 hs2 hs3 hx ht hs
    case load ty x =>
      simp only [compK, bind, Option.bind_eq_some_iff, Option.some.injEq] at hk
      obtain ⟨ag, hag, n, hn, x', hx, rfl⟩ := hk
      exact stp_ld hE hr hop hag hn hx ht hs
    case alloc e =>
      simp only [compK, Option.map_eq_some_iff] at hk
      obtain ⟨z, hz, rfl⟩ := hk
      exact stp_al hE hr hop hz hs
    case box e x =>
      simp only [compK, bind, Option.bind_eq_some_iff, Option.some.injEq] at hk
      obtain ⟨n, hn, x', hx, rfl⟩ := hk
      exact stp_bx hE hr hop hn hx ht hs
    case buildSlice ty n parts =>
      simp only [compK, c_bsl] at hk
      split at hk
      · rename_i e hu
        simp only [bind, Option.bind_eq_some_iff] at hk
        obtain ⟨z, hz, s, hsz, ps, hps, hk⟩ := hk
        split at hk
        · rename_i hc
          cases hk
          exact stp_bsl hE hr hop hu hz hsz hps hc.1 hc.2 ht hs
        · cases hk
      · cases hk
    case store ty x y =>
      simp only [compK, bind, Option.bind_eq_some_iff, Option.some.injEq] at hk
      obtain ⟨n, hn, x', hx, y', hy, rfl⟩ := hk
      exact stp_st hr hop hn hx hy ht hs
    case makeSlice ty l c =>
      simp only [compK, c_mk] at hk
      split at hk
      · rename_i e hu
        simp only [bind, Option.bind_eq_some_iff] at hk
        obtain ⟨s, hsz, hk⟩ := hk
        split at hk
        · cases hk
        · simp only [Option.bind_eq_some_iff, Option.some.injEq] at hk
          obtain ⟨by_, hby, z, hz, l', hl, c', hc, rfl⟩ := hk
          exact stp_mk hE hr hop hu hsz hby hz hl hc ht hs
      · cases hk
    case makeMap t r =>
      simp only [compK, c_mkm] at hk
      split at hk
      · cases hk; exact stp_mkm hE hr hop hs
      · cases hk
    case lookup t x k ok =>
      simp only [compK, c_mlk] at hk
      split at hk
      · rename_i kt et hu
        split at hk
        · rename_i hku
          simp only [bind, Option.bind_eq_some_iff, Option.some.injEq] at hk
          obtain ⟨z, hz, x', hx, k', hkk, rfl⟩ := hk
          exact stp_mlk hr hop hu hku hz hx hkk ht hs
        · cases hk
      · cases hk
    case mapUpdate t x k v =>
      simp only [compK, c_mup] at hk
      split at hk
      · rename_i kt et hu
        split at hk
        · rename_i hku
          simp only [bind, Option.bind_eq_some_iff, Option.some.injEq] at hk
          obtain ⟨x', hx, k', hkk, v', hvv, rfl⟩ := hk
          exact stp_mup hr hop hu hku hx hkk hvv ht hs
        · cases hk
      · cases hk
    case call c =>
      obtain ⟨cal, args, ats⟩ := c
      simp only [compK, c_call] at hk
      split at hk
      · simp only [c_len] at hk
        split at hk
        · split at hk
          · split at hk
            · simp only [bind, Option.bind_eq_some_iff, Option.some.injEq] at hk; obtain ⟨_, _, rfl⟩ := hk; exact stp_pure hr hk0 ht hs
            · simp only [bind, Option.bind_eq_some_iff, Option.some.injEq] at hk; obtain ⟨_, _, rfl⟩ := hk; exact stp_pure hr hk0 ht hs
            · cases hk
          · cases hk
        · cases hk
      · simp only [c_app] at hk
        split at hk
        · rename_i x y ha
          split at hk
          · rename_i t u hat
            have e1 : args = #[x, y] := by rw [← Array.toArray_toList (xs := args), ha]
            have e2 : ats = #[t, u] := by rw [← Array.toArray_toList (xs := ats), hat]
            subst e1; subst e2
            split at hk
            · rename_i e hu
              split at hk
              · rename_i e2 hu2
                simp only [bind, Option.bind_eq_some_iff] at hk
                obtain ⟨s, hsz, hk⟩ := hk
                split at hk
                · cases hk
                · rename_i hs0
                  simp only [Option.bind_eq_some_iff, Option.some.injEq] at hk
                  obtain ⟨by_, hby, z, hz, x', hx, y', hy, rfl⟩ := hk
                  exact stp_app hE hr hop hu hu2 hsz hs0 hby hz hx hy ht hs
              · cases hk
            · cases hk
          · cases hk
        · cases hk
      · simp only [c_mx] at hk
        split at hk
        · simp only [bind, Option.bind_eq_some_iff, Option.some.injEq] at hk; obtain ⟨_, _, _, _, rfl⟩ := hk; exact stp_pure hr hk0 ht hs
        · simp only [bind, Option.bind_eq_some_iff, Option.some.injEq] at hk; obtain ⟨_, _, _, _, _, _, rfl⟩ := hk; exact stp_pure hr hk0 ht hs
        · cases hk
      · simp only [c_mx] at hk
        split at hk
        · simp only [bind, Option.bind_eq_some_iff, Option.some.injEq] at hk; obtain ⟨_, _, _, _, rfl⟩ := hk; exact stp_pure hr hk0 ht hs
        · simp only [bind, Option.bind_eq_some_iff, Option.some.injEq] at hk; obtain ⟨_, _, _, _, _, _, rfl⟩ := hk; exact stp_pure hr hk0 ht hs
        · cases hk
      · simp only [c_cpy] at hk
        split at hk
        · rename_i x y ha
          split at hk
          · rename_i t u hat
            have e1 : args = #[x, y] := by rw [← Array.toArray_toList (xs := args), ha]
            have e2 : ats = #[t, u] := by rw [← Array.toArray_toList (xs := ats), hat]
            subst e1; subst e2
            split at hk
            · rename_i e hu
              split at hk
              · simp only [bind, Option.bind_eq_some_iff, Option.some.injEq] at hk
                obtain ⟨s, hsz, x', hx, y', hy, rfl⟩ := hk
                exact stp_cpy hE hr hop hu hsz hx hy ht hs
              · cases hk
            · cases hk
          · cases hk
        · cases hk
      · simp only [bind, Option.bind_eq_some_iff, Option.some.injEq] at hk
        obtain ⟨_, _, rfl⟩ := hk
        simp [stepK] at hs
      · simp only [bind, Option.bind_eq_some_iff, Option.some.injEq] at hk
        obtain ⟨_, _, rfl⟩ := hk
        simp [stepK] at hs
      · simp only [bind, Option.bind_eq_some_iff, Option.some.injEq] at hk
        obtain ⟨_, _, _, _, rfl⟩ := hk
        simp [stepK] at hs
      · cases hk
    all_goals (simp [compK] at hk)

end
end Go.Vm

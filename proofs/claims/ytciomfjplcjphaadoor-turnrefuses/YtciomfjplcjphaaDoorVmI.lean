/- All operations that touch no memory, in one word. -/
import Derived.Test.YtciomfjplcjphaaDoorVmH
import Derived.Test.YtciomfjplcjphaaDoorVmFS
namespace Go.Vm
open Go.RowKit

section
variable {P : Program} {a : Act} {o : Oper} {rl : Rl} {m : M} {t : Tr} {v : AVal}

theorem pure_sound {k : PK} (hk : compK P o.op = some (.pure k)) (ht : TRk rl m t a k.looks) (hv : evP t k = some v) : Pur P a o rl m v := by
  generalize hop : o.op = op at hk
  cases op with
  | move x =>
    simp only [compK, Option.map_eq_some_iff, Kind.pure.injEq] at hk
    obtain ⟨y, hy, rfl⟩ := hk
    exact pur_mv (.inl hop) hy ht (by simpa [evP] using hv)
  | assign x =>
    simp only [compK, Option.map_eq_some_iff, Kind.pure.injEq] at hk
    obtain ⟨y, hy, rfl⟩ := hk
    exact pur_mv (.inr hop) hy ht (by simpa [evP] using hv)
  | pick c x y =>
    simp only [compK, bind, Option.bind_eq_some_iff, Option.some.injEq, Kind.pure.injEq] at hk
    obtain ⟨c', hc, x', hx, y', hy, rfl⟩ := hk
    exact pur_pick hop hc hx hy ht (by simpa [evP] using hv)
  | build ty parts =>
    simp only [compK, c_build, bind, Option.bind_eq_some_iff] at hk
    obtain ⟨z, hz, hk⟩ := hk
    split at hk
    · rename_i fs hu
      simp only [Option.bind_eq_some_iff] at hk
      obtain ⟨ps, hps, hk⟩ := hk
      split at hk
      · rename_i hall
        simp only [Option.some.injEq, Kind.pure.injEq] at hk
        subst hk
        rw [Array.all_eq_true_iff_forall_mem] at hall
        refine pur_build hop hz hu (.inl ⟨fs, rfl, fun f hf => hall f (by simpa using hf), ?_⟩) hps ht (by simpa [evP] using hv)
        intro i p hp
        simp only [Option.bind_eq_some_iff, Option.some.injEq] at hp
        obtain ⟨f, hf, s, hs, rfl⟩ := hp
        rw [List.getElem?_map]
        have : fs.toList[i]? = some f := by simpa using hf
        simp [this, csize_cells hs]
      · cases hk
    · rename_i n e hu
      simp only [Option.bind_eq_some_iff, Option.some.injEq, Kind.pure.injEq] at hk
      obtain ⟨s, hs, ps, hps, rfl⟩ := hk
      exact pur_build hop hz hu (.inr ⟨n, e, s, rfl, hs, fun i p hp => by simpa using hp.symm⟩) hps ht (by simpa [evP] using hv)
    · cases hk
  | nilCheck x =>
    simp only [compK, bind, Option.bind_eq_some_iff, Option.some.injEq, Kind.pure.injEq] at hk
    obtain ⟨y, hy, rfl⟩ := hk
    exact pur_nilck hop hy ht (by simpa [evP] using hv)
  | binOp op ty x y ty' =>
    simp only [compK, c_bin] at hk
    have eqs : ∀ ng, op = (if ng then .neq else .eql) → c_eqs P ty ng x y = some (.pure k) → Pur P a o rl m v := by
      intro ng hop' hk
      rw [hop'] at hop
      simp only [c_eqs] at hk
      split at hk
      · rename_i hu
        simp only [bind, Option.bind_eq_some_iff, Option.some.injEq, Kind.pure.injEq] at hk
        obtain ⟨x', hx, y', hy, rfl⟩ := hk
        exact pur_beq (ng := ng) hop hu hx hy ht (by simpa [evP] using hv)
      · rename_i e hu
        split at hk
        · rename_i hn
          simp only [bind, Option.bind_eq_some_iff, Option.some.injEq, Kind.pure.injEq] at hk
          obtain ⟨x', hx, rfl⟩ := hk
          have hy : y = .const (.slice none 0 0) := by
            unfold isNilSl at hn
            split at hn
            · rfl
            · cases hn
          subst hy
          exact pur_nilcmp (ng := ng) hop hu hx ht (by simpa [evP] using hv)
        · cases hk
      · cases hk
    split at hk
    · rename_i ik hu
      simp only [bind, Option.bind_eq_some_iff, Option.some.injEq, Kind.pure.injEq] at hk
      obtain ⟨x', hx, y', hy, rfl⟩ := hk
      exact pur_bin hop hx hy ht (by simpa [evP] using hv)
    · rename_i hu
      simp only [bind, Option.bind_eq_some_iff, Option.some.injEq, Kind.pure.injEq] at hk
      obtain ⟨x', hx, y', hy, rfl⟩ := hk
      exact pur_sbin hop hx hy ht (by simpa [evP] using hv)
    · split at hk
      · exact eqs false rfl hk
      · exact eqs true rfl hk
      · cases hk
  | unOp uo ty x =>
    simp only [compK, c_un] at hk
    split at hk
    · simp only [bind, Option.bind_eq_some_iff, Option.some.injEq, Kind.pure.injEq] at hk
      obtain ⟨y, hy, rfl⟩ := hk
      exact pur_not hop hy ht (by simpa [evP] using hv)
    · simp only [bind, Option.bind_eq_some_iff, Option.some.injEq, Kind.pure.injEq] at hk
      obtain ⟨y, hy, rfl⟩ := hk
      exact pur_neg hop hy ht (by simpa [evP] using hv)
    · cases hk
  | convert src dst x =>
    simp only [compK, c_conv] at hk
    split at hk
    · rename_i k0 hs
      split at hk
      · rename_i k1 hd
        simp only [bind, Option.bind_eq_some_iff, Option.some.injEq, Kind.pure.injEq] at hk
        obtain ⟨y, hy, rfl⟩ := hk
        exact pur_conv hop hs hd hy ht (by simpa [evP] using hv)
      · rename_i hd
        simp only [bind, Option.bind_eq_some_iff, Option.some.injEq, Kind.pure.injEq] at hk
        obtain ⟨y, hy, rfl⟩ := hk
        exact pur_chr hop hs hd hy ht (by simpa [evP] using hv)
      · cases hk
    · rename_i hs
      split at hk
      · rename_i hd
        simp only [bind, Option.bind_eq_some_iff, Option.some.injEq, Kind.pure.injEq] at hk
        obtain ⟨y, hy, rfl⟩ := hk
        exact pur_mvS hop hs hd hy ht hv
      · cases hk
    · split at hk
      · split at hk
        · simp [Option.bind_eq_some_iff] at hk
        · cases hk
      · cases hk
    · cases hk
  | fieldAddr ty x fi =>
    simp only [compK, c_faddr] at hk
    split at hk
    · rename_i fs hu
      simp only [bind, Option.bind_eq_some_iff] at hk
      obtain ⟨fd, hfd, s, hs, hk⟩ := hk
      split at hk
      · cases hk
      · rename_i hs0
        simp only [Option.bind_eq_some_iff, Option.some.injEq, Kind.pure.injEq] at hk
        obtain ⟨y, hy, rfl⟩ := hk
        exact pur_faddr hop hu hfd hs hs0 hy ht (by simpa [evP] using hv)
    · cases hk
  | field ty x fi =>
    simp only [compK, c_field] at hk
    split at hk
    · rename_i fs hu
      simp only [bind, Option.bind_eq_some_iff, Option.some.injEq, Kind.pure.injEq] at hk
      obtain ⟨fd, hfd, ag, hag, s, hs, y, hy, rfl⟩ := hk
      exact pur_field hop hu hfd hag hs hy ht (by simpa [evP] using hv)
    · cases hk
  | indexAddr ty x ix =>
    simp only [compK, c_ixa] at hk
    split at hk
    · rename_i n e hu
      simp only [bind, Option.bind_eq_some_iff, Option.some.injEq, Kind.pure.injEq] at hk
      obtain ⟨s, hs, x', hx, y', hy, rfl⟩ := hk
      exact pur_ixA hop hu hs hx hy ht (by simpa [evP] using hv)
    · rename_i e hu
      simp only [bind, Option.bind_eq_some_iff, Option.some.injEq, Kind.pure.injEq] at hk
      obtain ⟨s, hs, x', hx, y', hy, rfl⟩ := hk
      exact pur_ixS hop hu hs hx hy ht (by simpa [evP] using hv)
    · cases hk
  | index ty x ix =>
    simp only [compK, c_ixv] at hk
    split at hk
    · rename_i n e hu
      simp only [bind, Option.bind_eq_some_iff, Option.some.injEq, Kind.pure.injEq] at hk
      obtain ⟨ag, hag, s, hs, x', hx, y', hy, rfl⟩ := hk
      exact pur_ixV hop hu hag hs hx hy ht (by simpa [evP] using hv)
    · rename_i hu
      simp only [bind, Option.bind_eq_some_iff, Option.some.injEq, Kind.pure.injEq] at hk
      obtain ⟨x', hx, y', hy, rfl⟩ := hk
      exact pur_ixStr hop hu hx hy ht (by simpa [evP] using hv)
    · cases hk
  | makeFunc fn fs cs =>
    simp only [compK, c_fn] at hk
    split at hk
    · simp only [bind, Option.bind_eq_some_iff, Option.some.injEq, Kind.pure.injEq] at hk
      obtain ⟨x', hx, y', hy, rfl⟩ := hk
      exact pur_mkfn hop hx hy ht (by simpa [evP] using hv)
    · cases hk
  | slice ty x lo hi mx =>
    simp only [compK, c_slice, bind, Option.bind_eq_some_iff] at hk
    obtain ⟨lo', hlo, hi', hhi, mx', hmx, hk⟩ := hk
    split at hk
    · rename_i n e hu
      simp only [Option.bind_eq_some_iff] at hk
      obtain ⟨s, hs, hk⟩ := hk
      split at hk
      · cases hk
      · rename_i hmn
        simp only [Option.bind_eq_some_iff, Option.some.injEq, Kind.pure.injEq] at hk
        obtain ⟨x', hx, rfl⟩ := hk
        have : mx = none := by simpa using hmn
        subst this
        exact pur_slA hop hu hs hx hlo hhi ht (by simpa [evP] using hv)
    · rename_i e hu
      simp only [Option.bind_eq_some_iff, Option.some.injEq, Kind.pure.injEq] at hk
      obtain ⟨s, hs, x', hx, rfl⟩ := hk
      exact pur_slS hop hu hs hx hlo hhi hmx ht (by simpa [evP] using hv)
    · rename_i hu
      split at hk
      · cases hk
      · rename_i hmn
        simp only [Option.bind_eq_some_iff, Option.some.injEq, Kind.pure.injEq] at hk
        obtain ⟨x', hx, rfl⟩ := hk
        have : mx = none := by simpa using hmn
        subst this
        exact pur_slStr hop hu hx hlo hhi ht (by simpa [evP] using hv)
    · cases hk
  | extract x ix =>
    simp only [compK, bind, Option.bind_eq_some_iff, Option.some.injEq, Kind.pure.injEq] at hk
    obtain ⟨y, hy, rfl⟩ := hk
    exact pur_ext hop hy ht (by simpa [evP] using hv)
  | call c =>
    obtain ⟨cal, args, ats⟩ := c
    simp only [compK, c_call] at hk
    split at hk
    · simp only [c_len] at hk
      split at hk
      · rename_i x ha
        split at hk
        · rename_i ty hat
          have e1 : args = #[x] := by rw [← Array.toArray_toList (xs := args), ha]
          have e2 : ats = #[ty] := by rw [← Array.toArray_toList (xs := ats), hat]
          subst e1; subst e2
          split at hk
          · rename_i e hu
            simp only [bind, Option.bind_eq_some_iff, Option.some.injEq, Kind.pure.injEq] at hk
            obtain ⟨y, hy, rfl⟩ := hk
            exact pur_len (str := false) hop hu ⟨e, rfl⟩ hy ht (by simpa [evP] using hv)
          · rename_i hu
            simp only [bind, Option.bind_eq_some_iff, Option.some.injEq, Kind.pure.injEq] at hk
            obtain ⟨y, hy, rfl⟩ := hk
            exact pur_len (str := true) hop hu rfl hy ht (by simpa [evP] using hv)
          · cases hk
        · cases hk
      · cases hk
    · simp only [c_app] at hk
      split at hk
      · split at hk
        · split at hk
          · split at hk
            · simp only [bind, Option.bind_eq_some_iff] at hk
              obtain ⟨s, hs, hk⟩ := hk
              split at hk
              · cases hk
              · simp [Option.bind_eq_some_iff] at hk
            · cases hk
          · cases hk
        · cases hk
      · cases hk
    · simp only [c_mx] at hk
      split at hk
      · rename_i x y ha
        simp only [bind, Option.bind_eq_some_iff, Option.some.injEq, Kind.pure.injEq] at hk
        obtain ⟨x', hx, y', hy, rfl⟩ := hk
        have e1 : args = #[x, y] := by rw [← Array.toArray_toList (xs := args), ha]
        subst e1
        exact pur_mx (mxm := true) hop hx hy ht (by simpa [evP] using hv)
      · cases hk
    · simp only [c_mx] at hk
      split at hk
      · rename_i x y ha
        simp only [bind, Option.bind_eq_some_iff, Option.some.injEq, Kind.pure.injEq] at hk
        obtain ⟨x', hx, y', hy, rfl⟩ := hk
        have e1 : args = #[x, y] := by rw [← Array.toArray_toList (xs := args), ha]
        subst e1
        exact pur_mx (mxm := false) hop hx hy ht (by simpa [evP] using hv)
      · cases hk
    · simp [Option.bind_eq_some_iff] at hk
    · simp [Option.bind_eq_some_iff] at hk
    · cases hk
  | alloc e => simp [compK] at hk
  | box e x => simp [compK, Option.bind_eq_some_iff] at hk
  | buildSlice ty n parts =>
    simp only [compK, c_bsl] at hk
    split at hk
    · simp only [bind, Option.bind_eq_some_iff] at hk
      obtain ⟨z, hz, s, hs, ps, hps, hk⟩ := hk
      split at hk <;> cases hk
    · cases hk
  | load ty x => simp [compK, Option.bind_eq_some_iff] at hk
  | store ty x y => simp [compK, Option.bind_eq_some_iff] at hk
  | makeSlice ty x y =>
    simp only [compK, c_mk] at hk
    split at hk
    · simp only [bind, Option.bind_eq_some_iff] at hk
      obtain ⟨s, hs, hk⟩ := hk
      split at hk
      · cases hk
      · simp [Option.bind_eq_some_iff] at hk
    · cases hk
  | makeMap t r =>
    simp only [compK, c_mkm] at hk
    split at hk <;> simp at hk
  | lookup t x k ok =>
    simp only [compK, c_mlk] at hk
    split at hk
    · split at hk
      · simp [Option.bind_eq_some_iff] at hk
      · cases hk
    · cases hk
  | mapUpdate t x k v =>
    simp only [compK, c_mup] at hk
    split at hk
    · split at hk
      · simp [Option.bind_eq_some_iff] at hk
      · cases hk
    · cases hk
  | _ => simp [compK] at hk

end
end Go.Vm

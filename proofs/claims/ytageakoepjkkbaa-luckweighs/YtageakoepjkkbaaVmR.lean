/- Operations one behind the other; regions whose order is fixed, or settled by what waits for what. -/
import Derived.Test.YtageakoepjkkbaaVmQ
import Derived.Orders
namespace Go.Vm
open Go.RowKit

/-- all slots -/
def TRn (E : Env) (m : M) (t : Tr) (a : Act) (nt : Nat) : Prop := a.tmps.size = nt ∧ ∀ n, n < nt → VR E.rl m (t.get n) (a.tmps.getD n undef)

section
variable {E : Env} {m m' : M} {t : Tr} {a : Act} {nt : Nat} {h : Heap} {w : World}

theorem TRn.mono (hm : Mle m m') (ht : TRn E m t a nt) : TRn E m' t a nt := ⟨ht.1, fun n hn => (ht.2 n hn).mono hm⟩

theorem TRn.trk (ht : TRn E m t a nt) {l : List Nat} (hl : ∀ n ∈ l, n < nt) : TRk E.rl m t a l := fun n hn => ht.2 n (hl n hn)

theorem TRn.put (ht : TRn E m t a nt) {dst : Option Nat} (hd : ∀ d, dst = some d → d < nt) {v : AVal} {v' : Value} (hv : VR E.rl m v v') : TRn E m (put t dst v) (a.put dst v') nt := by
  cases dst with
  | none => exact ht
  | some d =>
    have hdl := hd d rfl
    refine ⟨by simp [Act.put, ht.1], fun n hn => ?_⟩
    simp only [Vm.put, Act.put]
    rw [get_set]
    split
    · rename_i e
      subst e
      have : d < a.tmps.size := by rw [ht.1]; exact hdl
      simpa [Array.getD_eq_getD_getElem?, this] using hv
    · rename_i e
      have := ht.2 n hn
      simpa [Array.getD_eq_getD_getElem?, Array.getElem?_setIfInBounds_ne e] using this

theorem AOp.in_spec {o : AOp} (h : o.in nt = true) : (∀ n ∈ o.k.looks, n < nt) ∧ (∀ s want, o.g = some (s, want) → s < nt) ∧ ∀ d, o.dst = some d → d < nt := by
  simp only [AOp.in, Bool.and_eq_true, List.all_eq_true, AOp.looks, List.mem_append] at h
  refine ⟨fun n hn => by have := h.1 n (.inl hn); rwa [Nat.blt_eq] at this, fun s want hg => ?_, fun d hd => ?_⟩
  · have := h.1 s (.inr (by simp [hg])); rwa [Nat.blt_eq] at this
  · have := h.2; rw [hd] at this; rwa [Nat.blt_eq] at this

/-- does an operation's guard let it run? the same in both machines -/
theorem wanted_eq (ht : TRn E m t a nt) {ops : Array Oper} {o : Oper} {g : Option (Nat × Bool)} (hg : compG ops o.guard = some g) (hlt : ∀ s want, g = some (s, want) → s < nt) :
    Region.wanted o (yielded ops a.tmps) = wantedA g t := by
  unfold compG at hg
  split at hg
  · rename_i e
    cases hg
    simp [Region.wanted, e, wantedA]
  · rename_i j want e
    split at hg
    · rename_i s hs
      cases hg
      have hsl := hlt s want rfl
      have hv := ht.2 s hsl
      have hsz : s < a.tmps.size := by rw [ht.1]; exact hsl
      simp only [Region.wanted, e, yielded, hs, wantedA, Option.bind_some]
      have hget : a.tmps[s]? = some (a.tmps.getD s undef) := by simp [hsz]
      rw [hget]
      generalize t.get s = x at hv
      generalize a.tmps.getD s undef = y at hv
      cases hv <;> simp
    · cases hg

/-- what a caller promises of the calls that it answers -/
def CallOk (E : Env) (call : Caller) : Prop :=
  ∀ f args h v h' lw lp, call f args h = some (v, h', lw, lp) → (∀ args' w, (callFunc f args').run E.P w = .ok (.enter f args') w) ∧
    ∀ m w (args' : Array Value), HR E m h w → LR E.rl m args args' → Calls E.P f args' w fun e w' => ∃ v', e = .returned v' ∧ ∃ m', VR E.rl m' v v' ∧ Tn E m h h.length h.length w m' h' lw lp w'

variable {call : Caller} {o : Oper} {st st' : St} {v : AVal} {K : Act → World → Prop} {Q : Exit → Act → World → Prop}

theorem isCall_stepK {k : Kind} (h : isCall k = false) : stepC call E.ro st k = stepK E.ro st k := by
  cases k <;> simp_all [isCall, stepC]

theorem enter_wp {f : Nat} {args : Array Value} {R : Ending → World → Prop} (hrun : (execOp a.eval o).run E.P w = .ok (.enter f args) w) (hc : Calls E.P f args w R)
    (hR : ∀ e w', R e w' → ∃ v', e = .returned v' ∧ K (a.put o.dst v') w') : o.wp E.P a w K Q := by
  unfold Oper.wp
  rw [hrun]
  refine Calls.mono hc fun e w' hr => ?_
  obtain ⟨v', rfl, hk⟩ := hR e w' hr
  exact hk

theorem map_sound {args : Array Operand} {as : List AOpd} (hc : copds args.toList = some as) (ht : TRk E.rl m t a (as.flatMap opdT)) : LR E.rl m (as.map (opd t)) (args.map a.eval) :=
  copds_arr hc ht

theorem compK_call {P : Program} {op : Op} {k : Kind} (hic : isCall k = true) (hk : compK P op = some k) :
    ∃ cal args ats as, op = .call ⟨cal, args, ats⟩ ∧ copds args.toList = some as ∧ ((∃ f, cal = .value (.func f) ∧ k = .call f as) ∨ (∃ n, cal = .value (.tmp n) ∧ k = .callv (.t n) as) ∨ ∃ rc name x, cal = .invoke rc name ∧ copd rc = some x ∧ k = .calli (c_rows P name) x as) := by
  by_cases hp : pureOp op = true
  · obtain ⟨k', rfl⟩ := compK_pure hp hk
    cases hic
  · cases op <;> simp only [pureOp, not_true_eq_false] at hp
    case convert src dst x =>
      rcases conv_cases hk with ⟨k', rfl⟩ | ⟨e, x', rfl, hs1, hs2, hs3, hx⟩
      · cases hic
      · cases hic
    case load ty x =>
      simp only [compK, bind, Option.bind_eq_some_iff, Option.some.injEq] at hk
      obtain ⟨ag, hag, n, hn, x', hx, rfl⟩ := hk
      cases hic
    case alloc e =>
      simp only [compK, Option.map_eq_some_iff] at hk
      obtain ⟨z, hz, rfl⟩ := hk
      cases hic
    case box e x =>
      simp only [compK, bind, Option.bind_eq_some_iff, Option.some.injEq] at hk
      obtain ⟨n, hn, x', hx, rfl⟩ := hk
      cases hic
    case buildSlice ty n parts =>
      simp only [compK, c_bsl] at hk
      split at hk
      · simp only [bind, Option.bind_eq_some_iff] at hk
        obtain ⟨z, hz, s, hsz, ps, hps, hk⟩ := hk
        split at hk
        · cases hk; cases hic
        · cases hk
      · cases hk
    case store ty x y =>
      simp only [compK, bind, Option.bind_eq_some_iff, Option.some.injEq] at hk
      obtain ⟨n, hn, x', hx, y', hy, rfl⟩ := hk
      cases hic
    case makeSlice ty l c =>
      simp only [compK, c_mk] at hk
      split at hk
      · simp only [bind, Option.bind_eq_some_iff] at hk
        obtain ⟨s, hsz, hk⟩ := hk
        split at hk
        · cases hk
        · simp only [Option.bind_eq_some_iff, Option.some.injEq] at hk
          obtain ⟨by_, hby, z, hz, l', hl, c', hc, rfl⟩ := hk
          cases hic
      · cases hk
    case makeMap t r =>
      simp only [compK, c_mkm] at hk
      split at hk
      · cases hk; cases hic
      · cases hk
    case lookup t x k ok =>
      simp only [compK, c_mlk] at hk
      split at hk
      · split at hk
        · simp only [bind, Option.bind_eq_some_iff, Option.some.injEq] at hk
          obtain ⟨z, hz, x', hx, k', hkk, rfl⟩ := hk
          cases hic
        · cases hk
      · cases hk
    case mapUpdate t x k v =>
      simp only [compK, c_mup] at hk
      split at hk
      · split at hk
        · simp only [bind, Option.bind_eq_some_iff, Option.some.injEq] at hk
          obtain ⟨x', hx, k', hkk, v', hvv, rfl⟩ := hk
          cases hic
        · cases hk
      · cases hk
    case call c =>
      obtain ⟨cal, args, ats⟩ := c
      simp only [compK, c_call] at hk
      split at hk
      · simp only [c_len] at hk
        split at hk
        · split at hk
          · split at hk
            · simp only [bind, Option.bind_eq_some_iff, Option.some.injEq] at hk; obtain ⟨_, _, rfl⟩ := hk; cases hic
            · simp only [bind, Option.bind_eq_some_iff, Option.some.injEq] at hk; obtain ⟨_, _, rfl⟩ := hk; cases hic
            · cases hk
          · cases hk
        · cases hk
      · simp only [c_app] at hk
        split at hk
        · split at hk
          · split at hk
            · split at hk
              · simp only [bind, Option.bind_eq_some_iff] at hk
                obtain ⟨s, hsz, hk⟩ := hk
                split at hk
                · cases hk
                · simp only [Option.bind_eq_some_iff, Option.some.injEq] at hk
                  obtain ⟨by_, hby, z, hz, x', hx, y', hy, rfl⟩ := hk
                  cases hic
              · cases hk
            · cases hk
          · cases hk
        · cases hk
      · simp only [c_mx] at hk
        split at hk
        · simp only [bind, Option.bind_eq_some_iff, Option.some.injEq] at hk; obtain ⟨_, _, _, _, rfl⟩ := hk; cases hic
        · simp only [bind, Option.bind_eq_some_iff, Option.some.injEq] at hk; obtain ⟨_, _, _, _, _, _, rfl⟩ := hk; cases hic
        · cases hk
      · simp only [c_mx] at hk
        split at hk
        · simp only [bind, Option.bind_eq_some_iff, Option.some.injEq] at hk; obtain ⟨_, _, _, _, rfl⟩ := hk; cases hic
        · simp only [bind, Option.bind_eq_some_iff, Option.some.injEq] at hk; obtain ⟨_, _, _, _, _, _, rfl⟩ := hk; cases hic
        · cases hk
      · simp only [c_cpy] at hk
        split at hk
        · split at hk
          · split at hk
            · split at hk
              · simp only [bind, Option.bind_eq_some_iff, Option.some.injEq] at hk; obtain ⟨_, _, _, _, _, _, rfl⟩ := hk; cases hic
              · cases hk
            · cases hk
          · cases hk
        · cases hk
      · simp only [bind, Option.bind_eq_some_iff, Option.some.injEq] at hk
        obtain ⟨as, has, rfl⟩ := hk
        exact ⟨_, args, ats, as, rfl, has, .inl ⟨_, rfl, rfl⟩⟩
      · simp only [bind, Option.bind_eq_some_iff, Option.some.injEq] at hk
        obtain ⟨as, has, rfl⟩ := hk
        exact ⟨_, args, ats, as, rfl, has, .inr (.inl ⟨_, rfl, rfl⟩)⟩
      · simp only [bind, Option.bind_eq_some_iff, Option.some.injEq] at hk
        obtain ⟨x, hx, as, has, rfl⟩ := hk
        exact ⟨_, args, ats, as, rfl, has, .inr (.inr ⟨_, _, _, rfl, hx, rfl⟩)⟩
      · cases hk
    all_goals (simp [compK] at hk)

/-- an operation -/
theorem op_wp {k : Kind} (hE : E.Ok) (hcall : CallOk E call) (hr : HR E m st.h w) (ht : TRk E.rl m st.t a k.looks) (hk : compK E.P o.op = some k) (hs : stepC call E.ro st k = some (v, st'))
    (hK : st'.t = st.t → ∀ v' m' w', VR E.rl m' v v' → Tn E m st.h st.lw st.lp w m' st'.h st'.lw st'.lp w' → K (a.put o.dst v') w') : o.wp E.P a w K Q := by
  cases hic : isCall k
  · rw [isCall_stepK hic] at hs
    obtain ⟨htt, v', w', m', hg, hv, T⟩ := stepK_sound (m := m) (w := w) hE hr hk ht hs
    have := hK htt v' m' w' hv T
    unfold Oper.wp
    rcases hg with hg | ⟨hg, rfl⟩
    · rw [hg]; exact this
    · rw [hg]; exact this
  · -- a call
    obtain ⟨cal, args, ats, as, hop, has, hc⟩ := compK_call hic hk
    rcases hc with ⟨f, rfl, rfl⟩ | ⟨n, rfl, rfl⟩ | ⟨rc, name, x, rfl, hrc, rfl⟩
    · simp only [stepC] at hs
      split at hs
      · rename_i u h' lw lp hcl
        cases hs
        obtain ⟨henter, hcalls⟩ := hcall _ _ _ _ _ _ _ hcl
        have hl := map_sound has ht
        have hrun : (execOp a.eval o).run E.P w = .ok (.enter f (args.map a.eval)) w := by
          have ef : a.eval (.func f) = .func (.func f) #[] #[] := rfl
          simp [execOp, hop, resolve, ef, Deferred.ofValue, invoke, henter]
        exact enter_wp hrun (hcalls m w _ hr hl) fun e w' ⟨v', e1, m', hv, T⟩ => ⟨v', e1, hK rfl v' m' w' hv T.relax⟩
      · cases hs
    · have rx : VR E.rl m (opd st.t (.t n)) (a.eval (.tmp n)) := copd_sound (x := .tmp n) rfl (ht.mem fun k hk => by simp only [Kind.looks, List.mem_append]; exact .inl hk)
      have ta : TRk E.rl m st.t a (as.flatMap opdT) := ht.mem fun k hk => by simp only [Kind.looks, List.mem_append]; exact .inr hk
      simp only [stepC] at hs
      split at hs
      · rename_i f fs cs ex
        split at hs
        · rename_i u h' lw lp hcl
          cases hs
          obtain ⟨henter, hcalls⟩ := hcall _ _ _ _ _ _ _ hcl
          rw [ex] at rx
          obtain ⟨f', c', e', l1, l2, r1, r2⟩ := rx.inv_fn
          have hl0 := map_sound has ta
          have hl : LR E.rl m (fs ++ as.map (opd st.t) ++ cs) (f' ++ args.map a.eval ++ c') := (LR.app (LR.app ⟨l1, r1⟩ hl0) ⟨l2, r2⟩)
          have hrun : (execOp a.eval o).run E.P w = .ok (.enter f (f' ++ args.map a.eval ++ c')) w := by
            simp [execOp, hop, resolve, e', Deferred.ofValue, invoke, henter]
          exact enter_wp hrun (hcalls m w _ hr hl) fun e w' ⟨v', e1, m', hv, T⟩ => ⟨v', e1, hK rfl v' m' w' hv T.relax⟩
        · cases hs
      · cases hs
    · have rx : VR E.rl m (opd st.t x) (a.eval rc) := copd_sound hrc (ht.mem fun k hk => by simp only [Kind.looks, List.mem_append]; exact .inl hk)
      have ta : TRk E.rl m st.t a (as.flatMap opdT) := ht.mem fun k hk => by simp only [Kind.looks, List.mem_append]; exact .inr hk
      simp only [stepC] at hs
      split at hs
      · rename_i f r hg
        split at hs
        · rename_i u h' lw lp hcl
          cases hs
          obtain ⟨henter, hcalls⟩ := hcall _ _ _ _ _ _ _ hcl
          obtain ⟨ty, u', r', e', hm, hr'⟩ := mget_sound rx hg
          have hl : LR E.rl m (r :: as.map (opd st.t)) (#[r'] ++ args.map a.eval) := by
            have := LR.app (x := [r]) (x' := #[r']) ⟨rfl, fun i v hv => by
              cases i with
              | zero => simp at hv; subst hv; exact hr'
              | succ i => simp at hv⟩ (map_sound has ta)
            simpa using this
          have hrun : (execOp a.eval o).run E.P w = .ok (.enter f (#[r'] ++ args.map a.eval)) w := by
            have e2 : (#[Value.iface ty u'] ++ args.map a.eval)[0]? = some (Value.iface ty u') := by simp [Array.getElem?_append]
            have e3 : (#[Value.iface ty u'] ++ args.map a.eval).extract 1 (#[Value.iface ty u'] ++ args.map a.eval).size = args.map a.eval := by
              apply Array.toList_inj.1
              simp [List.take_of_length_le]
            obtain ⟨d, hd⟩ : ∃ d, E.P.types.size + Made.depth = d + 1 := ⟨E.P.types.size + (Made.depth - 1), by unfold Made.depth; omega⟩
            simp only [execOp, hop, resolve, e', Sem.run_bind, Sem.run_pure, Result.andThen_ok, invoke, e2, e3, callMethod, run_program, hd, hm, henter]
          exact enter_wp hrun (hcalls m w _ hr hl) fun e w' ⟨v', e1, m', hv, T⟩ => ⟨v', e1, hK rfl v' m' w' hv T.relax⟩
        · cases hs
      · cases hs

end
end Go.Vm

/- Code and calls: what the small machine runs, the model's does. -/
import Derived.Test.YtgbkicelkpagpaaVmS
import Derived.LoopN
import Derived.Tactics2
namespace Go.Vm
open Go.RowKit

def toE : AExit → Exit
  | .norm => .normal
  | .exit i => .exit i
  | .ret => .ret

/-- the functions of a table are the program's -/
def FOk (P : Program) (F : Nat → Option AFn) : Prop := ∀ f fn, F f = some fn → ∃ pf, P.funcs[f]? = some pf ∧ compF P pf = some fn

/-- regions whose order is open -/
def AnyOk (E : Env) : Prop := ∀ (F : Tab) (n : Nat), (∀ k, k ≤ n → CallOk E (callA F E.ro (exec F E.ro k))) → ∀ (id : Nat) (ops : Array Oper) (l : List AOp) (ac : ACode) (nt : Nat) (st : St) (e : AExit) (st' : St) (m : M) (a : Act) (w : World) (Q : Exit → Act → World → Prop),
  compL E.P ops ops.toList = some l → Region.noSelect ops = true → anyR E.P ops l = some ac → ac.in nt = true → exec F E.ro (n + 1) ac st = some (e, st') → HR E m st.h w → TRn E m st.t a nt → a.defers = [] →
  (∀ m' a' w', Tn E m st.h st.lw st.lp w m' st'.h st'.lw st'.lp w' → TRn E m' st'.t a' nt → a'.defers = [] → Q (toE e) a' w') → (Code.region id ops true).wp E.P Q a w

def CodePart (E : Env) (F : Tab) (n : Nat) : Prop := ∀ (c : Code) (ac : ACode) (st : St) (e : AExit) (st' : St) (nt : Nat) (m : M) (a : Act) (w : World) (Q : Exit → Act → World → Prop),
  compC E.P c = some ac → ac.in nt = true → exec F E.ro n ac st = some (e, st') → HR E m st.h w → TRn E m st.t a nt → a.defers = [] →
  (∀ m' a' w', Tn E m st.h st.lw st.lp w m' st'.h st'.lw st'.lp w' → TRn E m' st'.t a' nt → a'.defers = [] → Q (toE e) a' w') → c.wp E.P Q a w

def LoopPart (E : Env) (F : Tab) (n : Nat) : Prop := ∀ (c : Code) (ac : ACode) (st : St) (e : AExit) (st' : St) (nt : Nat) (m : M) (a : Act) (w : World) (Q : Exit → Act → World → Prop),
  compC E.P c = some ac → ac.in nt = true → exec F E.ro n (.loop ac) st = some (e, st') → HR E m st.h w → TRn E m st.t a nt → a.defers = [] →
  (∀ m' a' w', Tn E m st.h st.lw st.lp w m' st'.h st'.lw st'.lp w' → TRn E m' st'.t a' nt → a'.defers = [] → Q (toE e) a' w') → Code.rounds E.P c Q n a w

section
variable {E : Env} {F : Tab} {m : M} {h : Heap} {w : World}

theorem compF_inv {P : Program} {pf : Func} {fn : AFn} (h : compF P pf = some fn) : ∃ c, pf.body = some c ∧ compRes P pf.results.toList = some fn.res ∧ compC P c = some fn.body ∧ fn.nt = pf.ntmps ∧
    fn.body.in fn.nt = true ∧ fn.res.all (ARes.in fn.nt) = true ∧ (pf.name == "runtime.NumGoroutine") = false := by
  unfold compF at h
  split at h
  · rename_i c hb
    split at h
    · rename_i r b h1 h2
      split at h
      · rename_i hc
        cases h
        simp only [Bool.and_eq_true, Bool.not_eq_true'] at hc
        exact ⟨c, hb, h1, h2, rfl, hc.1.1, hc.1.2, hc.2⟩
      · cases h
    · cases h
  · cases h

/-- a result -/
def resOne (tmps : Array Value) : ResultVar → Sem Value
  | .tmp t => pure (tmps.getD t undef)
  | .cell a t => do loadVar t (← asAddr (tmps.getD a undef))

theorem res_sound (hE : E.Ok) (hr : HR E m h w) {st : St} (hh : st.h = h) {a : Act} {nt : Nat} (ht : TRn E m st.t a nt) : ∀ {l : List ResultVar} {rs : List ARes} {vs : List AVal}, compRes E.P l = some rs → rs.all (ARes.in nt) = true →
    resAs E.ro st rs = some vs → ∃ vs' : List Value, (l.mapM (resOne a.tmps)).run E.P w = .ok vs' w ∧ vs.length = vs'.length ∧ ∀ (i : Nat) (v : AVal), vs[i]? = some v → VR E.rl m v (vs'.getD i undef)
  | [], rs, vs, hc, _, hv => by cases hc; cases hv; exact ⟨[], rfl, rfl, by simp⟩
  | .tmp t :: l, rs, vs, hc, hin, hv => by
    simp only [compRes, Option.map_eq_some_iff] at hc
    obtain ⟨rs', hc', rfl⟩ := hc
    simp only [List.all_cons, Bool.and_eq_true] at hin
    simp only [resAs, resA] at hv
    split at hv
    · rename_i vs1 h1
      cases hv
      obtain ⟨vs', k1, k2, k3⟩ := res_sound hE hr hh ht hc' hin.2 h1
      have htl : t < nt := by have := hin.1; simpa [ARes.in, Nat.blt_eq] using this
      refine ⟨a.tmps.getD t undef :: vs', ?_, by simp [k2], fun i v hi => ?_⟩
      · simp only [List.mapM_cons, Sem.run_bind, resOne, Sem.run_pure, Result.andThen_ok, k1]
      · cases i with
        | zero => simp at hi; subst hi; simpa using ht.2 t htl
        | succ i => simpa using k3 i v (by simpa using hi)
    · cases hv
  | .cell s t :: l, rs, vs, hc, hin, hv => by
    simp only [compRes] at hc
    split at hc
    · rename_i ag n rs' hag hn hc'
      cases hc
      simp only [List.all_cons, Bool.and_eq_true] at hin
      simp only [resAs, resA] at hv
      have hsl : s < nt := by have := hin.1; simpa [ARes.in, Nat.blt_eq] using this
      have hp := ht.2 s hsl
      split at hv
      · rename_i u hu
        split at hu
        · rename_i q eq
          split at hv
          · rename_i vs1 h1
            cases hv
            obtain ⟨vs', k1, k2, k3⟩ := res_sound hE hr hh ht hc' hin.2 h1
            rw [eq] at hp
            obtain ⟨p, e', hpa⟩ := hp.inv_p
            rw [hh] at hu
            obtain ⟨v', r1, r2⟩ := rd_sound hE hr hpa hag hn hu
            refine ⟨v' :: vs', ?_, by simp [k2], fun i v hi => ?_⟩
            · simp only [List.mapM_cons, Sem.run_bind, resOne, e', asAddr, Sem.run_pure, Result.andThen_ok, r1, k1]
            · cases i with
              | zero => simp at hi; subst hi; simpa using r2
              | succ i => simpa using k3 i v (by simpa using hi)
          · cases hv
        · cases hu
      · cases hv
    · cases hc

theorem results_sound (hE : E.Ok) {st : St} (hr : HR E m st.h w) {a : Act} {nt : Nat} (ht : TRn E m st.t a nt) {pf : Func} {rs : List ARes} {vs : List AVal} (hc : compRes E.P pf.results.toList = some rs) (hin : rs.all (ARes.in nt) = true)
    (hv : resAs E.ro st rs = some vs) : ∃ v', (results pf a.tmps).run E.P w = .ok v' w ∧ VR E.rl m (tupA vs) v' := by
  obtain ⟨vs', k1, k2, k3⟩ := res_sound hE hr rfl ht hc hin hv
  have hm : (pf.results.mapM (resOne a.tmps)).run E.P w = .ok vs'.toArray w := by
    rcases hpr : pf.results with ⟨rl⟩
    rw [hpr] at k1
    rw [List.mapM_toArray]
    simp only [Sem.run_map]
    rw [k1]; rfl
  have hrun : (results pf a.tmps).run E.P w = .ok (if h : vs'.toArray.size = 1 then vs'.toArray[0] else .tuple vs'.toArray) w := by
    have : results pf a.tmps = (do let vs ← pf.results.mapM (resOne a.tmps); pure (if h : vs.size = 1 then vs[0] else .tuple vs)) := by
      unfold results
      congr 1
    rw [this]
    simp only [Sem.run_bind, hm, Result.andThen_ok, Sem.run_pure]
  refine ⟨_, hrun, ?_⟩
  match vs, vs', k2, k3 with
  | [], [], _, _ => exact .tup [] #[] rfl (by simp)
  | [v], [v'], _, k3 => simpa [tupA] using k3 0 v (by simp)
  | v1 :: v2 :: vs, u1 :: u2 :: us, k2, k3 =>
    have : ¬ ((u1 :: u2 :: us).toArray.size = 1) := by simp
    rw [dif_neg this]
    exact .tup _ _ (by simpa using k2) fun i v hi => by
      have := k3 i v hi
      simpa [Array.getD_eq_getD_getElem?, List.getD] using this

/-- calls, by what the code does -/
theorem call_part (hE : E.Ok) (hF : FOk E.P F.fn) (hO : CallOk E F.ov) {n : Nat} (hcode : CodePart E F n) : CallOk E (callA F E.ro (exec F E.ro n)) := by
  intro f args h v h2 lw lp hcl
  unfold callA at hcl
  split at hcl
  · rename_i r hr
    cases hcl
    exact hO _ _ _ _ _ _ _ hr
  split at hcl
  · cases hcl
  · rename_i fn hfn
    split at hcl
    · cases hcl
    · rename_i hlen
      obtain ⟨pf, hpf, hcf⟩ := hF f fn hfn
      obtain ⟨c, hb, hres, hcc, hnt, hin, hrin, hname⟩ := compF_inv hcf
      refine ⟨fun args' w => ?_, fun m w args' hr hl => ?_⟩
      · have hne : ¬ (pf.name = "runtime.NumGoroutine") := by simpa using hname
        simp [callFunc, hpf, hne, hb]
      · split at hcl
        · cases hcl
        · rename_i e st' hx hex
          split at hcl
          · rename_i vs hvs
            simp only [Option.some.injEq] at hcl
            have hle : args.length ≤ fn.nt := by simpa using hlen
            refine calls_of_wp hpf hb ?_
            have hsz : args'.size = args.length := hl.1.symm
            have ht0 : TRn E m (Tr.mk args) { tmps := args' ++ Array.replicate (pf.ntmps - args'.size) undef, defers := [] } fn.nt := by
              refine ⟨by simp [hnt] at hle ⊢; omega, fun i hi => ?_⟩
              rw [get_mk]
              by_cases hlt : i < args.length
              · have := hl.2 i args[i] (List.getElem?_eq_getElem hlt)
                have hi2 : i < args'.size := by omega
                simpa [Array.getD_eq_getD_getElem?, Array.getElem?_append_left hi2, hlt] using this
              · have h1 : args[i]? = none := List.getElem?_eq_none (by omega)
                have h2 : (args' ++ Array.replicate (pf.ntmps - args'.size) undef).getD i undef = undef := by
                  rw [Array.getD_eq_getD_getElem?, Array.getElem?_append_right (by omega)]
                  simp [Array.getElem?_replicate]
                  split <;> rfl
                simp only
                rw [h2]
                simpa [List.getD, h1] using VR.und E.rl m
            refine hcode c fn.body _ e st' fn.nt m _ w _ hcc hin hex hr ht0 rfl fun m' a' w' T ht' hd' => ?_
            obtain ⟨v', r1, r2⟩ := results_sound hE T.hr ht' hres hrin hvs
            obtain ⟨hveq, m2, g1, g2⟩ := gc_sound hr T r2 hcl
            have post : bodyPost E.P pf (fun e w' => ∃ v', e = Ending.returned v' ∧ ∃ m', VR E.rl m' v v' ∧ Tn E m h h.length h.length w m' h2 lw lp w') .normal a' w' :=
              ⟨hd', v', r1, v', rfl, m2, by rw [hveq]; exact g1, g2⟩
            cases e with
            | norm => exact post
            | ret => exact post
            | exit i => exact (hx i rfl).elim
          · cases hcl
        · cases hcl

theorem code_zero : CodePart E F 0 := fun c ac st e st' nt m a w Q _ _ h => by simp [exec] at h
theorem loop_zero : LoopPart E F 0 := fun c ac st e st' nt m a w Q _ _ h => by simp [exec] at h

theorem exit_noPanic {Q : Exit → Act → World → Prop} {c : Code} {P : Program} {a : Act} {w : World}
    (h : c.wp P (fun e a w => match e with | .normal => Q .normal a w | _ => False) a w) : c.wp P Q a w :=
  Code.wp_mono (fun e a w q => by cases e <;> first | exact q | exact q.elim) h

theorem stuck_none {ro : List ABlk} {n : Nat} {st : St} : exec F ro n stuckA st = none := by
  cases n with
  | zero => rfl
  | succ n => rfl

theorem code_succ (hE : E.Ok) (hm : E.P.follows .mixedOrders = true) (hA : AnyOk E) {n : Nat} (hcalls : ∀ k, k ≤ n → CallOk E (callA F E.ro (exec F E.ro k))) (hn : CodePart E F n) (hl : LoopPart E F n) : CodePart E F (n + 1) := by
  intro c ac st e st' nt m a w Q hc hin hx hr ht hd hQ
  have hcall := hcalls n (Nat.le_refl _)
  cases c with
  | skip =>
    cases hc
    simp only [exec, Option.some.injEq, Prod.mk.injEq] at hx
    obtain ⟨rfl, rfl⟩ := hx
    exact wp_skip (hQ m a w (Tn.refl hr _ _) ht hd)
  | label l =>
    cases hc
    simp only [exec, Option.some.injEq, Prod.mk.injEq] at hx
    obtain ⟨rfl, rfl⟩ := hx
    exact wp_label (hQ m a w (Tn.refl hr _ _) ht hd)
  | region id ops draw =>
    simp only [compC, Option.some.injEq] at hc
    cases hcr : compR E.P ops draw with
    | none =>
      rw [hcr] at hc
      subst hc
      rw [stuck_none] at hx
      cases hx
    | some ac' =>
    rw [hcr] at hc
    simp only at hc
    subst hc
    have hc := hcr
    have hc0 := hc
    unfold compR at hc
    split at hc
    · cases hc
    · rename_i l hl0
      split at hc
      · rename_i hdr
        cases hc
        simp only [Bool.not_eq_true'] at hdr
        subst hdr
        simp only [exec] at hx
        split at hx
        · rename_i st1 h1
          simp only [Option.some.injEq, Prod.mk.injEq] at hx
          obtain ⟨rfl, rfl⟩ := hx
          exact wp_region_list (list_wp (nt := nt) hE hcall ops.toList l st st1 m a w hl0 hin h1 hr ht hd hQ)
        · cases hx
      · rename_i hdr
        have hdr : draw = true := by simpa using hdr
        subst hdr
        split at hc
        · cases hc
        · rename_i hns
          have hns : Region.noSelect ops = true := by simpa using hns
          split at hc
          · rename_i s hs
            cases hc
            simp only [exec] at hx
            split at hx
            · rename_i st1 h1
              simp only [Option.some.injEq, Prod.mk.injEq] at hx
              obtain ⟨rfl, rfl⟩ := hx
              refine exit_noPanic (wp_region_any hm ?_)
              have := sched_wp (nt := nt) hE hcall hns hl0 (Q := fun e a w => match e with | .normal => Q .normal a w | _ => False) (fun _ _ _ h => h) ops.size (Array.replicate ops.size false) s st st1 m a w.drew hs hin h1 hr.drew ht hd
                (fun m' a' w' T ht' hd' => hQ m' a' w' (Tn.trans hr (Tn.drew hr _ _) T) ht' hd')
              exact this
            · cases hx
          · exact hA F n hcalls id ops l ac' nt st e st' m a w Q hl0 hns hc hin hx hr ht hd hQ
  | seq x y =>
    simp only [compC] at hc
    split at hc
    · rename_i ax ay h1 h2
      cases hc
      simp only [ACode.in, Bool.and_eq_true] at hin
      simp only [exec] at hx
      refine wp_seq ?_
      split at hx
      · rename_i st1 hx1
        refine hn x ax st .norm st1 nt m a w _ h1 hin.1 hx1 hr ht hd fun m' a' w' T ht' hd' => ?_
        exact hn y ay st1 e st' nt m' a' w' Q h2 hin.2 hx T.hr ht' hd' fun m2 a2 w2 T2 ht2 hd2 => hQ m2 a2 w2 (Tn.trans hr T T2) ht2 hd2
      · rename_i r hne
        have hx1 : exec F E.ro n ax st = some (e, st') := hx
        refine hn x ax st e st' nt m a w _ h1 hin.1 hx1 hr ht hd fun m' a' w' T ht' hd' => ?_
        cases e with
        | norm => exact (hne st' hx1).elim
        | exit i => exact hQ m' a' w' T ht' hd'
        | ret => exact hQ m' a' w' T ht' hd'
    · cases hc
  | cond x c1 c2 =>
    simp only [compC] at hc
    split at hc
    · rename_i ax a1 a2 h0 h1 h2
      cases hc
      simp only [ACode.in, Bool.and_eq_true] at hin
      simp only [exec] at hx
      have hv := copd_sound h0 (rl := E.rl) (m := m) (t := st.t) (a := a) (ht.trk fun k hk => by
        have := (List.all_eq_true.1 hin.1.1) k hk
        rwa [Nat.blt_eq] at this)
      split at hx
      · rename_i e1
        rw [e1] at hv
        exact wp_cond_true hv.inv_b (hn c1 a1 st e st' nt m a w Q h1 hin.1.2 hx hr ht hd hQ)
      · rename_i e1
        rw [e1] at hv
        exact wp_cond_false hv.inv_b (hn c2 a2 st e st' nt m a w Q h2 hin.2 hx hr ht hd hQ)
      · cases hx
    · cases hc
      rw [stuck_none] at hx
      cases hx
  | block id x =>
    simp only [compC, Option.map_eq_some_iff] at hc
    obtain ⟨ax, h1, rfl⟩ := hc
    simp only [ACode.in] at hin
    simp only [exec] at hx
    refine wp_block ?_
    split at hx
    · rename_i i st1 hx1
      refine hn x ax st (.exit i) st1 nt m a w _ h1 hin hx1 hr ht hd fun m' a' w' T ht' hd' => ?_
      show Exit.inBlock id Q (.exit i) a' w'
      simp only [Exit.inBlock]
      split at hx
      · rename_i hid
        simp only [Option.some.injEq, Prod.mk.injEq] at hx
        obtain ⟨rfl, rfl⟩ := hx
        rw [if_pos hid]
        exact hQ m' a' w' T ht' hd'
      · rename_i hid
        simp only [Option.some.injEq, Prod.mk.injEq] at hx
        obtain ⟨rfl, rfl⟩ := hx
        rw [if_neg hid]
        exact hQ m' a' w' T ht' hd'
    · rename_i r hne
      refine hn x ax st e st' nt m a w _ h1 hin hx hr ht hd fun m' a' w' T ht' hd' => ?_
      cases e with
      | norm => exact hQ m' a' w' T ht' hd'
      | exit i => exact (hne i st' hx).elim
      | ret => exact hQ m' a' w' T ht' hd'
  | loop x =>
    simp only [compC, Option.map_eq_some_iff] at hc
    obtain ⟨ax, h1, rfl⟩ := hc
    simp only [ACode.in] at hin
    refine wp_loop_rounds (n + 1) ?_
    rw [rounds_succ]
    simp only [exec] at hx
    split at hx
    · rename_i st1 hx1
      refine hn x ax st .norm st1 nt m a w _ h1 hin hx1 hr ht hd fun m' a' w' T ht' hd' => ?_
      exact hl x ax st1 e st' nt m' a' w' Q h1 hin hx T.hr ht' hd' fun m2 a2 w2 T2 ht2 hd2 => hQ m2 a2 w2 (Tn.trans hr T T2) ht2 hd2
    · rename_i r hne
      refine hn x ax st e st' nt m a w _ h1 hin hx hr ht hd fun m' a' w' T ht' hd' => ?_
      cases e with
      | norm => exact (hne st' hx).elim
      | exit i => exact hQ m' a' w' T ht' hd'
      | ret => exact hQ m' a' w' T ht' hd'
  | exit i =>
    cases hc
    simp only [exec, Option.some.injEq, Prod.mk.injEq] at hx
    obtain ⟨rfl, rfl⟩ := hx
    exact wp_exit (hQ m a w (Tn.refl hr _ _) ht hd)
  | ret =>
    cases hc
    simp only [exec, Option.some.injEq, Prod.mk.injEq] at hx
    obtain ⟨rfl, rfl⟩ := hx
    exact wp_ret (hQ m a w (Tn.refl hr _ _) ht hd)
  | _ =>
    simp only [compC, Option.some.injEq] at hc
    subst hc
    rw [stuck_none] at hx
    cases hx

theorem loop_succ {n : Nat} (hn : CodePart E F n) (hl : LoopPart E F n) : LoopPart E F (n + 1) := by
  intro x ax st e st' nt m a w Q h1 hin hx hr ht hd hQ
  rw [rounds_succ]
  simp only [exec] at hx
  split at hx
  · rename_i st1 hx1
    refine hn x ax st .norm st1 nt m a w _ h1 hin hx1 hr ht hd fun m' a' w' T ht' hd' => ?_
    exact hl x ax st1 e st' nt m' a' w' Q h1 hin hx T.hr ht' hd' fun m2 a2 w2 T2 ht2 hd2 => hQ m2 a2 w2 (Tn.trans hr T T2) ht2 hd2
  · rename_i r hne
    refine hn x ax st e st' nt m a w _ h1 hin hx hr ht hd fun m' a' w' T ht' hd' => ?_
    cases e with
    | norm => exact (hne st' hx).elim
    | exit i => exact hQ m' a' w' T ht' hd'
    | ret => exact hQ m' a' w' T ht' hd'

theorem exec_sound (hE : E.Ok) (hm : E.P.follows .mixedOrders = true) (hA : AnyOk E) (hF : FOk E.P F.fn) (hO : CallOk E F.ov) : ∀ n k, k ≤ n → CodePart E F k ∧ LoopPart E F k
  | 0, k, hk => by
    obtain rfl : k = 0 := by omega
    exact ⟨code_zero, loop_zero⟩
  | n + 1, k, hk => by
    have ih := exec_sound hE hm hA hF hO n
    rcases Nat.lt_or_ge n k with h | h
    · obtain rfl : k = n + 1 := by omega
      obtain ⟨h1, h2⟩ := ih n (Nat.le_refl _)
      exact ⟨code_succ hE hm hA (fun k hk => call_part hE hF hO (ih k hk).1) h1 h2, loop_succ h1 h2⟩
    · exact ih k h

/-- WHAT THE SMALL MACHINE ANSWERS, THE MODEL's CALL ANSWERS -/
theorem call_sound (hE : E.Ok) (hm : E.P.follows .mixedOrders = true) (hA : AnyOk E) (hF : FOk E.P F.fn) (hO : CallOk E F.ov) (n : Nat) : CallOk E (callA F E.ro (exec F E.ro n)) :=
  call_part hE hF hO (exec_sound hE hm hA hF hO n n (Nat.le_refl _)).1

end
end Go.Vm

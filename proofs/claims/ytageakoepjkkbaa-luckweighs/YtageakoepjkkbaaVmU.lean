/- Code and calls: what the small machine runs, the model's does. -/
import Derived.Test.YtageakoepjkkbaaVmSY
import Derived.LoopN
import Derived.Tactics2
namespace Go.Vm
open Go.RowKit

def toE : AExit → Exit
  | .norm => .normal
  | .exit i => .exit i
  | .ret => .ret

/-- the functions of a table are the program's -/
def FOk (P : Program) (F : Nat → Option AFn) : Prop := ∀ f fn, F f = some fn → ∃ pf, P.funcs[f]? = some pf ∧ compF P pf = some fn

/-- regions whose order is open -/
def AnyOk (E : Env) : Prop := ∀ (F : Tab) (n : Nat), (∀ k, k ≤ n → CallOk E (callA F E.ro (exec F E.ro k))) → ∀ (ops : Array Oper) (l : List AOp) (ac : ACode) (nt : Nat) (st : St) (e : AExit) (st' : St) (m : M) (a : Act) (w : World) (Q : Exit → Act → World → Prop) (ds : List Deferred),
  compL E.P ops ops.toList = some l → Region.noSelect ops = true → anyR E.P ops l = some ac → ac.in nt = true → exec F E.ro (n + 1) ac st = some (e, st') → HR E m st.h w → TRn E m st.t a nt → a.defers = ds →
  (∀ m' a' w', Tn E m st.h st.lw st.lp w m' st'.h st'.lw st'.lp w' → TRn E m' st'.t a' nt → a'.defers = ds → Q (toE e) a' w') → wpAny E.P .any ops (normQ Q) ops.size (Array.replicate ops.size false) a w.drew

def CodeOne (E : Env) (F : Tab) (n : Nat) (c : Code) : Prop := ∀ (r : Option Nat) (B0 : Nat) (ac : ACode) (st : St) (e : AExit) (st' : St) (nt : Nat) (m : M) (a : Act) (w : World) (Q : Exit → Act → World → Prop),
  (r = none ∨ ac.flat = true) → B0 ≤ w.heap.size → compC E.P c = some ac → ac.in nt = true → exec F E.ro n ac st = some (e, st') → HR E m st.h w → TRn E m st.t a nt → Mk B0 m st.h w a.defers →
  (∀ m' a' w', Tn E m st.h st.lw st.lp w m' st'.h st'.lw st'.lp w' → TRn E m' st'.t a' nt → Mk B0 m' st'.h w' a'.defers → Q (toE e) a' w') → c.wpIn (FW r) 0 E.P Q a w
def CodePart (E : Env) (F : Tab) (n : Nat) : Prop := ∀ c, CodeOne E F n c

def LoopPart (E : Env) (F : Tab) (n : Nat) : Prop := ∀ (r : Option Nat) (B0 : Nat) (c : Code) (ac : ACode) (st : St) (e : AExit) (st' : St) (nt : Nat) (m : M) (a : Act) (w : World) (Q : Exit → Act → World → Prop),
  (r = none ∨ ac.flat = true) → B0 ≤ w.heap.size → compC E.P c = some ac → ac.in nt = true → exec F E.ro n (.loop ac) st = some (e, st') → HR E m st.h w → TRn E m st.t a nt → Mk B0 m st.h w a.defers →
  (∀ m' a' w', Tn E m st.h st.lw st.lp w m' st'.h st'.lw st'.lp w' → TRn E m' st'.t a' nt → Mk B0 m' st'.h w' a'.defers → Q (toE e) a' w') → Code.roundsIn (FW r) 0 E.P c Q n a w

theorem flat_and {a b : Bool} (h : (a && b) = true) : a = true ∧ b = true := by simpa using h

section
variable {E : Env} {F : Tab} {m : M} {h : Heap} {w : World}

theorem compF_inv {P : Program} {pf : Func} {fn : AFn} (h : compF P pf = some fn) : ∃ c, pf.body = some c ∧ compRes P pf.results.toList = some fn.res ∧ compC P c = some fn.body ∧ fn.nt = pf.ntmps ∧
    fn.body.in fn.nt = true ∧ fn.res.all (ARes.in fn.nt) = true ∧ (pf.name == "runtime.NumGoroutine") = false := by
  unfold compF at h
  split at h
  · rename_i c hb
    split at h
    · rename_i r b h1 h2
      split at h
      · rename_i hc
        cases h
        simp only [Bool.and_eq_true, Bool.not_eq_true'] at hc
        exact ⟨c, hb, h1, h2, rfl, hc.1.1, hc.1.2, hc.2⟩
      · cases h
    · cases h
  · cases h

/-- a result -/
def resOne (tmps : Array Value) : ResultVar → Sem Value
  | .tmp t => pure (tmps.getD t undef)
  | .cell a t => do loadVar t (← asAddr (tmps.getD a undef))

theorem res_sound (hE : E.Ok) (hr : HR E m h w) {st : St} (hh : st.h = h) {a : Act} {nt : Nat} (ht : TRn E m st.t a nt) : ∀ {l : List ResultVar} {rs : List ARes} {vs : List AVal}, compRes E.P l = some rs → rs.all (ARes.in nt) = true →
    resAs E.ro st rs = some vs → ∃ vs' : List Value, (l.mapM (resOne a.tmps)).run E.P w = .ok vs' w ∧ vs.length = vs'.length ∧ ∀ (i : Nat) (v : AVal), vs[i]? = some v → VR E.rl m v (vs'.getD i undef)
  | [], rs, vs, hc, _, hv => by cases hc; cases hv; exact ⟨[], rfl, rfl, by simp⟩
  | .tmp t :: l, rs, vs, hc, hin, hv => by
    simp only [compRes, Option.map_eq_some_iff] at hc
    obtain ⟨rs', hc', rfl⟩ := hc
    simp only [List.all_cons, Bool.and_eq_true] at hin
    simp only [resAs, resA] at hv
    split at hv
    · rename_i vs1 h1
      cases hv
      obtain ⟨vs', k1, k2, k3⟩ := res_sound hE hr hh ht hc' hin.2 h1
      have htl : t < nt := by have := hin.1; simpa [ARes.in, Nat.blt_eq] using this
      refine ⟨a.tmps.getD t undef :: vs', ?_, by simp [k2], fun i v hi => ?_⟩
      · simp only [List.mapM_cons, Sem.run_bind, resOne, Sem.run_pure, Result.andThen_ok, k1]
      · cases i with
        | zero => simp at hi; subst hi; simpa using ht.2 t htl
        | succ i => simpa using k3 i v (by simpa using hi)
    · cases hv
  | .cell s t :: l, rs, vs, hc, hin, hv => by
    simp only [compRes] at hc
    split at hc
    · rename_i ag n rs' hag hn hc'
      cases hc
      simp only [List.all_cons, Bool.and_eq_true] at hin
      simp only [resAs, resA] at hv
      have hsl : s < nt := by have := hin.1; simpa [ARes.in, Nat.blt_eq] using this
      have hp := ht.2 s hsl
      split at hv
      · rename_i u hu
        split at hu
        · rename_i q eq
          split at hv
          · rename_i vs1 h1
            cases hv
            obtain ⟨vs', k1, k2, k3⟩ := res_sound hE hr hh ht hc' hin.2 h1
            rw [eq] at hp
            obtain ⟨p, e', hpa⟩ := hp.inv_p
            rw [hh] at hu
            obtain ⟨v', r1, r2⟩ := rd_sound hE hr hpa hag hn hu
            refine ⟨v' :: vs', ?_, by simp [k2], fun i v hi => ?_⟩
            · simp only [List.mapM_cons, Sem.run_bind, resOne, e', asAddr, Sem.run_pure, Result.andThen_ok, r1, k1]
            · cases i with
              | zero => simp at hi; subst hi; simpa using r2
              | succ i => simpa using k3 i v (by simpa using hi)
          · cases hv
        · cases hu
      · cases hv
    · cases hc

theorem results_sound (hE : E.Ok) {st : St} (hr : HR E m st.h w) {a : Act} {nt : Nat} (ht : TRn E m st.t a nt) {pf : Func} {rs : List ARes} {vs : List AVal} (hc : compRes E.P pf.results.toList = some rs) (hin : rs.all (ARes.in nt) = true)
    (hv : resAs E.ro st rs = some vs) : ∃ v', (results pf a.tmps).run E.P w = .ok v' w ∧ VR E.rl m (tupA vs) v' := by
  obtain ⟨vs', k1, k2, k3⟩ := res_sound hE hr rfl ht hc hin hv
  have hm : (pf.results.mapM (resOne a.tmps)).run E.P w = .ok vs'.toArray w := by
    rcases hpr : pf.results with ⟨rl⟩
    rw [hpr] at k1
    rw [List.mapM_toArray]
    simp only [Sem.run_map]
    rw [k1]; rfl
  have hrun : (results pf a.tmps).run E.P w = .ok (if h : vs'.toArray.size = 1 then vs'.toArray[0] else .tuple vs'.toArray) w := by
    have : results pf a.tmps = (do let vs ← pf.results.mapM (resOne a.tmps); pure (if h : vs.size = 1 then vs[0] else .tuple vs)) := by
      unfold results
      congr 1
    rw [this]
    simp only [Sem.run_bind, hm, Result.andThen_ok, Sem.run_pure]
  refine ⟨_, hrun, ?_⟩
  match vs, vs', k2, k3 with
  | [], [], _, _ => exact .tup [] #[] rfl (by simp)
  | [v], [v'], _, k3 => simpa [tupA] using k3 0 v (by simp)
  | v1 :: v2 :: vs, u1 :: u2 :: us, k2, k3 =>
    have : ¬ ((u1 :: u2 :: us).toArray.size = 1) := by simp
    rw [dif_neg this]
    exact .tup _ _ (by simpa using k2) fun i v hi => by
      have := k3 i v hi
      simpa [Array.getD_eq_getD_getElem?, List.getD] using this

/-- what is deferred are marks alone: they are come to, one after another -/
theorem leaves_mk (hE : E.Ok) (hr : HR E m h w) {n : Nat} {m' : M} {h' : Heap} {lw lp lw' lp' : Nat} {pf : Func} {tmps : Array Value} {R : Ending → World → Prop} (hres : ∀ w', Tn E m h lw lp w m' h' lw' lp' w' → ∃ v, (results pf tmps).run E.P w' = .ok v w' ∧ R (.returned v) w') :
    ∀ (Ds : List Nat) (w' : World), Ds.Nodup → (∀ D ∈ Ds, w.heap.size ≤ D ∧ w'.heap[D]? = some (.deferred (some [])) ∧ ∀ i b K, ¬ Live m' h' i b D K) → Tn E m h lw lp w m' h' lw' lp' w' →
      LeavesInM (FW none) n E.P pf tmps R (Ds.map fun D => { target := .collected D, args := #[] }) .returning w'
  | [], w', _, _, T => hres w' T
  | D :: Ds, w', hnd, hD, T => by
    obtain ⟨h1, h2, h3⟩ := hD D (by simp)
    refine ⟨by simp, .inl ⟨D, w'.putObj D (.deferred none), rfl, run_takeDeferred h2, ?_⟩⟩
    refine leaves_mk hE hr hres Ds _ (List.nodup_cons.1 hnd).2 (fun D' hm => ?_) (T.late hE hr h1 h3 _)
    obtain ⟨k1, k2, k3⟩ := hD D' (by simp [hm])
    have hne : D' ≠ D := fun e => (List.nodup_cons.1 hnd).1 (e ▸ hm)
    exact ⟨k1, by rw [World.putObj_heap_other hne]; exact k2, k3⟩

/-- calls, by what the code does -/
theorem call_part (hE : E.Ok) (hF : FOk E.P F.fn) (hO : CallOk E F.ov) {n : Nat} (hcode : CodePart E F n) : CallOk E (callA F E.ro (exec F E.ro n)) := by
  intro f args h v h2 lw lp hcl
  unfold callA at hcl
  split at hcl
  · rename_i r hr
    cases hcl
    exact hO _ _ _ _ _ _ _ hr
  split at hcl
  · cases hcl
  · rename_i fn hfn
    split at hcl
    · cases hcl
    · rename_i hlen
      obtain ⟨pf, hpf, hcf⟩ := hF f fn hfn
      obtain ⟨c, hb, hres, hcc, hnt, hin, hrin, hname⟩ := compF_inv hcf
      refine ⟨fun args' w => ?_, fun m w args' hr hl => ?_⟩
      · have hne : ¬ (pf.name = "runtime.NumGoroutine") := by simpa using hname
        simp [callFunc, hpf, hne, hb]
      · split at hcl
        · cases hcl
        · rename_i e st' hx hex
          split at hcl
          · rename_i vs hvs
            simp only [Option.some.injEq] at hcl
            have hle : args.length ≤ fn.nt := by simpa using hlen
            refine (callsIn_fw (r := none) (n := 0)).1 (callsIn_of_wp_marks hpf hb trivial ?_)
            have hsz : args'.size = args.length := hl.1.symm
            have ht0 : TRn E m (Tr.mk args) { tmps := args' ++ Array.replicate (pf.ntmps - args'.size) undef, defers := [] } fn.nt := by
              refine ⟨by simp [hnt] at hle ⊢; omega, fun i hi => ?_⟩
              rw [get_mk]
              by_cases hlt : i < args.length
              · have := hl.2 i args[i] (List.getElem?_eq_getElem hlt)
                have hi2 : i < args'.size := by omega
                simpa [Array.getD_eq_getD_getElem?, Array.getElem?_append_left hi2, hlt] using this
              · have h1 : args[i]? = none := List.getElem?_eq_none (by omega)
                have h2 : (args' ++ Array.replicate (pf.ntmps - args'.size) undef).getD i undef = undef := by
                  rw [Array.getD_eq_getD_getElem?, Array.getElem?_append_right (by omega)]
                  simp [Array.getElem?_replicate]
                  split <;> rfl
                simp only
                rw [h2]
                simpa [List.getD, h1] using VR.und E.rl m
            refine hcode c none w.heap.size fn.body _ e st' fn.nt m _ w _ (.inl rfl) (Nat.le_refl _) hcc hin hex hr ht0 Mk.nil fun m' a' w' T ht' hk' => ?_
            obtain ⟨Ds, eds, hnd, hDs⟩ := hk'
            have post : LeavesInM (FW none) 0 E.P pf a'.tmps (fun e w' => ∃ v', e = Ending.returned v' ∧ ∃ m', VR E.rl m' v v' ∧ Tn E m h h.length h.length w m' h2 lw lp w') a'.defers .returning w' := by
              rw [eds]
              refine leaves_mk hE hr (fun w2 T2 => ?_) Ds w' hnd hDs T
              obtain ⟨v', r1, r2⟩ := results_sound hE T2.hr ht' hres hrin hvs
              obtain ⟨hveq, m2, g1, g2⟩ := gc_sound hr T2 r2 hcl
              exact ⟨v', r1, v', rfl, m2, by rw [hveq]; exact g1, g2⟩
            cases e with
            | norm => exact post
            | ret => exact post
            | exit i => exact (hx i rfl).elim
          · cases hcl
        · cases hcl

/-- a round, by what the code does -/
theorem round_part {n : Nat} (hcode : CodePart E F n) : RndOk E (roundA (exec F E.ro n)) := by
  intro b vs h v h' lw lp hrn m w vs' rr K hr hl hm
  unfold roundA at hrn
  split at hrn
  · rename_i blk hb
    split at hrn
    · rename_i L p hg
      cases hlen : Nat.beq vs.length L.ps.length
      · rw [hlen] at hrn; cases hrn
      rw [hlen] at hrn
      have hlen := Nat.eq_of_beq_eq_true hlen
      simp only [cond_true] at hrn
      obtain ⟨hn, rc, ho, k1, k2, k3, k4, k5, k6, k7, k8, k9, k10, k11, k12, k13⟩ := hr.loop hb hg hm
      have hps : rc.params.size = L.ps.length := by rw [← k4]; simp
      unfold roundB at hrn
      split at hrn
      · rename_i s1 hex1
        split at hrn
        · rename_i h1 hbeg
          split at hrn
          · rename_i e s2 hex2
            split at hrn
            · rename_i h2 hset
              simp only [Option.some.injEq] at hrn
              refine ⟨rc.fn, _, rc.assign, rc.body, run_yield ho (by rw [hps, ← hlen]; exact hl.1.symm), roundIn_of_wpIn trivial ?_⟩
              have e1 : (rc.params.zip vs').foldl (fun tmps (t, a) => tmps.setIfInBounds t a) rc.tmps = (L.ps.zip vs'.toList).foldl (fun tmps (t, a) => tmps.setIfInBounds t a) rc.tmps := by
                rw [← Array.foldl_toList, Array.toList_zip, k4]
              have hpt := putPs_trn (E := E) (m := m) L.ps vs vs'.toList L.t rc.tmps k9 k10 k11 (by simpa using hl.1) hlen (fun i u hu => by
                have := hl.2 i u hu
                simpa [Array.getD_eq_getD_getElem?, List.getD] using this)
              refine hcode rc.assign (some rr) 0 L.asg _ .norm s1 K m { tmps := _, defers := [] } w _ (.inr k5) (Nat.zero_le _) k7 k12 hex1 hr ⟨by rw [e1]; exact hpt.1, fun n hn => by
                show VR E.rl m _ (Array.getD _ n undef)
                rw [e1]; exact hpt.2 n hn⟩ Mk.nil fun m1 a1 w1 T1 ht1 hk1 => ?_
              show ∃ w2, _
              obtain ⟨rc1, q1, q2, T2⟩ := begL_sound T1.hr hbeg (T1.mle _ _ hm) s1.lw s1.lp
              refine ⟨_, run_beginRound q1 q2, ?_⟩
              refine hcode rc.body (some rr) 0 L.body _ e s2 K m1 a1 _ _ (.inr k6) (Nat.zero_le _) k8 k13 hex2 T2.hr ht1 (hk1.mono T2) fun m3 a3 w3 T3 ht3 _ => ?_
              obtain ⟨rc3, q3, -, T4⟩ := setL_sound T3.hr hset (T3.mle _ _ (T1.mle _ _ hm)) (by cases e <;> simp [AExit.pend]) s2.lw s2.lp
              have T := Tn.trans hr T1 (Tn.trans T1.hr T2 (Tn.trans T2.hr T3 T4))
              obtain ⟨hveq, m5, g1, g2⟩ := gc_sound (st := { s2 with h := h2, lw := min s2.lw b }) hr T (VR.b (rl := E.rl) (m := m3) e.on) hrn
              cases e with
              | norm => exact ⟨_, _, run_endRound none q3, _, rfl, m5, by rw [hveq]; exact g1, g2⟩
              | exit i => exact ⟨_, _, run_endRound (some (.exit i)) q3, _, rfl, m5, by rw [hveq]; exact g1, g2⟩
              | ret => exact ⟨_, _, run_endRound (some .ret) q3, _, rfl, m5, by rw [hveq]; exact g1, g2⟩
            · cases hrn
          · cases hrn
        · cases hrn
      · cases hrn
    · cases hrn
  · cases hrn

theorem code_zero : CodePart E F 0 := fun c r B0 ac st e st' nt m a w Q _ _ _ _ h => by simp [exec] at h
theorem loop_zero : LoopPart E F 0 := fun r B0 c ac st e st' nt m a w Q _ _ _ _ h => by simp [exec] at h

theorem stuck_none {ro : List ABlk} {n : Nat} {st : St} : exec F ro n stuckA st = none := by
  cases n with
  | zero => rfl
  | succ n => rfl

/-- a loop over a function, by what calls do -/
theorem rng_sound (hE : E.Ok) {call : Caller} (hcall : CallOk E call) {ps : Array Tmp} {x : AOpd} {ca cb : ACode} {g : Operand} {asg body : Code} {B0 nt : Nat} {st st' : St} {e : AExit} {m : M} {a : Act} {w : World} {Q : Exit → Act → World → Prop} (hfa : ca.flat = true) (hfb : cb.flat = true)
    (h1 : copd g = some x) (h2 : compC E.P asg = some ca) (h3 : compC E.P body = some cb) (hB : B0 ≤ w.heap.size) (hin : (ACode.rng x ps.toList ca cb).in nt = true) (hx : rngA call ps.toList ca cb st (opd st.t x) = some (e, st'))
    (hr : HR E m st.h w) (ht : TRn E m st.t a nt) (hd : Mk B0 m st.h w a.defers)
    (hQ : ∀ m' a' w', Tn E m st.h st.lw st.lp w m' st'.h st'.lw st'.lp w' → TRn E m' st'.t a' nt → Mk B0 m' st'.h w' a'.defers → Q (toE e) a' w') : (Code.rangeFunc g ps asg body).wpIn (FW none) 0 E.P Q a w := by
  simp only [ACode.in, Bool.and_eq_true] at hin
  obtain ⟨⟨⟨i1, i2⟩, i3⟩, i4⟩ := hin
  have hv := copd_sound h1 (rl := E.rl) (m := m) (t := st.t) (a := a) (ht.trk fun k hk => by
    have := (List.all_eq_true.1 i1) k hk
    rwa [Nat.blt_eq] at this)
  unfold rngA at hx
  split at hx
  · rename_i f first capt ev
    split at hx
    · rename_i u h2' lw lp hcl
      split at hx
      · rename_i p h3' hend
        simp only [Option.some.injEq, Prod.mk.injEq] at hx
        obtain ⟨rfl, rfl⟩ := hx
        rw [ev] at hv
        obtain ⟨f', c', e', l1, l2, r1, r2⟩ := hv.inv_fn
        obtain ⟨henter, hcalls⟩ := hcall _ _ _ _ _ _ _ hcl
        refine wpIn_rangeFunc fun fn _ => ?_
        have T0 := hr.dead hE (.deferred (some [])) st.lw st.lp
        have hsz0 : (w.alloc (.deferred (some []))).heap.size = w.heap.size + 1 := by simp
        have T1' := T0.hr.newO hE (K := nt) (b0 := recB st.t ps.toList ca cb) (ob := .loop { state := .ready, pending := none, fn, tmps := a.tmps, params := ps, assign := asg, body, defers := w.heap.size }) (fun m' hm' => .inr (.inr ⟨rfl, _, .ready, none, _, rfl, rfl, rfl, rfl, by simp, rfl, hfa, hfb, h2, h3, ht.1, fun n hn => (ht.2 n hn).mono hm', fun n hn => by
          have := (List.all_eq_true.1 i2) n hn
          rwa [Nat.blt_eq] at this, i3, i4⟩)) st.lw st.lp
        have T1 := Tn.trans hr T0 T1'
        obtain ⟨w1, hw1⟩ : ∃ w1, (w.alloc (.deferred (some []))).alloc (.loop { state := .ready, pending := none, fn, tmps := a.tmps, params := ps, assign := asg, body, defers := w.heap.size }) = w1 := ⟨_, rfl⟩
        rw [hw1, hsz0] at T1
        have hmb : (m ++ [some (w.heap.size + 1, nt)])[st.h.length]? = some (some (w.heap.size + 1, nt)) := by rw [← hr.len]; simp
        have hDw : w1.heap[w.heap.size]? = some (.deferred (some [])) := by
          rw [← hw1]; exact (Below.heap_alloc _ _ _ (by simp)).trans (World.alloc_heap_new w _)
        have hDn : ∀ i b K, ¬ Live (m ++ [some (w.heap.size + 1, nt)]) (st.h ++ [some (recB st.t ps.toList ca cb)]) i b w.heap.size K := by
          intro i b K hl
          rcases Nat.lt_or_ge i st.h.length with hi | hi
          · have h1 := hl.1
            have h2 := hl.2
            rw [List.getElem?_append_left hi] at h1
            rw [List.getElem?_append_left (by rw [hr.len]; exact hi)] at h2
            have := hr.lt ⟨h1, h2⟩
            omega
          · have h2 := hl.2
            rw [List.getElem?_append_right (by rw [hr.len]; exact hi)] at h2
            rcases Nat.eq_zero_or_pos (i - m.length) with h0 | h0
            · rw [h0] at h2; simp at h2
            · rw [List.getElem?_eq_none (by simp; omega)] at h2; cases h2
        have hk1 := (hd.mono T1).push hB hDw hDn (fun d hd' => by
          obtain ⟨Ds, eds, -, hDs⟩ := hd
          rw [eds] at hd'
          obtain ⟨D, hD1, rfl⟩ := List.mem_map.1 hd'
          have := (Array.getElem?_eq_some_iff.1 (hDs D hD1).2.1).1
          intro e
          simp at e
          omega)
        refine ⟨w.heap.size + 1, [{ target := .collected w.heap.size, args := #[] }], w1, { target := .fn (.func f) c', args := f' ++ #[.func (.yield (w.heap.size + 1)) #[] #[]] }, w1, f,
          f' ++ #[.func (.yield (w.heap.size + 1)) #[] #[]] ++ c', w1, ?_, ?_, fun _ _ => trivial, ?_, fw_depth, callsIn_fw.2 ?_⟩
        · rw [← hw1]; exact run_enterLoop_outer _ _ _ _ _
        · simp only [resolve, e']
          simp [Deferred.ofValue, Act.eval]
        · simp [invoke, henter]
        · have hl : LR E.rl (m ++ [some (w.heap.size + 1, nt)]) (first ++ [.yld st.h.length] ++ capt) (f' ++ #[.func (.yield (w.heap.size + 1)) #[] #[]] ++ c') := by
            have mle : Mle m (m ++ [some (w.heap.size + 1, nt)]) := Mle.app _ _
            exact LR.app (LR.app ⟨l1, fun i v hv => (r1 i v hv).mono mle⟩ ⟨rfl, fun i v hv => by
              cases i with
              | zero => simp at hv; subst hv; exact .yld _ _ _ hmb
              | succ i => simp at hv⟩) ⟨l2, fun i v hv => (r2 i v hv).mono mle⟩
          refine Calls.mono (hcalls _ w1 _ T1.hr hl) fun e2 w2 hq => ?_
          obtain ⟨v', rfl, m2, -, T2⟩ := hq
          have T2' := T2.relax (lw0 := st.lw) (lp0 := st.lp)
          obtain ⟨rc, q1, q2, q3, q4, T3⟩ := endL_sound T2.hr hend (T2.mle _ _ hmb) (min st.lw lw) (min st.lp lp)
          have T := Tn.trans hr T1 (Tn.trans T1.hr T2' T3)
          have hk := (hk1.mono T2').mono T3
          refine ⟨rc.pending, _, run_endLoop q1 q2, ?_⟩
          have hfin := hQ m2 { a with defers := [{ target := .collected w.heap.size, args := #[] }] ++ a.defers } _ T ⟨ht.1, fun n hn => (ht.2 n hn).mono T.mle⟩ hk
          rw [q3] at hfin ⊢
          cases p with
          | none => exact hfin
          | some e =>
            cases e with
            | norm => exact absurd rfl q4
            | exit i => exact wpIn_exit hfin
            | ret => exact wpIn_ret hfin
      · cases hx
    · cases hx
  · cases hx

theorem code_one (hE : E.Ok) (hm : E.P.follows .mixedOrders = true) (hA : AnyOk E) {n : Nat} (hcalls : ∀ k, k ≤ n → CallOk E (callA F E.ro (exec F E.ro k))) (hrnd : RndOk E (roundA (exec F E.ro n))) (hn : CodePart E F n) (hl : LoopPart E F n) (c : Code) (hns : ∀ x, c ≠ .scope x) : CodeOne E F (n + 1) c := by
  intro r B0 ac st e st' nt m a w Q hfl hB hc hin hx hr ht hd hQ
  have hcall := hcalls n (Nat.le_refl _)
  cases c with
  | skip =>
    cases hc
    simp only [exec, Option.some.injEq, Prod.mk.injEq] at hx
    obtain ⟨rfl, rfl⟩ := hx
    exact wpIn_skip (hQ m a w (Tn.refl hr _ _) ht hd)
  | label l =>
    cases hc
    simp only [exec, Option.some.injEq, Prod.mk.injEq] at hx
    obtain ⟨rfl, rfl⟩ := hx
    exact wpIn_label (hQ m a w (Tn.refl hr _ _) ht hd)
  | region id ops draw =>
    simp only [compC, Option.some.injEq] at hc
    cases hcr : compR E.P ops draw with
    | none =>
      rw [hcr] at hc
      subst hc
      rw [stuck_none] at hx
      cases hx
    | some ac' =>
    rw [hcr] at hc
    simp only at hc
    subst hc
    have hc := hcr
    have hc0 := hc
    unfold compR at hc
    split at hc
    · cases hc
    · rename_i l hl0
      split at hc
      · rename_i hdr
        simp only [Bool.not_eq_true'] at hdr
        subst hdr
        simp only [Option.some.injEq] at hc
        obtain ⟨-, hget⟩ := compL_get hl0
        have hnd : ∀ o ∈ ops.toList, ∀ c, o.op ≠ .defer c := fun o ho => by
          obtain ⟨i, hi, e⟩ := List.getElem_of_mem ho
          obtain ⟨ao, -, h2⟩ := hget i o (by rw [← e]; exact List.getElem?_eq_getElem hi)
          exact compK_nd (compO_inv h2).2.2
        split at hc
        · subst hc
          simp only [exec] at hx
          split at hx
          · rename_i st1 h1
            simp only [Option.some.injEq, Prod.mk.injEq] at hx
            obtain ⟨rfl, rfl⟩ := hx
            exact wpIn_region_list (listY_wp (nt := nt) (ds := a.defers) hE hcall hrnd ops.toList l st st1 m a w hl0 hin h1 hr ht rfl fun m' a' w' T ht' hd' => hQ m' a' w' T ht' (by rw [hd']; exact hd.mono T))
          · cases hx
        · subst hc
          simp only [exec] at hx
          split at hx
          · rename_i st1 h1
            simp only [Option.some.injEq, Prod.mk.injEq] at hx
            obtain ⟨rfl, rfl⟩ := hx
            exact normQ_in (wpIn_region_list (wpList_in normQ_out _ _ _ hnd (list_wp (nt := nt) (ds := a.defers) hE hcall ops.toList l st st1 m a w hl0 hin h1 hr ht rfl fun m' a' w' T ht' hd' => hQ m' a' w' T ht' (by rw [hd']; exact hd.mono T))))
          · cases hx
      · rename_i hdr
        have hdr : draw = true := by simpa using hdr
        subst hdr
        obtain ⟨-, hget⟩ := compL_get hl0
        have hnd : ∀ (i : Nat) (o : Oper), ops[i]? = some o → ∀ c, o.op ≠ .defer c := fun i o ho => by
          obtain ⟨ao, -, h2⟩ := hget i o (by simpa using ho)
          exact compK_nd (compO_inv h2).2.2
        split at hc
        · cases hc
        · rename_i hns
          have hns : Region.noSelect ops = true := by simpa using hns
          split at hc
          · rename_i s hs
            cases hc
            simp only [exec] at hx
            split at hx
            · rename_i st1 h1
              simp only [Option.some.injEq, Prod.mk.injEq] at hx
              obtain ⟨rfl, rfl⟩ := hx
              refine normQ_in (wpIn_region_any hm (wpAny_in normQ_out hnd _ _ _ _ ?_))
              exact sched_wp (nt := nt) (ds := a.defers) hE hcall hns hl0 (Q := normQ Q) (fun _ _ _ h => h) ops.size (Array.replicate ops.size false) s st st1 m a w.drew hs hin h1 hr.drew ht rfl
                (fun m' a' w' T ht' hd' => hQ m' a' w' (Tn.trans hr (Tn.drew hr _ _) T) ht' (by rw [hd']; exact (hd.mono (Tn.drew hr st.lw st.lp)).mono T))
            · cases hx
          · exact normQ_in (wpIn_region_any hm (wpAny_in normQ_out hnd _ _ _ _ (hA F n hcalls ops l ac' nt st e st' m a w Q a.defers hl0 hns hc hin hx hr ht rfl fun m' a' w' T ht' hd' => hQ m' a' w' T ht' (by rw [hd']; exact hd.mono T))))
  | seq x y =>
    simp only [compC] at hc
    split at hc
    · rename_i ax ay h1 h2
      cases hc
      simp only [ACode.in, Bool.and_eq_true] at hin
      simp only [exec] at hx
      refine wpIn_seq ?_
      split at hx
      · rename_i st1 hx1
        refine hn x r B0 ax st .norm st1 nt m a w _ (hfl.imp id fun h => (flat_and h).1) hB h1 hin.1 hx1 hr ht hd fun m' a' w' T ht' hd' => ?_
        exact hn y r B0 ay st1 e st' nt m' a' w' Q (hfl.imp id fun h => (flat_and h).2) (Nat.le_trans hB T.size) h2 hin.2 hx T.hr ht' hd' fun m2 a2 w2 T2 ht2 hd2 => hQ m2 a2 w2 (Tn.trans hr T T2) ht2 hd2
      · rename_i r0 hne
        have hx1 : exec F E.ro n ax st = some (e, st') := hx
        refine hn x r B0 ax st e st' nt m a w _ (hfl.imp id fun h => (flat_and h).1) hB h1 hin.1 hx1 hr ht hd fun m' a' w' T ht' hd' => ?_
        cases e with
        | norm => exact (hne st' hx1).elim
        | exit i => exact hQ m' a' w' T ht' hd'
        | ret => exact hQ m' a' w' T ht' hd'
    · cases hc
  | cond x c1 c2 =>
    simp only [compC] at hc
    split at hc
    · rename_i ax a1 a2 h0 h1 h2
      cases hc
      simp only [ACode.in, Bool.and_eq_true] at hin
      simp only [exec] at hx
      have hv := copd_sound h0 (rl := E.rl) (m := m) (t := st.t) (a := a) (ht.trk fun k hk => by
        have := (List.all_eq_true.1 hin.1.1) k hk
        rwa [Nat.blt_eq] at this)
      split at hx
      · rename_i e1
        rw [e1] at hv
        exact wpIn_cond_true hv.inv_b (hn c1 r B0 a1 st e st' nt m a w Q (hfl.imp id fun h => (flat_and h).1) hB h1 hin.1.2 hx hr ht hd hQ)
      · rename_i e1
        rw [e1] at hv
        exact wpIn_cond_false hv.inv_b (hn c2 r B0 a2 st e st' nt m a w Q (hfl.imp id fun h => (flat_and h).2) hB h2 hin.2 hx hr ht hd hQ)
      · cases hx
    · cases hc
      rw [stuck_none] at hx
      cases hx
  | block id x =>
    simp only [compC, Option.map_eq_some_iff] at hc
    obtain ⟨ax, h1, rfl⟩ := hc
    simp only [ACode.in] at hin
    simp only [exec] at hx
    refine wpIn_block ?_
    split at hx
    · rename_i i st1 hx1
      refine hn x r B0 ax st (.exit i) st1 nt m a w _ hfl hB h1 hin hx1 hr ht hd fun m' a' w' T ht' hd' => ?_
      show Exit.inBlock id Q (.exit i) a' w'
      simp only [Exit.inBlock]
      split at hx
      · rename_i hid
        simp only [Option.some.injEq, Prod.mk.injEq] at hx
        obtain ⟨rfl, rfl⟩ := hx
        rw [if_pos hid]
        exact hQ m' a' w' T ht' hd'
      · rename_i hid
        simp only [Option.some.injEq, Prod.mk.injEq] at hx
        obtain ⟨rfl, rfl⟩ := hx
        rw [if_neg hid]
        exact hQ m' a' w' T ht' hd'
    · rename_i r0 hne
      refine hn x r B0 ax st e st' nt m a w _ hfl hB h1 hin hx hr ht hd fun m' a' w' T ht' hd' => ?_
      cases e with
      | norm => exact hQ m' a' w' T ht' hd'
      | exit i => exact (hne i st' hx).elim
      | ret => exact hQ m' a' w' T ht' hd'
  | loop x =>
    simp only [compC, Option.map_eq_some_iff] at hc
    obtain ⟨ax, h1, rfl⟩ := hc
    simp only [ACode.in] at hin
    refine wpIn_loop_rounds (n + 1) ?_
    rw [roundsIn_succ]
    simp only [exec] at hx
    split at hx
    · rename_i st1 hx1
      refine hn x r B0 ax st .norm st1 nt m a w _ hfl hB h1 hin hx1 hr ht hd fun m' a' w' T ht' hd' => ?_
      exact hl r B0 x ax st1 e st' nt m' a' w' Q hfl (Nat.le_trans hB T.size) h1 hin hx T.hr ht' hd' fun m2 a2 w2 T2 ht2 hd2 => hQ m2 a2 w2 (Tn.trans hr T T2) ht2 hd2
    · rename_i r0 hne
      refine hn x r B0 ax st e st' nt m a w _ hfl hB h1 hin hx hr ht hd fun m' a' w' T ht' hd' => ?_
      cases e with
      | norm => exact (hne st' hx).elim
      | exit i => exact hQ m' a' w' T ht' hd'
      | ret => exact hQ m' a' w' T ht' hd'
  | exit i =>
    cases hc
    simp only [exec, Option.some.injEq, Prod.mk.injEq] at hx
    obtain ⟨rfl, rfl⟩ := hx
    exact wpIn_exit (hQ m a w (Tn.refl hr _ _) ht hd)
  | ret =>
    cases hc
    simp only [exec, Option.some.injEq, Prod.mk.injEq] at hx
    obtain ⟨rfl, rfl⟩ := hx
    exact wpIn_ret (hQ m a w (Tn.refl hr _ _) ht hd)
  | scope x => exact absurd rfl (hns x)
  | rangeFunc g ps asg body =>
    simp only [compC] at hc
    split at hc
    · rename_i x ca cb h1 h2 h3
      split at hc
      · rename_i hflat
        cases hc
        simp only [Bool.and_eq_true] at hflat
        have hrn : r = none := hfl.resolve_right (by simp [ACode.flat])
        subst hrn
        simp only [exec] at hx
        exact rng_sound hE hcall hflat.1 hflat.2 h1 h2 h3 hB hin hx hr ht hd hQ
      · cases hc
        rw [stuck_none] at hx
        cases hx
    · cases hc
      rw [stuck_none] at hx
      cases hx
  | _ =>
    simp only [compC, Option.some.injEq] at hc
    subst hc
    rw [stuck_none] at hx
    cases hx

theorem code_succ (hE : E.Ok) (hm : E.P.follows .mixedOrders = true) (hA : AnyOk E) {n : Nat} (hcalls : ∀ k, k ≤ n → CallOk E (callA F E.ro (exec F E.ro k))) (hrnd : RndOk E (roundA (exec F E.ro n))) (hn : CodePart E F n) (hl : LoopPart E F n) : CodePart E F (n + 1) := by
  have key : ∀ (k : Nat) (c : Code), SizeOf.sizeOf c < k → CodeOne E F (n + 1) c := by
    intro k
    induction k with
    | zero => intro c h; omega
    | succ k ih =>
      intro c hk
      by_cases hs : ∃ x, c = .scope x
      · obtain ⟨x, rfl⟩ := hs
        intro r B0 ac st e st' nt m a w Q hfl hB hc hin hx hr ht hd hQ
        refine wpIn_scope (ih x (by simp at hk; omega) r B0 ac st e st' nt m a w _ hfl hB hc hin hx hr ht hd fun m' a' w' T ht' hd' => ?_)
        have := hQ m' a' w' T ht' hd'
        cases e <;> exact this
      · exact code_one hE hm hA hcalls hrnd hn hl c fun x e => hs ⟨x, e⟩
  exact fun c => key _ c (Nat.lt_succ_self _)

theorem loop_succ {n : Nat} (hn : CodePart E F n) (hl : LoopPart E F n) : LoopPart E F (n + 1) := by
  intro r B0 x ax st e st' nt m a w Q hfl hB h1 hin hx hr ht hd hQ
  rw [roundsIn_succ]
  simp only [exec] at hx
  split at hx
  · rename_i st1 hx1
    refine hn x r B0 ax st .norm st1 nt m a w _ hfl hB h1 hin hx1 hr ht hd fun m' a' w' T ht' hd' => ?_
    exact hl r B0 x ax st1 e st' nt m' a' w' Q hfl (Nat.le_trans hB T.size) h1 hin hx T.hr ht' hd' fun m2 a2 w2 T2 ht2 hd2 => hQ m2 a2 w2 (Tn.trans hr T T2) ht2 hd2
  · rename_i r0 hne
    refine hn x r B0 ax st e st' nt m a w _ hfl hB h1 hin hx hr ht hd fun m' a' w' T ht' hd' => ?_
    cases e with
    | norm => exact (hne st' hx).elim
    | exit i => exact hQ m' a' w' T ht' hd'
    | ret => exact hQ m' a' w' T ht' hd'

theorem exec_sound (hE : E.Ok) (hm : E.P.follows .mixedOrders = true) (hA : AnyOk E) (hF : FOk E.P F.fn) (hO : CallOk E F.ov) : ∀ n k, k ≤ n → CodePart E F k ∧ LoopPart E F k
  | 0, k, hk => by
    obtain rfl : k = 0 := by omega
    exact ⟨code_zero, loop_zero⟩
  | n + 1, k, hk => by
    have ih := exec_sound hE hm hA hF hO n
    rcases Nat.lt_or_ge n k with h | h
    · obtain rfl : k = n + 1 := by omega
      obtain ⟨h1, h2⟩ := ih n (Nat.le_refl _)
      exact ⟨code_succ hE hm hA (fun k hk => call_part hE hF hO (ih k hk).1) (round_part h1) h1 h2, loop_succ h1 h2⟩
    · exact ih k h

/-- WHAT THE SMALL MACHINE ANSWERS, THE MODEL's CALL ANSWERS -/
theorem call_sound (hE : E.Ok) (hm : E.P.follows .mixedOrders = true) (hA : AnyOk E) (hF : FOk E.P F.fn) (hO : CallOk E F.ov) (n : Nat) : CallOk E (callA F E.ro (exec F E.ro n)) :=
  call_part hE hF hO (exec_sound hE hm hA hF hO n n (Nat.le_refl _)).1

end
end Go.Vm

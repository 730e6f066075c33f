/- Loops over functions: what they need of the calculus within a fence; their records in memory. -/
import Derived.Test.YtageakoepjkkbaaVmS
import Derived.RangeFuncRecord
import Derived.OrdersIn
import Derived.LoopNIn
import Derived.TacticsIn
namespace Go.Vm
open Go.RowKit

/-- all functions, any depth; in a round of a loop, or not -/
def FW (r : Option Nat) : Fence := { Fence.wide with round := r }
theorem fw_depth {r : Option Nat} : (FW r).depth.isSome = true → 1 ≤ 0 := fun h => by simp [FW, Fence.wide] at h
theorem callsIn_fw {r : Option Nat} {n : Nat} {P : Program} {f : FuncId} {args : Array Value} {w : World} {R : Ending → World → Prop} : CallsIn (FW r) n P f args w R ↔ Calls P f args w R :=
  callsIn_wide (n := n)

theorem wp_in {P : Program} {r : Option Nat} {o : Oper} {a : Act} {w : World} {K : Act → World → Prop} {Q : Exit → Act → World → Prop} (hnd : ∀ c, o.op ≠ .defer c) (h : o.wp P a w K Q) : o.wpIn (FW r) 0 P a w K Q := by
  refine ⟨fun _ _ => trivial, ?_⟩
  rw [Oper.semAt_eq _ _ _ hnd]
  unfold Oper.wp at h
  generalize (execOp a.eval o).run P w = x at h
  cases x with
  | ok n w' =>
    cases n <;> simp only [Oper.upon, Oper.uponIn] at h ⊢ <;> first
      | exact h
      | exact h.elim
      | exact ⟨fw_depth, callsIn_fw.2 h⟩
      | exact ⟨fw_depth, fun c cs _ => let ⟨v, w2, h1, h2⟩ := h c cs; ⟨v, w2, h1, stepsIn_wide.2 h2⟩⟩
  | halt x w' => cases x <;> simp only [Oper.upon, Oper.uponIn] at h ⊢ <;> first | exact h | exact h.elim

theorem compK_nd {P : Program} {op : Op} {k : Kind} (h : compK P op = some k) : ∀ c, op ≠ .defer c := fun c e => by subst e; simp [compK] at h

section
variable {P : Program} {r : Option Nat} {ops : Array Oper} {Q : Exit → Act → World → Prop}

theorem wpList_in (hQ : ¬ LetsOut Q) : ∀ (l : List Oper) (a : Act) (w : World), (∀ o ∈ l, ∀ c, o.op ≠ .defer c) → wpList P ops Q l a w → wpListIn (FW r) 0 P ops Q l a w
  | [], _, _, _, h => h
  | o :: l, a, w, hd, h => by
    unfold wpList at h
    unfold wpListIn
    have ih := wpList_in hQ l
    have hd' : ∀ o ∈ l, ∀ c, o.op ≠ .defer c := fun o ho => hd o (by simp [ho])
    split at h
    · rename_i hw
      rw [if_pos hw]
      rcases h with h | ⟨-, h⟩
      · exact wp_in (hd o (by simp)) (Oper.wp_mono (fun a w hk => ih a w hd' hk) h)
      · exact absurd h hQ
    · rename_i hw
      rw [if_neg hw]
      exact ⟨fun _ _ => trivial, ih _ _ hd' h⟩

theorem wpAny_in (hQ : ¬ LetsOut Q) (hd : ∀ (i : Nat) (o : Oper), ops[i]? = some o → ∀ c, o.op ≠ .defer c) {md : Region.Mode} : ∀ (fuel : Nat) (listed : Array Bool) (a : Act) (w : World), wpAny P md ops Q fuel listed a w → wpAnyIn (FW r) 0 P md ops Q fuel listed a w
  | 0, _, _, _, h => h
  | fuel + 1, listed, a, w, h => by
    refine ⟨h.1, fun i hi => ?_⟩
    have h2 := h.2 i hi
    unfold wpOp at h2
    unfold wpOpIn
    split at h2
    · rename_i e; simp only [e]; exact wpAny_in hQ hd fuel _ _ _ h2
    · rename_i o e
      simp only [e]
      split at h2
      · rename_i hw
        rw [if_pos hw]
        rcases h2 with h2 | ⟨-, h2⟩
        · exact wp_in (hd i o e) (Oper.wp_mono (fun a w hk => wpAny_in hQ hd fuel _ a w hk) h2)
        · exact absurd h2 hQ
      · rename_i hw
        rw [if_neg hw]
        exact ⟨fun _ _ => trivial, wpAny_in hQ hd fuel _ _ _ h2⟩

/-- an end that lets nothing else through -/
def normQ (Q : Exit → Act → World → Prop) : Exit → Act → World → Prop := fun e a w => match e with | .normal => Q .normal a w | _ => False
theorem normQ_out : ¬ LetsOut (normQ Q) := fun ⟨_, _, h⟩ => h
theorem normQ_in {c : Code} {F : Fence} {n : Nat} {a : Act} {w : World} (h : c.wpIn F n P (normQ Q) a w) : c.wpIn F n P Q a w :=
  Go.wpIn_mono h fun e a w q => by cases e <;> first | exact q | exact q.elim
end

/- a scope without jumps to labels -/
theorem stepR_scope {P : Program} {b : Frame} {a : Act} {k : List Item} {cs : List Frame} {w : World} {c : Code} : step P (lone (b.atR a (.code (.scope c) :: k)) cs w) = .next (lone (b.atR a (.code c :: .inScope c :: k)) cs w) :=
  step_lone_go (by simp [stepG, stepG.exec, Frame.atR])
theorem stepR_inScope {P : Program} {b : Frame} {a : Act} {k : List Item} {cs : List Frame} {w : World} {c : Code} : step P (lone (b.atR a (.inScope c :: k)) cs w) = .next (lone (b.atR a k) cs w) :=
  step_lone_go (by simp [stepG, stepG.exec, Frame.atR])
def noGo (Q : Exit → Act → World → Prop) : Exit → Act → World → Prop := fun e a w => match e with | .goto _ => False | e => Q e a w
theorem wpIn_scope {F : Fence} {n : Nat} {P : Program} {c : Code} {Q : Exit → Act → World → Prop} {a : Act} {w : World} (h : c.wpIn F n P (noGo Q) a w) : (Code.scope c).wpIn F n P Q a w := by
  intro b k cs hro hb hr
  have h0 : (lone (b.atR a (.code (.scope c) :: k)) cs w).fenced P F := fenced_calm hb hr rfl
  obtain ⟨e, a₁, w₁, hq, harr⟩ := h b (.inScope c :: k) cs hro hb hr
  cases e with
  | normal => exact ⟨.normal, a₁, w₁, hq, .head h0 stepR_scope (StepsIn.trans harr (.one (fenced_calm hb hr rfl) stepR_inScope))⟩
  | exit id =>
    have hx : exitTo id (.inScope c :: k) = exitTo id k := by simp [exitTo]
    exact ⟨.exit id, a₁, w₁, hq, fun k' hk => .head h0 stepR_scope (harr.1 k' (by rw [hx]; exact hk)),
      fun hr' hk => let ⟨k₁, h1, h2⟩ := harr.2 hr' (by rw [hx]; exact hk); ⟨k₁, h1, .head h0 stepR_scope h2⟩⟩
  | goto l => exact hq.elim
  | ret => exact ⟨_, a₁, w₁, hq, .of_steps (.one h0 stepR_scope) harr⟩
  | panic ch => exact ⟨_, a₁, w₁, hq, .of_steps (.one h0 stepR_scope) harr⟩
  | outgrown => exact ⟨_, a₁, w₁, hq, .of_steps (.one h0 stepR_scope) harr⟩

section
variable {E : Env} {m : M} {h : Heap} {w : World}

/-- a block of the world's that is none of ours -/
theorem HR.dead (hE : E.Ok) (hr : HR E m h w) (ob : Obj) (lw lp : Nat) : Tn E m h lw lp w m h lw lp (w.alloc ob) := by
  have hBs : E.B ≤ w.heap.size := Nat.le_trans hE.hB hr.below.size
  have hold : ∀ r, r < w.heap.size → (w.alloc ob).heap[r]? = w.heap[r]? := fun r h => Below.heap_alloc _ _ _ h
  exact ⟨⟨[], by simp⟩, ⟨hr.below.alloc hBs _, hr.len, hr.real, fun i b r K hl => by
      obtain ⟨h0, h1⟩ := hr.blk i b r K hl
      exact ⟨h0, by rw [hold r (hr.lt hl)]; exact h1⟩, hr.inj⟩, by simp, Nat.le_refl _, Nat.le_refl _, fun i _ _ => ⟨rfl, fun b r K hl => hold r (hr.lt hl)⟩, fun i _ _ b' hb => ⟨b', hb, rfl, ⟨rfl, rfl⟩, fun _ _ => .inr rfl⟩,
    fun r hr' _ => hold r hr', fun i b r K hl _ => ⟨i, b, K, hl⟩⟩

/-- a later block of the world's, none of ours, is written -/
theorem Tn.late {lw lp lw' lp' : Nat} {m' : M} {h' : Heap} {w' : World} (hE : E.Ok) (hr : HR E m h w) (T : Tn E m h lw lp w m' h' lw' lp' w') {D : Nat} (hD : w.heap.size ≤ D) (hn : ∀ i b K, ¬ Live m' h' i b D K) (ob : Obj) :
    Tn E m h lw lp w m' h' lw' lp' (w'.putObj D ob) := by
  have hBs : E.B ≤ w.heap.size := Nat.le_trans hE.hB hr.below.size
  have hne : ∀ r, r ≠ D → (w'.putObj D ob).heap[r]? = w'.heap[r]? := fun r h => World.putObj_heap_other h
  refine ⟨T.ext, ⟨?_, T.hr.len, T.hr.real, fun i b r K hl => ?_, T.hr.inj⟩, by simpa using T.size, T.lwle, T.lple, fun i hi hil => ?_, T.keepp, fun r hr1 hno => ?_, T.own⟩
  · refine ⟨T.hr.below.os, T.hr.below.tape, T.hr.below.output, by simpa using T.hr.below.size, fun k hk => ?_⟩
    rw [hne k (by omega)]
    exact T.hr.below.block k hk
  · obtain ⟨h0, h1⟩ := T.hr.blk i b r K hl
    exact ⟨h0, by rw [hne r fun e => hn i b K (e ▸ hl)]; exact h1⟩
  · obtain ⟨k1, k2⟩ := T.keepw i hi hil
    refine ⟨k1, fun b r K hl => ?_⟩
    have : r < w.heap.size := hr.lt hl
    rw [hne r (by omega)]
    exact k2 b r K hl
  · rw [hne r (by omega)]
    exact T.keepo r hr1 hno

/-- the record of a loop in memory -/
theorem HR.loop (hr : HR E m h w) {b r K : Nat} {blk : ABlk} {L : LRec} {s : LoopState} {p : Option AExit} (hb : lget h b = some (some blk)) (hg : blk.g = some (.lp L s p)) (hm : m[b]? = some (some (r, K))) :
    blk.n = 0 ∧ ∃ rc, w.heap[r]? = some (.loop rc) ∧ LoopR E m K L s p rc := by
  rw [lget_eq] at hb
  obtain ⟨-, hbk⟩ := hr.blk b blk r K ⟨hb, hm⟩
  rcases hbk with ⟨h0, -⟩ | ⟨-, _, _, _, h0, -⟩ | ⟨hn, L', s', p', rc, h0, h1, h2⟩
  · rw [h0] at hg; cases hg
  · rw [h0] at hg; cases hg
  · rw [h0] at hg
    cases hg
    exact ⟨hn, rc, h1, h2⟩

theorem HR.putL (hr : HR E m h w) {b r K : Nat} {blk : ABlk} {L : LRec} {s s' : LoopState} {p p' : Option AExit} (hb : lget h b = some (some blk)) (hg : blk.g = some (.lp L s p)) (hm : m[b]? = some (some (r, K))) {rc : Loop} (ho : w.heap[r]? = some (.loop rc))
    (hp : p' ≠ some .norm) (lw lp : Nat) : Tn E m h lw lp w m (lset (some { blk with g := some (.lp L s' p') }) h b) (min lw b) lp (w.putObj r (.loop { rc with state := s', pending := p'.map jumpC })) := by
  obtain ⟨hn, rc', h1, h2⟩ := hr.loop hb hg hm
  rw [ho] at h1
  cases h1
  rw [lset_eq]
  rw [lget_eq] at hb
  exact hr.setO (b' := { blk with g := some (.lp L s' p') }) (ob := .loop { rc with state := s', pending := p'.map jumpC }) ⟨hb, hm⟩ rfl (.inr (.inr ⟨hn, L, s', p', { rc with state := s', pending := p'.map jumpC }, rfl, rfl, rfl, rfl, hp, h2.2.2.2⟩)) rfl rfl hn (by simp [ABlk.fix, hg]) lw lp

theorem setL_sound (hr : HR E m h w) {b r K : Nat} {s' : LoopState} {p' : Option AExit} {h' : Heap} (hs : setL h b s' p' = some h') (hm : m[b]? = some (some (r, K))) (hp : p' ≠ some .norm) (lw lp : Nat) :
    ∃ rc, w.heap[r]? = some (.loop rc) ∧ (∃ L s p, LoopR E m K L s p rc) ∧ Tn E m h lw lp w m h' (min lw b) lp (w.putObj r (.loop { rc with state := s', pending := p'.map jumpC })) := by
  unfold setL at hs
  split at hs
  · rename_i blk hb
    split at hs
    · rename_i L s p hg
      cases hs
      obtain ⟨hn, rc, h1, h2⟩ := hr.loop hb hg hm
      exact ⟨rc, h1, ⟨L, s, p, h2⟩, hr.putL hb hg hm h1 hp lw lp⟩
    · cases hs
  · cases hs

theorem begL_sound (hr : HR E m h w) {b r K : Nat} {h' : Heap} (hs : begL h b = some h') (hm : m[b]? = some (some (r, K))) (lw lp : Nat) :
    ∃ rc, w.heap[r]? = some (.loop rc) ∧ rc.state = .ready ∧ Tn E m h lw lp w m h' (min lw b) lp (w.putObj r (.loop { rc with state := .busy })) := by
  unfold begL at hs
  split at hs
  · rename_i blk hb
    split at hs
    · rename_i L p hg
      cases hs
      obtain ⟨hn, rc, h1, h2⟩ := hr.loop hb hg hm
      have T := hr.putL (s' := .busy) hb hg hm h1 h2.2.2.1 lw lp
      rw [← h2.2.1] at T
      exact ⟨rc, h1, h2.1, T⟩
    · cases hs
  · cases hs

/-- a block that nobody looks at any more -/
theorem HR.gone (hr : HR E m h w) (b lw lp : Nat) : Tn E m h lw lp w m (lset none h b) (min lw b) lp w := by
  have hget : ∀ (i : Nat) (x : ABlk), (lset none h b)[i]? = some (some x) → i ≠ b ∧ h[i]? = some (some x) := by
    intro i x hx
    rw [lset_eq, List.getElem?_set] at hx
    split at hx
    · split at hx <;> cases hx
    · rename_i hne
      exact ⟨fun e => hne e.symm, hx⟩
  have hother : ∀ i, i ≠ b → (lset none h b)[i]? = h[i]? := fun i hi => by
    rw [lset_eq, List.getElem?_set_ne (fun e => hi e.symm)]
  refine ⟨⟨[], by simp⟩, ⟨hr.below, by rw [lset_eq]; simpa using hr.len, fun i x hx => hr.real i x (hget i x hx).2, fun i x r K hl => hr.blk i x r K ⟨(hget i x hl.1).2, hl.2⟩,
    fun i j x y r K K' h1 h2 => hr.inj i j x y r K K' ⟨(hget i x h1.1).2, h1.2⟩ ⟨(hget j y h2.1).2, h2.2⟩⟩, Nat.le_refl _, Nat.min_le_left _ _, Nat.le_refl _, fun i hi hil => ⟨hother i (by omega), fun _ _ _ _ => rfl⟩,
    fun i hi hil x hx => ⟨x, (hget i x hx).2, rfl, ⟨rfl, rfl⟩, fun _ _ => .inr rfl⟩, fun _ _ _ => rfl, fun i x r K hl _ => ⟨i, x, K, (hget i x hl.1).2, hl.2⟩⟩

theorem endL_sound (hr : HR E m h w) {b r K : Nat} {p : Option AExit} {h' : Heap} (hs : endL h b = some (p, h')) (hm : m[b]? = some (some (r, K))) (lw lp : Nat) :
    ∃ rc, w.heap[r]? = some (.loop rc) ∧ rc.state ≠ .busy ∧ rc.pending = p.map jumpC ∧ p ≠ some .norm ∧ Tn E m h lw lp w m h' (min lw b) lp (w.putObj r (.loop { rc with state := .exhausted })) := by
  unfold endL at hs
  split at hs
  · rename_i blk hb
    split at hs
    · rename_i L s p' hg
      split at hs
      · cases hs
      · rename_i hnb
        cases hs
        obtain ⟨hn, rc, h1, h2⟩ := hr.loop hb hg hm
        have T := hr.putL (s' := .exhausted) hb hg hm h1 h2.2.2.1 lw lp
        rw [← h2.2.1] at T
        have T2 := T.hr.gone b (min lw b) lp
        have e : lset none (lset (some { blk with g := some (.lp L .exhausted p) }) h b) b = lset none h b := by
          simp [lset_eq, List.set_set]
        rw [e, Nat.min_assoc, Nat.min_self] at T2
        exact ⟨rc, h1, by rw [h2.1]; exact hnb, h2.2.1, h2.2.2.1, Tn.trans hr T T2⟩
    · cases hs
  · cases hs

theorem putPs_trn {nt : Nat} : ∀ (ps : List Nat) (vs : List AVal) (vs' : List Value) (t : Tr) (tmps : Array Value), tmps.size = nt → (∀ n, n < nt → VR E.rl m (t.get n) (tmps.getD n undef)) → (∀ n ∈ ps, n < nt) → vs.length = vs'.length → vs.length = ps.length →
    (∀ (i : Nat) (v : AVal), vs[i]? = some v → VR E.rl m v (vs'.getD i undef)) →
    ((ps.zip vs').foldl (fun tmps (t, a) => tmps.setIfInBounds t a) tmps).size = nt ∧ ∀ n, n < nt → VR E.rl m ((putPs t ps vs).get n) (((ps.zip vs').foldl (fun tmps (t, a) => tmps.setIfInBounds t a) tmps).getD n undef)
  | [], [], [], t, tmps, h1, h2, _, _, _, _ => ⟨h1, h2⟩
  | p :: ps, v :: vs, v' :: vs', t, tmps, h1, h2, h3, h4, h5, h6 => by
    have hp := h3 p (by simp)
    have hv : VR E.rl m v v' := by simpa using h6 0 v rfl
    have := putPs_trn ps vs vs' (t.set p v) (tmps.setIfInBounds p v') (by simpa using h1) (fun n hn => by
      rw [get_set]
      split
      · rename_i e
        subst e
        have : p < tmps.size := by omega
        simpa [Array.getD_eq_getD_getElem?, this] using hv
      · rename_i e
        have := h2 n hn
        simpa [Array.getD_eq_getD_getElem?, Array.getElem?_setIfInBounds_ne e] using this) (fun n hn => h3 n (by simp [hn])) (by simpa using h4) (by simpa using h5) (fun i u hu => by simpa using h6 (i + 1) u (by simpa using hu))
    simpa [putPs] using this
  | [], [], _ :: _, _, _, _, _, _, h, _, _ => by simp at h
  | [], _ :: _, _, _, _, _, _, _, _, h, _ => by simp at h
  | _ :: _, [], _, _, _, _, _, _, _, h, _ => by simp at h
  | _ :: _, _ :: _, [], _, _, _, _, _, h, _, _ => by simp at h

/-- a round asked for -/
def RndOk (E : Env) (rnd : Rounds) : Prop :=
  ∀ b vs h v h' lw lp, rnd b vs h = some (v, h', lw, lp) → ∀ m w (vs' : Array Value) (rr K : Nat), HR E m h w → LR E.rl m vs vs' → m[b]? = some (some (rr, K)) →
    ∃ fn tmps asg body, (Instr.yield rr vs').run E.P w = .ok (.round rr fn tmps asg body) w ∧
      RoundIn Fence.wide 0 E.P rr fn tmps asg body w fun e w' => ∃ v', e = .returned v' ∧ ∃ m', VR E.rl m' v v' ∧ Tn E m h h.length h.length w m' h' lw lp w'

variable {nt : Nat} {call : Caller} {rnd : Rounds} {ops : Array Oper} {o : Oper} {a : Act} {st st' : St} {v : AVal} {K : Act → World → Prop} {Q : Exit → Act → World → Prop} {r : Option Nat}

theorem opY_wp {k : Kind} (hE : E.Ok) (hcall : CallOk E call) (hrnd : RndOk E rnd) (hr : HR E m st.h w) (ht : TRk E.rl m st.t a k.looks) (hk : compK E.P o.op = some k) (hs : stepY call rnd E.ro st k = some (v, st'))
    (hK : st'.t = st.t → ∀ v' m' w', VR E.rl m' v v' → Tn E m st.h st.lw st.lp w m' st'.h st'.lw st'.lp w' → K (a.put o.dst v') w') : o.wpIn (FW r) 0 E.P a w K Q := by
  have plain : stepC call E.ro st k = some (v, st') → o.wpIn (FW r) 0 E.P a w K Q := fun h => wp_in (compK_nd hk) (op_wp hE hcall hr ht hk h hK)
  unfold stepY at hs
  split at hs
  · rename_i x args
    split at hs
    · rename_i b hb
      split at hs
      · rename_i u h' lw lp hrn
        cases hs
        obtain ⟨cal, args', ats, as, hop, has, hc⟩ := compK_call (k := .callv x args) rfl hk
        rcases hc with ⟨f, rfl, hc⟩ | ⟨n, rfl, hc⟩ | ⟨_, _, _, _, _, hc⟩
        · cases hc
        rotate_left
        · cases hc
        cases hc
        have rx : VR E.rl m (opd st.t (.t n)) (a.eval (.tmp n)) := copd_sound (x := .tmp n) rfl (ht.mem fun k hk => by simp only [Kind.looks, List.mem_append]; exact .inl hk)
        have ta : TRk E.rl m st.t a (args.flatMap opdT) := ht.mem fun k hk => by simp only [Kind.looks, List.mem_append]; exact .inr hk
        rw [hb] at rx
        obtain ⟨rr, K', e', hm⟩ := rx.inv_yld
        obtain ⟨fn, tmps, asg, body, h1, h2⟩ := hrnd _ _ _ _ _ _ _ hrn m w _ rr K' hr (map_sound has ta) hm
        have hrun : (execOp a.eval o).run E.P w = .ok (.round rr fn tmps asg body) w := by
          simp [execOp, hop, resolve, e', Deferred.ofValue, invoke, h1]
        refine ⟨fun _ _ => trivial, ?_⟩
        rw [Oper.semAt_eq _ _ _ (compK_nd hk), hrun]
        refine ⟨fw_depth, ?_⟩
        refine RoundIn.mono (F := Fence.wide) h2 fun e w' hq => ?_
        obtain ⟨v', rfl, m', hv, T⟩ := hq
        exact hK rfl v' m' w' hv T.relax
      · cases hs
    · exact plain hs
  · exact plain hs

theorem listY_wp (hE : E.Ok) (hcall : CallOk E call) (hrnd : RndOk E rnd) {ds : List Deferred} : ∀ (l0 : List Oper) (l : List AOp) (st st' : St) (m : M) (a : Act) (w : World), compL E.P ops l0 = some l → l.all (AOp.in nt) = true →
    runOpsY call rnd E.ro l st = some st' → HR E m st.h w → TRn E m st.t a nt → a.defers = ds →
    (∀ m' a' w', Tn E m st.h st.lw st.lp w m' st'.h st'.lw st'.lp w' → TRn E m' st'.t a' nt → a'.defers = ds → Q .normal a' w') → wpListIn (FW r) 0 E.P ops Q l0 a w
  | [], l, st, st', m, a, w, hc, _, hrun, hr, ht, hd, hQ => by
    cases hc
    cases hrun
    exact hQ m a w (Tn.refl hr _ _) ht hd
  | o :: l0, l, st, st', m, a, w, hc, hin, hrun, hr, ht, hd, hQ => by
    unfold compL at hc
    split at hc
    · rename_i ao l' h1 h2
      cases hc
      simp only [List.all_cons, Bool.and_eq_true] at hin
      obtain ⟨i1, i2, i3⟩ := AOp.in_spec hin.1
      obtain ⟨d1, d2, d3⟩ := compO_inv h1
      have hw := wanted_eq ht d2 i2
      unfold wpListIn
      rw [hw]
      simp only [runOpsY] at hrun
      cases hwa : wantedA ao.g st.t
      · rw [hwa] at hrun
        simp only [Bool.false_eq_true, if_false] at hrun ⊢
        refine ⟨fun _ _ => trivial, listY_wp hE hcall hrnd l0 l' _ st' m _ w h2 hin.2 hrun hr ?_ (by rw [defers_put]; exact hd) hQ⟩
        rw [← d1]; exact ht.put i3 (VR.und _ _)
      · rw [hwa] at hrun
        simp only [if_true] at hrun ⊢
        split at hrun
        · rename_i v st1 hst
          refine opY_wp hE hcall hrnd hr (ht.trk i1) d3 hst fun htt v' m' w' hv T => ?_
          refine listY_wp hE hcall hrnd l0 l' _ st' m' _ w' h2 hin.2 hrun T.hr ?_ (by rw [defers_put]; exact hd) fun m2 a2 w2 T2 ht2 hd2 => hQ m2 a2 w2 (Tn.trans hr T T2) ht2 hd2
          rw [← d1]
          show TRn E m' (put st1.t ao.dst v) _ nt
          rw [htt]
          exact (ht.mono T.mle).put i3 hv
        · cases hrun
    · cases hc

/- the marks of loops among what is deferred -/
def Mk (B0 : Nat) (m : M) (h : Heap) (w : World) (ds : List Deferred) : Prop :=
  ∃ Ds : List Nat, ds = Ds.map (fun D => { target := .collected D, args := #[] }) ∧ Ds.Nodup ∧ ∀ D ∈ Ds, B0 ≤ D ∧ w.heap[D]? = some (.deferred (some [])) ∧ ∀ i b K, ¬ Live m h i b D K
theorem Mk.nil {B0 : Nat} : Mk B0 m h w [] := ⟨[], rfl, by simp, by simp⟩
theorem Mk.mono {B0 lw lp lw' lp' : Nat} {m' : M} {h' : Heap} {w' : World} {ds : List Deferred} (hk : Mk B0 m h w ds) (T : Tn E m h lw lp w m' h' lw' lp' w') : Mk B0 m' h' w' ds := by
  obtain ⟨Ds, e, hnd, hD⟩ := hk
  refine ⟨Ds, e, hnd, fun D hm => ?_⟩
  obtain ⟨h1, h2, h3⟩ := hD D hm
  have hlt : D < w.heap.size := (Array.getElem?_eq_some_iff.1 h2).1
  refine ⟨h1, by rw [T.keepo D hlt h3]; exact h2, fun i b K hl => ?_⟩
  obtain ⟨j, b', K', hj⟩ := T.own i b D K hl hlt
  exact h3 j b' K' hj
theorem Mk.push {B0 D : Nat} {ds : List Deferred} (hk : Mk B0 m h w ds) (hB : B0 ≤ D) (hD : w.heap[D]? = some (.deferred (some []))) (hn : ∀ i b K, ¬ Live m h i b D K) (hnew : ∀ d ∈ ds, d.target ≠ .collected D) : Mk B0 m h w ({ target := .collected D, args := #[] } :: ds) := by
  obtain ⟨Ds, e, hnd, hDs⟩ := hk
  refine ⟨D :: Ds, by simp [e], List.nodup_cons.2 ⟨fun hm => ?_, hnd⟩, fun x hx => ?_⟩
  · exact hnew { target := .collected D, args := #[] } (by rw [e]; exact List.mem_map.2 ⟨D, hm, rfl⟩) rfl
  · rcases List.mem_cons.1 hx with rfl | hx
    · exact ⟨hB, hD, hn⟩
    · exact hDs x hx
end
end Go.Vm

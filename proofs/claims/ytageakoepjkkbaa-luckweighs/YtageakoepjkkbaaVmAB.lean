/- Regions whose order is open: whatever the order, the end is that of the text's order. -/
import Derived.Test.YtageakoepjkkbaaVmFL
namespace Go.Vm
open Go.RowKit

theorem writes_trace {ro : List ABlk} {ck : List ((Loc × List AVal) × AVal)} : ∀ (ws : List (Loc × List AVal)) (st st' : St), writes ro ck ws st = some st' → ∃ η : Nat → St, η 0 = st ∧ (∀ (c : Nat) (q : Loc) (vs : List AVal), ws[c]? = some (q, vs) →
    wrH (η c).h q vs = some (η (c + 1)).h ∧ ckOk ro (η (c + 1)).h ck = true ∧ (η (c + 1)).lw = min (η c).lw q.b ∧ (η (c + 1)).lp = cond (nonp vs) (η c).lp (min (η c).lp q.b)) ∧ η ws.length = st' ∧ st'.t = st.t
  | [], st, st', h => by cases h; exact ⟨fun _ => st, rfl, by simp, rfl, rfl⟩
  | (q, vs) :: ws, st, st', h => by
    unfold writes at h
    split at h
    · rename_i h1 hw
      split at h
      · rename_i hck
        obtain ⟨η, e0, e1, e2, e3⟩ := writes_trace ws _ st' h
        refine ⟨fun | 0 => st | i + 1 => η i, rfl, fun c q' vs' hc => ?_, e2, e3⟩
        cases c with
        | zero =>
          simp only [List.getElem?_cons_zero, Option.some.injEq, Prod.mk.injEq] at hc
          obtain ⟨rfl, rfl⟩ := hc
          show wrH st.h q vs = some (η 0).h ∧ ckOk ro (η 0).h ck = true ∧ (η 0).lw = min st.lw q.b ∧ (η 0).lp = cond (nonp vs) st.lp (min st.lp q.b)
          rw [e0]
          refine ⟨hw, hck, rfl, ?_⟩
          cases nonp vs <;> rfl
        | succ c => exact e1 c q' vs' (by simpa using hc)
      · cases h
    · cases h

theorem cnt_le (S : Array Bool) : ∀ n, cnt S n ≤ n
  | 0 => Nat.le_refl _
  | n + 1 => by
    have := cnt_le S n
    simp only [cnt]
    cases S.getD n false <;> simp <;> omega

section
variable {ds : List Deferred} {E : Env} {call : Caller} {ops : Array Oper} {l : List AOp} {ms : List Nat} {nt : Nat} {m : M} {st st' : St} {w0 : World} {σ : Nat → AnyS} {val : Nat → AVal} {η : Nat → St} {flg : Nat → Bool}

/-- nothing is ready: all is done -/
theorem all_done {S : Array Bool} (hsz : S.size = ops.size) (he : edgesOk ops.toList = true) (hr : Region.ready .any ops S = []) : ∀ i, i < ops.size → S.getD i false = true := by
  intro i
  induction i using Nat.strongRecOn with
  | _ i ih =>
    intro hi
    cases hb : S.getD i false
    · exfalso
      have ho : ops[i]? = some ops[i] := by simp [hi]
      have hmem : i ∈ Region.ready .any ops S := by
        refine mem_ready.2 ⟨?_, ops[i], ho, fun e hem hbi => ?_⟩
        · have : i < S.size := by omega
          simp [Array.getD_eq_getD_getElem?, this] at hb ⊢
          exact hb
        · simp only [edgesOk, List.all_eq_true] at he
          have h1 := he (ops[i], i) (by rw [List.mem_zipIdx_iff_getElem?]; simp)
          have h2 := h1 e (by simpa using hem)
          simp only [hbi, Bool.not_true, Bool.false_or, Nat.blt_eq] at h2
          exact ih e.on h2 (by omega)
      rw [hr] at hmem; cases hmem
    · rfl

variable (R : Reg E call ops l ms nt m st w0 σ val η flg)
include R

theorem Reg.fin {S : Array Bool} {a : Act} {w : World} (hI : Inv ds E ops l nt m st w0 σ val η S a w) (hS : ∀ i, i < ops.size → S.getD i false = true) (hlast : η (σ l.length).ws.length = st') (ht : st'.t = (σ l.length).t) :
    ∃ m1, Tn E m st.h st.lw st.lp w0 m1 st'.h st'.lw st'.lp w ∧ TRn E m1 st'.t a nt ∧ a.defers = ds := by
  obtain ⟨hc, hd, hsz, m1, c, hslots, hcle, hh, ph⟩ := hI
  have hlen := R.len_ops
  have hL : ∀ k, k < l.length → Lsd S k = true := fun k hk => hS k (by omega)
  have hce : c = (σ l.length).ws.length := by
    rcases Nat.lt_or_ge c (σ l.length).ws.length with h | h
    · obtain ⟨k, y, hk, hy, hhk, hws⟩ := R.ws_cover (Nat.le_refl _) h
      have := (hh k y hy hhk).1 (hL k hk)
      omega
    · omega
  refine ⟨m1, ?_, ⟨hsz, fun s hs => ?_⟩, hd⟩
  · rcases ph with ⟨hc0, h1, T, hl1, hals⟩ | ⟨hc0, _, T⟩
    · have hfull := R.heap_full T hl1 fun k y e z hy hyk => by
        have := (hals k y e z hy hyk).1
        rw [hL k (List.getElem?_eq_some_iff.1 hy).1] at this
        simpa using this
      rw [← hlast, ← hce, hc0, R.e0, ← hfull]
      exact T.anyL _ _
    · rw [← hlast, ← hce]
      exact T
  · rw [ht, R.slots l.length (Nat.le_refl _) s, ← ts_congr (S := Lsd S) l.length fun k hk _ => hL k hk]
    exact hslots s hs

theorem Reg.all_wp (hE : E.Ok) (hcall : CallOk E call) (he : edgesOk ops.toList = true) {Q : Exit → Act → World → Prop} (hlast : η (σ l.length).ws.length = st') (ht : st'.t = (σ l.length).t)
    (hQ : ∀ m' a' w', Tn E m st.h st.lw st.lp w0 m' st'.h st'.lw st'.lp w' → TRn E m' st'.t a' nt → a'.defers = ds → Q .normal a' w') :
    ∀ (fuel : Nat) (S : Array Bool) (a : Act) (w : World), S.size = ops.size → cnt S ops.size ≤ fuel → Inv ds E ops l nt m st w0 σ val η S a w → wpAny E.P .any ops Q fuel S a w := by
  intro fuel
  induction fuel with
  | zero =>
    intro S a w hsz hf hI
    have hall := cnt_zero (S := S) ops.size (by omega)
    refine ⟨?_, ?_⟩
    · cases hr : Region.ready .any ops S with
      | nil => rfl
      | cons i rs =>
        exfalso
        have hm : i ∈ Region.ready .any ops S := by rw [hr]; simp
        obtain ⟨hun, o, ho, _⟩ := mem_ready.1 hm
        have hi : i < ops.size := (Array.getElem?_eq_some_iff.1 ho).1
        have := hall i hi
        rw [getD_both hun] at this; cases this
    · obtain ⟨m1, T, htr, hd⟩ := R.fin hI hall hlast ht
      exact hQ m1 a w T htr hd
  | succ fuel ih =>
    intro S a w hsz hf hI
    refine ⟨fun hr => ?_, fun i hi => ?_⟩
    · obtain ⟨m1, T, htr, hd⟩ := R.fin hI (all_done hsz he hr) hlast ht
      exact hQ m1 a w T htr hd
    · refine R.step_wp hE hcall hI hi fun a' w' hI' => ih _ a' w' (by simpa using hsz) ?_ hI'
      obtain ⟨hun, o, ho, _⟩ := mem_ready.1 hi
      have hio : i < ops.size := (Array.getElem?_eq_some_iff.1 ho).1
      have := cnt_set hun ops.size hio
      omega

theorem Reg.start {a : Act} (ht : TRn E m st.t a nt) (hd : a.defers = ds) : Inv ds E ops l nt m st w0 σ val η (Array.replicate ops.size false) a w0.drew := by
  have hf : ∀ k, Lsd (Array.replicate ops.size false) k = false := fun k => by
    simp [Lsd, Array.getD_eq_getD_getElem?, Array.getElem?_replicate]
    split <;> rfl
  obtain ⟨y, hy⟩ := R.hp_grow (i := 0) (k := l.length) (by omega) (Nat.le_refl _)
  have h0 : (σ 0).h = st.h := by rw [R.s0]
  rw [h0] at hy
  have T := R.hr.pad y.length st.h.length st.h.length
  refine ⟨fun j o _ hl => ?_, hd, ht.1, m ++ List.replicate y.length none, 0, fun s hs => ?_, Nat.zero_le _, fun k x _ _ => ?_, .inl ⟨rfl, st.h ++ List.replicate y.length none, Tn.trans R.hr T (Tn.drew T.hr _ _), by rw [hy]; simp, fun j x e z hx hk => ?_⟩⟩
  · have := hf j
    rw [Lsd, hl] at this; cases this
  · rw [ts_congr (S' := fun k => decide (k < 0)) l.length fun k _ _ => by rw [hf]; simp, ts_before 0 l.length (Nat.zero_le _)]
    exact (ht.2 s hs).mono (Mle.app _ _)
  · rw [hf]; simp
  · have hjl : j < l.length := (List.getElem?_eq_some_iff.1 hx).1
    obtain ⟨y1, hy1⟩ := R.hp_grow (i := 0) (k := j) (by omega) (by omega)
    obtain ⟨y2, hy2⟩ := R.hp_grow (i := j + 1) (k := l.length) (by omega) (Nat.le_refl _)
    have hlo : st.h.length ≤ (σ j).h.length := by rw [hy1, h0]; simp
    have hhi : (σ j).h.length < st.h.length + y.length := by
      have e1 : (σ l.length).h.length = st.h.length + y.length := by rw [hy]; simp
      rcases R.hp j x hx with ⟨_, _, _, he⟩ | ⟨hn, _⟩
      · rw [hy2, he] at e1; simp at e1; omega
      · exact absurd hk (hn e z)
    rw [hf]
    refine ⟨?_, fun _ => ?_⟩
    · rw [List.getElem?_append_right hlo, List.getElem?_replicate, if_pos (by omega)]; rfl
    · rw [List.getElem?_append_right (by rw [R.hr.len]; exact hlo), List.getElem?_replicate, if_pos (by rw [R.hr.len]; omega)]


theorem Reg.start0 {a : Act} (ht : TRn E m st.t a nt) (hd : a.defers = ds) : Inv ds E ops l nt m st w0 σ val η (Array.replicate ops.size false) a w0 := by
  have hf : ∀ k, Lsd (Array.replicate ops.size false) k = false := fun k => by
    simp [Lsd, Array.getD_eq_getD_getElem?, Array.getElem?_replicate]
    split <;> rfl
  obtain ⟨y, hy⟩ := R.hp_grow (i := 0) (k := l.length) (by omega) (Nat.le_refl _)
  have h0 : (σ 0).h = st.h := by rw [R.s0]
  rw [h0] at hy
  have T := R.hr.pad y.length st.h.length st.h.length
  refine ⟨fun j o _ hl => ?_, hd, ht.1, m ++ List.replicate y.length none, 0, fun s hs => ?_, Nat.zero_le _, fun k x _ _ => ?_, .inl ⟨rfl, st.h ++ List.replicate y.length none, T, by rw [hy]; simp, fun j x e z hx hk => ?_⟩⟩
  · have := hf j
    rw [Lsd, hl] at this; cases this
  · rw [ts_congr (S' := fun k => decide (k < 0)) l.length fun k _ _ => by rw [hf]; simp, ts_before 0 l.length (Nat.zero_le _)]
    exact (ht.2 s hs).mono (Mle.app _ _)
  · rw [hf]; simp
  · have hjl : j < l.length := (List.getElem?_eq_some_iff.1 hx).1
    obtain ⟨y1, hy1⟩ := R.hp_grow (i := 0) (k := j) (by omega) (by omega)
    obtain ⟨y2, hy2⟩ := R.hp_grow (i := j + 1) (k := l.length) (by omega) (Nat.le_refl _)
    have hlo : st.h.length ≤ (σ j).h.length := by rw [hy1, h0]; simp
    have hhi : (σ j).h.length < st.h.length + y.length := by
      have e1 : (σ l.length).h.length = st.h.length + y.length := by rw [hy]; simp
      rcases R.hp j x hx with ⟨_, _, _, he⟩ | ⟨hn, _⟩
      · rw [hy2, he] at e1; simp at e1; omega
      · exact absurd hk (hn e z)
    rw [hf]
    refine ⟨?_, fun _ => ?_⟩
    · rw [List.getElem?_append_right hlo, List.getElem?_replicate, if_pos (by omega)]; rfl
    · rw [List.getElem?_append_right (by rw [R.hr.len]; exact hlo), List.getElem?_replicate, if_pos (by rw [R.hr.len]; omega)]


end

section
variable {ds : List Deferred} {E : Env} {call : Caller}

/-- the run of a region whose order is open, told for the laws -/
theorem reg_of {ops : Array Oper} {l : List AOp} {nt : Nat} {m : M} {st st' : St} {w : World} (hl : compL E.P ops ops.toList = some l) (hin : ((flags (masks [] ops.toList) l).all fun o => AOp.in nt o.1) = true)
    (hpairs : pairsOk (masks [] ops.toList) l = true) (hguards : guardsOk l = true) (hx : execAny call E.ro (flags (masks [] ops.toList) l) st = some st') (hr : HR E m st.h w) :
    ∃ σ val η flg, Reg E call ops l (masks [] ops.toList) nt m st w σ val η flg ∧ η (σ l.length).ws.length = st' ∧ st'.t = (σ l.length).t := by
  generalize hms : masks [] ops.toList = ms at *
  unfold execAny at hx
  split at hx
  · rename_i sN hrun
    obtain ⟨σ, val, h0, hstep, hN⟩ := trace _ _ _ hrun
    obtain ⟨η, e0, e1, e2, e3⟩ := writes_trace _ _ _ hx
    have hfl : (flags ms l).length = l.length := by simp [flags]
    rw [hfl] at hN
    subst hN
    have hflag : ∃ flg : Nat → Bool, ∀ (i : Nat) (x : AOp), l[i]? = some x → (flags ms l)[i]? = some (x, flg i) ∧
        (flg i = false → ∀ one n q, x.k = .ld one n q → ∀ (j : Nat) (y : AOp), l[j]? = some y → hardK y.k = true → (ms.getD j 0).testBit i = true) := by
      refine ⟨fun i => match (flags ms l)[i]? with | some x => x.2 | none => false, fun i x hxi => ?_⟩
      have hz : l.zipIdx[i]? = some (x, i) := by simp [List.getElem?_zipIdx, hxi]
      have hfi : (flags ms l)[i]? = some (x, match x.k with
        | .ld .. => !(l.zipIdx.all fun (y, j) => !hardK y.k || (ms.getD j 0).testBit i)
        | _ => false) := by
        simp only [flags, List.getElem?_map, hz, Option.map_some]
        generalize x.k = kk
        cases kk <;> rfl
      simp only [hfi, true_and]
      intro hff one n q hk j y hy hhk
      rw [hk] at hff
      simp only [Bool.not_eq_false', List.all_eq_true] at hff
      have := hff (y, j) (by rw [List.mem_zipIdx_iff_getElem?]; exact hy)
      simpa [hhk] using this
    obtain ⟨flg, hflg⟩ := hflag
    have R : Reg E call ops l ms nt m st w σ val η flg := by
      refine ⟨hl, ?_, ?_, ?_, ?_, fun i x hx => (hflg i x hx).2, hr, h0, fun i x hx => hstep i _ (hflg i x hx).1, e0, fun c q vs hc => e1 c q vs hc⟩
      · rw [← hms]
        exact masks_edged ops ops.toList [] (fun j i hb => by simp at hb) (by simp)
      · intro i x hxi
        rw [List.all_eq_true] at hin
        exact hin (x, flg i) (List.mem_of_getElem? (hflg i x hxi).1)
      · intro i j x y hxi hyj
        simp only [pairsOk, List.all_eq_true] at hpairs
        have := hpairs (y, j) (by rw [List.mem_zipIdx_iff_getElem?]; exact hyj) (x, i) (by rw [List.mem_zipIdx_iff_getElem?]; exact hxi)
        simp only [Bool.and_eq_true, Bool.or_eq_true, Bool.not_eq_true', Bool.and_eq_false_iff] at this
        obtain ⟨k1, k2⟩ := this
        refine ⟨fun hij hmw => ?_, fun hs hh => ?_⟩
        · rcases k1 with k | k
          · rcases k with k | k
            · have : Nat.blt i j = true := by rw [Nat.blt_eq]; exact hij
              rw [this] at k; cases k
            · rw [hmw] at k; cases k
          · exact k
        · rcases k2 with k | k
          · rcases k with k | k
            · rw [hs] at k; cases k
            · rw [hh] at k; cases k
          · exact k
      · intro i x hxi
        simp only [guardsOk, List.all_eq_true] at hguards
        have := hguards x (List.mem_of_getElem? hxi)
        simp only [Bool.and_eq_true, Bool.or_eq_true, Bool.not_eq_true', Bool.or_eq_false_iff, Option.isNone_iff_eq_none] at this
        refine ⟨this.1, fun hor => ?_⟩
        rcases this.2 with k | ⟨k1, k2⟩
        · exact k
        · rcases hor with h | h
          · rw [k1] at h; cases h
          · rw [k2] at h; cases h
    exact ⟨σ, val, η, flg, R, by simpa using e2, e3⟩
  · cases hx

theorem wpOp_bare {ops B : Array Oper} {Q : Exit → Act → World → Prop} {i j : Nat} {o : Oper} {K : Act → World → Prop} {a : Act} {w : World} (hi : ops[i]? = some o) (hj : B[j]? = some (bare o)) (hg : o.guard = none)
    (h : wpOp E.P B Q j K a w) : wpOp E.P ops Q i K a w := by
  unfold wpOp at h ⊢
  simp only [hi]
  simp only [hj] at h
  have h1 : Region.wanted (bare o) (yielded B a.tmps) = true := by simp [Region.wanted, bare, hg]
  have h2 : Region.wanted o (yielded ops a.tmps) = true := by simp [Region.wanted, hg]
  rw [h1] at h
  rw [h2]
  simp only [if_true] at h ⊢
  exact h

/-- a phase, one operation after the other -/
theorem phase_go {B ops : Array Oper} {l : List AOp} {ms : List Nat} {nt : Nat} {m : M} {st st1 : St} {w0 : World} {σ : Nat → AnyS} {val : Nat → AVal} {η : Nat → St} {flg : Nat → Bool} {Rl : List Nat} {final : Array Bool} {room : Nat} {Q : Exit → Act → World → Prop}
    (R : Reg E call B l ms nt m st w0 σ val η flg) (hE : E.Ok) (hcall : CallOk E call) (hsame : ∀ (j i : Nat), Rl[j]? = some i → ∃ o, ops[i]? = some o ∧ o.guard = none ∧ B[j]? = some (bare o)) (hsize : B.size = Rl.length)
    (hnd : ∀ (j j' i : Nat), Rl[j]? = some i → Rl[j']? = some i → j = j') (hlast : η (σ l.length).ws.length = st1) (ht1 : st1.t = (σ l.length).t)
    (hK : ∀ m' a' w', Tn E m st.h st.lw st.lp w0 m' st1.h st1.lw st1.lp w' → TRn E m' st1.t a' nt → a'.defers = ds → wpAny E.P .any ops Q room final a' w') :
    ∀ (n : Nat) (S listed : Array Bool) (rem : List Nat) (a : Act) (w : World), phaseChk ops final n listed rem = true → (∀ i, i ∈ rem → ∃ j : Nat, Rl[j]? = some i ∧ S.getD j true = false) →
      (∀ (j i : Nat), Rl[j]? = some i → S.getD j true = false → i ∈ rem) → S.size = B.size → Inv ds E B l nt m st w0 σ val η S a w → wpAny E.P .any ops Q (n + room) listed a w
  | 0, S, listed, rem, a, w, hc, h1, h2, hsz, hI => by
    simp only [phaseChk, Bool.and_eq_true, List.isEmpty_iff, beq_iff_eq] at hc
    obtain ⟨rfl, rfl⟩ := hc
    have hall : ∀ i, i < B.size → S.getD i false = true := fun j hj => by
      cases hb : S.getD j false
      · exfalso
        have hjl : j < Rl.length := by omega
        have hgt : S.getD j true = false := by
          have : j < S.size := by omega
          simpa [Array.getD_eq_getD_getElem?, this] using hb
        have := h2 j Rl[j] (by simp [hjl]) hgt
        cases this
      · rfl
    obtain ⟨m1, T, htr, hd⟩ := R.fin hI hall hlast ht1
    rw [Nat.zero_add]
    exact hK m1 a w T htr hd
  | n + 1, S, listed, rem, a, w, hc, h1, h2, hsz, hI => by
    simp only [phaseChk, Bool.and_eq_true, List.all_eq_true, beq_iff_eq, Bool.not_eq_true', List.isEmpty_eq_false_iff] at hc
    obtain ⟨⟨hne, hready⟩, hall⟩ := hc
    rw [show n + 1 + room = (n + room) + 1 by omega]
    refine wpAny_all hready hne fun i hi => ?_
    obtain ⟨j, hj, hSj⟩ := h1 i hi
    obtain ⟨o, ho, hg, hB⟩ := hsame j i hj
    refine wpOp_bare ho hB hg (R.step_wp hE hcall hI (mem_ready.2 ⟨hSj, bare o, hB, fun e he => by simp [bare] at he⟩) fun a' w' hI' => ?_)
    refine phase_go R hE hcall hsame hsize hnd hlast ht1 hK n _ _ _ a' w' (hall i hi) (fun i' hi' => ?_) (fun j' i' hj' hS' => ?_) (by simpa using hsz) hI'
    · rw [List.mem_filter] at hi'
      obtain ⟨k1, k2⟩ := hi'
      obtain ⟨j', hj', hS'⟩ := h1 i' k1
      have hjj : j ≠ j' := fun e => by
        subst e
        rw [hj] at hj'; cases hj'
        simp at k2
      exact ⟨j', hj', by rw [getD_set_ne _ hjj]; exact hS'⟩
    · have hjj : j ≠ j' := fun e => by
        subst e
        have hjs : j < S.size := by
          have : j < Rl.length := (List.getElem?_eq_some_iff.1 hj).1
          omega
        simp [Array.getD_eq_getD_getElem?, hjs] at hS'
      rw [getD_set_ne _ hjj] at hS'
      have hm := h2 j' i' hj' hS'
      refine List.mem_filter.2 ⟨hm, ?_⟩
      have : i' ≠ i := fun e => by
        subst e
        exact hjj (hnd j j' i' hj hj')
      simpa using this

theorem gets_spec {ops : Array Oper} : ∀ {R : List Nat} {os : List Oper}, gets ops R = some os → os.length = R.length ∧ ∀ (j i : Nat), R[j]? = some i → ∃ o, ops[i]? = some o ∧ os[j]? = some o
  | [], os, h => by cases h; exact ⟨rfl, by simp⟩
  | i :: l, os, h => by
    unfold gets at h
    split at h
    · rename_i o os' h1 h2
      cases h
      obtain ⟨k1, k2⟩ := gets_spec h2
      refine ⟨by simp [k1], fun j i' hj => ?_⟩
      cases j with
      | zero => simp at hj; subst hj; exact ⟨o, h1, by simp⟩
      | succ j => obtain ⟨o', e1, e2⟩ := k2 j i' (by simpa using hj); exact ⟨o', e1, by simpa using e2⟩
    · cases h

theorem nodupB_spec : ∀ {l : List Nat}, nodupB l = true → ∀ (j j' i : Nat), l[j]? = some i → l[j']? = some i → j = j'
  | [], _, j, j', i, h, _ => by simp at h
  | a :: l, hn, j, j', i, h, h' => by
    simp only [nodupB, Bool.and_eq_true, Bool.not_eq_true', List.contains_eq_mem, decide_eq_false_iff_not] at hn
    cases j with
    | zero =>
      cases j' with
      | zero => rfl
      | succ j' =>
        simp at h h'
        subst h
        exact absurd (List.mem_of_getElem? h') hn.1
    | succ j =>
      cases j' with
      | zero =>
        simp at h h'
        subst h'
        exact absurd (List.mem_of_getElem? h) hn.1
      | succ j' =>
        rw [nodupB_spec hn.2 j j' i (by simpa using h) (by simpa using h')]

/-- all that are ready, in any order -/
theorem phase_wp (hE : E.Ok) (hcall : CallOk E call) {ops : Array Oper} {listed final : Array Bool} {Rl : List Nat} {f : List (AOp × Bool)} {nt : Nat} {m : M} {st st1 : St} {a : Act} {w : World} {room : Nat} {Q : Exit → Act → World → Prop}
    (hf : phase E.P ops listed final Rl = some f) (hin : (f.all fun o => AOp.in nt o.1) = true) (hx : execAny call E.ro f st = some st1) (hr : HR E m st.h w) (ht : TRn E m st.t a nt) (hd : a.defers = ds)
    (hK : ∀ m' a' w', Tn E m st.h st.lw st.lp w m' st1.h st1.lw st1.lp w' → TRn E m' st1.t a' nt → a'.defers = ds → wpAny E.P .any ops Q room final a' w') : wpAny E.P .any ops Q (Rl.length + room) listed a w := by
  unfold phase at hf
  split at hf
  · rename_i os hos
    split at hf
    · rename_i l hl
      split at hf
      · rename_i hchk
        simp only [Option.some.injEq] at hf
        subst hf
        simp only [Bool.and_eq_true] at hchk
        obtain ⟨⟨⟨hgd, ⟨hpairs, hguards⟩, hedges⟩, hnd⟩, hpc⟩ := hchk
        obtain ⟨hlen, hget⟩ := gets_spec hos
        obtain ⟨σ, val, η, flg, R, hlast, ht1⟩ := reg_of (ops := (os.map bare).toArray) (nt := nt) hl hin hpairs hguards hx hr
        have hsize : (os.map bare).toArray.size = Rl.length := by simp [hlen]
        refine phase_go R hE hcall (Rl := Rl) (fun j i hj => ?_) hsize (nodupB_spec hnd) hlast ht1 hK Rl.length (Array.replicate (os.map bare).toArray.size false) listed Rl a w hpc (fun i hi => ?_) (fun j i hj _ => List.mem_of_getElem? hj) (by simp) (R.start0 ht hd)
        · obtain ⟨o, h1, h2⟩ := hget j i hj
          refine ⟨o, h1, ?_, by simp [h2]⟩
          have := List.all_eq_true.1 hgd o (List.mem_of_getElem? h2)
          simpa using this
        · obtain ⟨j, hj, rfl⟩ := List.getElem_of_mem hi
          refine ⟨j, by simp [hj], ?_⟩
          have : j < os.length := by omega
          simp [Array.getD_eq_getD_getElem?, this]
      · cases hf
    · cases hf
  · cases hf

/-- a schedule with phases has run -/
def RunS (E : Env) : Sch → St → St → Prop
  | .fin l, st, st' => ∃ call, CallOk E call ∧ runOps call E.ro l st = some st'
  | .more l f r, st, st' => ∃ c1 st1 c2 st2, CallOk E c1 ∧ runOps c1 E.ro l st = some st1 ∧ CallOk E c2 ∧ execAny c2 E.ro f st1 = some st2 ∧ RunS E r st2 st'

theorem runS_cons {o : AOp} {s : Sch} {st st' : St} (h : RunS E (s.cons o) st st') : ∃ call, CallOk E call ∧
    ((wantedA o.g st.t = true ∧ ∃ v st1, stepC call E.ro st o.k = some (v, st1) ∧ RunS E s { st1 with t := put st1.t o.dst v } st') ∨ (wantedA o.g st.t = false ∧ RunS E s { st with t := put st.t o.dst und } st')) := by
  cases s with
  | fin l =>
    obtain ⟨call, hc, h⟩ := h
    simp only [runOps] at h
    refine ⟨call, hc, ?_⟩
    cases hw : wantedA o.g st.t
    · rw [hw] at h
      simp only [Bool.false_eq_true, if_false] at h
      exact .inr ⟨rfl, call, hc, h⟩
    · rw [hw] at h
      simp only [if_true] at h
      split at h
      · rename_i v st1 hs
        exact .inl ⟨rfl, v, st1, hs, call, hc, h⟩
      · cases h
  | more l f r =>
    obtain ⟨call, st2, c2, st3, hc, h, rest⟩ := h
    simp only [runOps] at h
    refine ⟨call, hc, ?_⟩
    cases hw : wantedA o.g st.t
    · rw [hw] at h
      simp only [Bool.false_eq_true, if_false] at h
      exact .inr ⟨rfl, call, st2, c2, st3, hc, h, rest⟩
    · rw [hw] at h
      simp only [if_true] at h
      split at h
      · rename_i v st1 hs
        exact .inl ⟨rfl, v, st1, hs, call, st2, c2, st3, hc, h, rest⟩
      · cases h

theorem in_cons {o : AOp} {s : Sch} {nt : Nat} (h : (s.cons o).asm.in nt = true) : o.in nt = true ∧ s.asm.in nt = true := by
  cases s with
  | fin l => simpa [Sch.cons, Sch.asm, ACode.in] using h
  | more l f r =>
    simp only [Sch.cons, Sch.asm, ACode.in, List.all_cons, Bool.and_eq_true] at h ⊢
    exact ⟨h.1.1, h.1.2, h.2⟩

theorem asm_run {F : Tab} : ∀ (s : Sch) (n : Nat) (st st' : St) (e : AExit), (∀ k, k < n → CallOk E (callA F E.ro (exec F E.ro k))) → exec F E.ro n s.asm st = some (e, st') → e = .norm ∧ RunS E s st st'
  | .fin l, 0, st, st', e, _, h => by simp [exec] at h
  | .fin l, n + 1, st, st', e, hc, h => by
    simp only [Sch.asm, exec] at h
    split at h
    · rename_i st1 h1
      cases h
      exact ⟨rfl, _, hc n (by omega), h1⟩
    · cases h
  | .more l f r, 0, st, st', e, _, h => by simp [exec] at h
  | .more l f r, 1, st, st', e, _, h => by simp [Sch.asm, exec] at h
  | .more l f r, 2, st, st', e, _, h => by
    simp only [Sch.asm, exec] at h
    split at h
    · cases h
    · rename_i r hne
      split at h
      · rename_i st1 h1
        rw [h1] at hne
        exact (hne st1 rfl).elim
      · cases h
  | .more l f r, n + 3, st, st', e, hc, h => by
    have h0 : exec F E.ro (n + 3) (Sch.more l f r).asm st = match (match runOps (callA F E.ro (exec F E.ro (n + 1))) E.ro l st with | some st' => some (AExit.norm, st') | none => none) with
      | some (.norm, st') => exec F E.ro (n + 2) (.seq (.any f) r.asm) st'
      | r => r := rfl
    rw [h0] at h
    cases h1 : runOps (callA F E.ro (exec F E.ro (n + 1))) E.ro l st with
    | none => rw [h1] at h; cases h
    | some st1 =>
      rw [h1] at h
      simp only at h
      have h0' : exec F E.ro (n + 2) (.seq (.any f) r.asm) st1 = match (match execAny (callA F E.ro (exec F E.ro n)) E.ro f st1 with | some st' => some (AExit.norm, st') | none => none) with
        | some (.norm, st') => exec F E.ro (n + 1) r.asm st'
        | r => r := rfl
      rw [h0'] at h
      cases h2 : execAny (callA F E.ro (exec F E.ro n)) E.ro f st1 with
      | none => rw [h2] at h; cases h
      | some st2 =>
        rw [h2] at h
        simp only at h
        obtain ⟨rfl, hr⟩ := asm_run r (n + 1) st2 st' e (fun k hk => hc k (by omega)) h
        exact ⟨rfl, _, st1, _, st2, hc (n + 1) (by omega), h1, hc n (by omega), h2, hr⟩

variable {ops : Array Oper} {nt : Nat}
theorem steps_wp (hE : E.Ok) (hns : Region.noSelect ops = true) {l : List AOp} (hc : compL E.P ops ops.toList = some l) {Q : Exit → Act → World → Prop}
    (hP : ∀ c a w, ¬ Q (.panic c) a w) : ∀ (fuel room : Nat) (listed : Array Bool) (s : Sch) (st st' : St) (m : M) (a : Act) (w : World), steps E.P ops l fuel room listed = some s → s.asm.in nt = true →
    RunS E s st st' → HR E m st.h w → TRn E m st.t a nt → a.defers = ds →
    (∀ m' a' w', Tn E m st.h st.lw st.lp w m' st'.h st'.lw st'.lp w' → TRn E m' st'.t a' nt → a'.defers = ds → Q .normal a' w') → wpAny E.P .any ops Q room listed a w
  | 0, room, listed, s, st, st', m, a, w, hs, _, hrun, hr, ht, hd, hQ => by
    unfold steps at hs
    split at hs
    · rename_i he
      cases hs
      obtain ⟨call, _, hrun⟩ := hrun
      cases hrun
      exact wpAny_done (by simpa using he) (hQ m a w (Tn.refl hr _ _) ht hd) _
    · cases hs
  | fuel + 1, room, listed, s, st, st', m, a, w, hs, hin, hrun, hr, ht, hd, hQ => by
    obtain ⟨hlen, hget⟩ := compL_get hc
    -- one operation more, and the rest
    have rest : ∀ (room : Nat) (j : Nat) (o : Oper) (ao : AOp) (s' : Sch), ops[j]? = some o → l[j]? = some ao → s = s'.cons ao → steps E.P ops l fuel room (listed.setIfInBounds j true) = some s' →
        wpOp E.P ops Q j (wpAny E.P .any ops Q room (listed.setIfInBounds j true)) a w := by
      intro room j o ao s' hj hl e hs'
      subst e
      obtain ⟨ao', e1, e2⟩ := hget j o (by simpa using hj)
      rw [hl] at e1; cases e1
      obtain ⟨hinj, hin'⟩ := in_cons hin
      obtain ⟨i1, i2, i3⟩ := AOp.in_spec hinj
      obtain ⟨d1, d2, d3⟩ := compO_inv e2
      unfold wpOp
      simp only [hj]
      rw [wanted_eq ht d2 i2]
      obtain ⟨call, hcall, hrun'⟩ := runS_cons hrun
      rcases hrun' with ⟨hwa, v, st1, hst, hrun'⟩ | ⟨hwa, hrun'⟩
      · rw [hwa]
        simp only [if_true]
        refine .inl (op_wp hE hcall hr (ht.trk i1) d3 hst fun htt v' m' w' hv T => ?_)
        refine steps_wp hE hns hc hP fuel room _ s' _ st' m' _ w' hs' hin' hrun' T.hr ?_ (by rw [defers_put]; exact hd) fun m2 a2 w2 T2 ht2 hd2 => hQ m2 a2 w2 (Tn.trans hr T T2) ht2 hd2
        rw [← d1]
        show TRn E m' (put st1.t ao.dst v) _ nt
        rw [htt]
        exact (ht.mono T.mle).put i3 hv
      · rw [hwa]
        simp only [Bool.false_eq_true, if_false]
        refine steps_wp hE hns hc hP fuel room _ s' _ st' m _ w hs' hin' hrun' hr ?_ (by rw [defers_put]; exact hd) hQ
        rw [← d1]; exact ht.put i3 (VR.und _ _)
    unfold steps at hs
    split at hs
    · rename_i he
      cases hs
      obtain ⟨call, _, hrun⟩ := hrun
      cases hrun
      exact wpAny_done he (hQ m a w (Tn.refl hr _ _) ht hd) _
    · rename_i i rs he
      have hready : ∀ j, j ∈ Region.ready .any ops listed → ∃ o, ops[j]? = some o := fun j hj => by
        obtain ⟨_, o, ho, _⟩ := mem_ready.1 hj; exact ⟨o, ho⟩
      split at hs
      · rename_i j hf
        have hjm : j ∈ Region.ready .any ops listed := by rw [he]; exact List.mem_of_find?_eq_some hf
        have htk := List.find?_some hf
        obtain ⟨o, ho⟩ := hready j hjm
        split at hs
        · rename_i ao s' hroom hl hs'
          cases hs
          obtain ⟨r0, rfl⟩ : ∃ r0, room = r0 + 1 := ⟨room - 1, by rw [Nat.blt_eq] at hroom; omega⟩
          simp only [Nat.add_sub_cancel] at hs'
          simp only [takes, hl, Bool.and_eq_true] at htk
          obtain ⟨hpure, hfree⟩ := htk
          obtain ⟨ao', e1, e2⟩ := hget j o (by simpa using ho)
          rw [hl] at e1; cases e1
          obtain ⟨hinj, hin'⟩ := in_cons hin
          obtain ⟨i1, i2, i3⟩ := AOp.in_spec hinj
          obtain ⟨d1, d2, d3⟩ := compO_inv e2
          have hQp : ∀ c a w (d : Option Tmp) (v : Value), Q (.panic c) (a.put d v) w → Q (.panic c) a w := fun c a w d v h => absurd h (hP c _ w)
          obtain ⟨call, hcall, hrun'⟩ := runS_cons hrun
          rcases hrun' with ⟨hwa, v, st1, hst, hrun'⟩ | ⟨hwa, hrun'⟩
          · cases hk : ao.k with
            | pure k =>
              rw [hk] at hst
              simp only [stepC, stepK] at hst
              cases hv : evP st.t k with
              | none => rw [hv] at hst; cases hst
              | some u =>
                rw [hv] at hst
                simp only [Option.map_some, Option.some.injEq, Prod.mk.injEq] at hst
                obtain ⟨rfl, rfl⟩ := hst
                obtain ⟨v', hy, hvr⟩ := yields_pure ht e2 hinj hk hwa hv
                refine wpAny_take ho hns hfree (by simpa using hjm) (fun c a w => hQp c a w _ _) hy ?_
                refine steps_wp hE hns hc hP fuel r0 _ s' _ st' m _ w hs' hin' hrun' hr ?_ (by rw [defers_put]; exact hd) hQ
                rw [← d1]; exact ht.put i3 hvr
            | _ => rw [hk] at hpure; cases hpure
          · refine wpAny_take (v := undef) ho hns hfree (by simpa using hjm) (fun c a w => hQp c a w _ _) (.inr ⟨by rw [wanted_eq ht d2 i2]; exact hwa, rfl⟩) ?_
            refine steps_wp hE hns hc hP fuel r0 _ s' _ st' m _ w hs' hin' hrun' hr ?_ (by rw [defers_put]; exact hd) hQ
            rw [← d1]; exact ht.put i3 (VR.und _ _)
        · cases hs
      · split at hs
        · split at hs
          · rename_i ao s' hroom hl hs'
            cases hs
            obtain ⟨r0, rfl⟩ : ∃ r0, room = r0 + 1 := ⟨room - 1, by rw [Nat.blt_eq] at hroom; omega⟩
            simp only [Nat.add_sub_cancel] at hs'
            obtain ⟨o, ho⟩ := hready i (by rw [he]; simp)
            refine wpAny_all he (by simp) fun j hj => ?_
            simp at hj; subst hj
            exact rest _ _ o ao s' ho hl rfl hs'
          · cases hs
        · split at hs
          · rename_i f s' hroom hf hs'
            cases hs
            obtain ⟨c1, st1, c2, st2, hc1, hr1, hc2, hx, hrun'⟩ := hrun
            cases hr1
            rw [Nat.ble_eq] at hroom
            simp only [Sch.asm, ACode.in, Bool.and_eq_true] at hin
            have hsplit : room = (i :: rs).length + (room - (i :: rs).length) := by omega
            rw [hsplit]
            refine phase_wp hE hc2 hf hin.2.1 hx hr ht hd fun m' a' w' T ht' hd' => ?_
            exact steps_wp hE hns hc hP fuel _ _ s' _ st' m' a' w' hs' hin.2.2 hrun' T.hr ht' hd' fun m2 a2 w2 T2 ht2 hd2 => hQ m2 a2 w2 (Tn.trans hr T T2) ht2 hd2
          · cases hs

end

theorem flt_one (E : Env) (hE : E.Ok) {F : Tab} {n : Nat} (hcalls : ∀ k, k ≤ n → CallOk E (callA F E.ro (exec F E.ro k))) {ops : Array Oper} {l : List AOp} {ac : ACode} {nt : Nat} {st : St} {e : AExit} {st' : St} {m : M} {a : Act} {w : World} {Q : Exit → Act → World → Prop} {ds : List Deferred}
  (hl : compL E.P ops ops.toList = some l) (hns : Region.noSelect ops = true) (hc : fltR ops l = some ac) (hin : ac.in nt = true) (hx : exec F E.ro (n + 1) ac st = some (e, st')) (hr : HR E m st.h w) (ht : TRn E m st.t a nt) (hd : a.defers = ds)
  (hQ : ∀ m' a' w', Tn E m st.h st.lw st.lp w m' st'.h st'.lw st'.lp w' → TRn E m' st'.t a' nt → a'.defers = ds → Q (toE e) a' w') : wpAny E.P .any ops (normQ Q) ops.size (Array.replicate ops.size false) a w.drew := by
  unfold fltR at hc
  split at hc
  · rename_i hchk
    cases hc
    simp only [Bool.and_eq_true] at hchk
    obtain ⟨hpairs, hedges⟩ := hchk
    simp only [exec] at hx
    split at hx
    · rename_i st1 h1
      simp only [Option.some.injEq, Prod.mk.injEq] at hx
      obtain ⟨rfl, rfl⟩ := hx
      obtain ⟨σ, val, flg, af, R, rfl⟩ := freg_of (nt := nt) hl hin hpairs h1 hr
      have fin : ∀ (S : Array Bool) (a : Act) (w2 : World), FInv ds E ops l nt m st w σ val S a w2 → (∀ i, i < ops.size → S.getD i false = true) → normQ Q .normal a w2 := fun S a w2 hI hS => by
        obtain ⟨m1, T, htr, hd'⟩ := R.fin hI hS
        exact hQ m1 a w2 T.relax htr hd'
      have go : ∀ (fuel : Nat) (S : Array Bool) (a : Act) (w2 : World), S.size = ops.size → cnt S ops.size ≤ fuel → FInv ds E ops l nt m st w σ val S a w2 → wpAny E.P .any ops (normQ Q) fuel S a w2 := by
        intro fuel
        induction fuel with
        | zero =>
          intro S a w2 hsz hf hI
          have hall := cnt_zero (S := S) ops.size (by omega)
          refine ⟨?_, fin S a w2 hI hall⟩
          cases hr : Region.ready .any ops S with
          | nil => rfl
          | cons i rs =>
            exfalso
            have hm : i ∈ Region.ready .any ops S := by rw [hr]; simp
            obtain ⟨hun, o, ho, _⟩ := mem_ready.1 hm
            have hi : i < ops.size := (Array.getElem?_eq_some_iff.1 ho).1
            have := hall i hi
            rw [getD_both hun] at this; cases this
        | succ fuel ih =>
          intro S a w2 hsz hf hI
          refine ⟨fun hr => fin S a w2 hI (all_done hsz hedges hr), fun i hi => ?_⟩
          refine R.step_wp hE (hcalls n (Nat.le_refl _)) hI hi fun a' w' hI' => ih _ a' w' (by simpa using hsz) ?_ hI'
          obtain ⟨hun, o, ho, _⟩ := mem_ready.1 hi
          have hio : i < ops.size := (Array.getElem?_eq_some_iff.1 ho).1
          have := cnt_set hun ops.size hio
          omega
      exact go ops.size _ a w.drew (by simp) (cnt_le _ _) (R.start ht hd)
    · cases hx
  · cases hc

theorem any_one (E : Env) (hE : E.Ok) {F : Tab} {n : Nat} (hcalls : ∀ k, k ≤ n → CallOk E (callA F E.ro (exec F E.ro k))) {ops : Array Oper} {l : List AOp} {ac : ACode} {nt : Nat} {st : St} {e : AExit} {st' : St} {m : M} {a : Act} {w : World} {Q : Exit → Act → World → Prop} {ds : List Deferred}
  (hl : compL E.P ops ops.toList = some l) (hns : Region.noSelect ops = true) (hc : anyR0 E.P ops l = some ac) (hin : ac.in nt = true) (hx : exec F E.ro (n + 1) ac st = some (e, st')) (hr : HR E m st.h w) (ht : TRn E m st.t a nt) (hd : a.defers = ds)
  (hQ : ∀ m' a' w', Tn E m st.h st.lw st.lp w m' st'.h st'.lw st'.lp w' → TRn E m' st'.t a' nt → a'.defers = ds → Q (toE e) a' w') : wpAny E.P .any ops (normQ Q) ops.size (Array.replicate ops.size false) a w.drew := by
  unfold anyR0 at hc
  split at hc
  · rename_i hchk
    cases hc
    simp only [Bool.and_eq_true] at hchk
    obtain ⟨⟨hpairs, hguards⟩, hedges⟩ := hchk
    simp only [exec] at hx
    split at hx
    · rename_i st1 h1
      simp only [Option.some.injEq, Prod.mk.injEq] at hx
      obtain ⟨rfl, rfl⟩ := hx
      obtain ⟨σ, val, η, flg, R, hlast, e3⟩ := reg_of (nt := nt) hl hin hpairs hguards h1 hr
      exact R.all_wp (Q := normQ Q) hE (hcalls n (Nat.le_refl _)) hedges hlast e3 hQ ops.size _ a w.drew (by simp) (cnt_le _ _) (R.start ht hd)
    · cases hx
  · split at hc
    · rename_i s hs
      cases hc
      obtain ⟨rfl, hrun⟩ := asm_run s (n + 1) st st' e (fun k hk => hcalls k (by omega)) hx
      exact steps_wp (nt := nt) hE hns hl (Q := normQ Q) (fun _ _ _ h => h) ops.size ops.size (Array.replicate ops.size false) s st st' m a w.drew hs hin hrun hr.drew ht hd
        (fun m' a' w' T ht' hd' => hQ m' a' w' (Tn.trans hr (Tn.drew hr _ _) T) ht' hd')
    · exact flt_one E hE hcalls hl hns hc hin hx hr ht hd hQ

theorem any_ok (E : Env) (hE : E.Ok) (_hm : E.P.follows .mixedOrders = true) : AnyOk E := by
  intro F n hcalls ops l ac nt st e st' m a w Q ds hl hns hc hin hx hr ht hd hQ
  unfold anyR at hc
  split at hc
  · split at hc
    · rename_i x hf
      cases hc
      exact flt_one E hE hcalls hl hns hf hin hx hr ht hd hQ
    · exact any_one E hE hcalls hl hns hc hin hx hr ht hd hQ
  · exact any_one E hE hcalls hl hns hc hin hx hr ht hd hQ

end Go.Vm

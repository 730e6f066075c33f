/- Regions whose order is open: whatever the order, the end is that of the text's order. -/
import Derived.Test.YtjjinlljdfaipaaVmAA
namespace Go.Vm
open Go.RowKit

theorem writes_trace {ro : List ABlk} {ck : List ((Loc × List AVal) × AVal)} : ∀ (ws : List (Loc × List AVal)) (st st' : St), writes ro ck ws st = some st' → ∃ η : Nat → St, η 0 = st ∧ (∀ (c : Nat) (q : Loc) (vs : List AVal), ws[c]? = some (q, vs) →
    wrH (η c).h q vs = some (η (c + 1)).h ∧ ckOk ro (η (c + 1)).h ck = true ∧ (η (c + 1)).lw = min (η c).lw q.b ∧ (η (c + 1)).lp = cond (nonp vs) (η c).lp (min (η c).lp q.b)) ∧ η ws.length = st' ∧ st'.t = st.t
  | [], st, st', h => by cases h; exact ⟨fun _ => st, rfl, by simp, rfl, rfl⟩
  | (q, vs) :: ws, st, st', h => by
    unfold writes at h
    split at h
    · rename_i h1 hw
      split at h
      · rename_i hck
        obtain ⟨η, e0, e1, e2, e3⟩ := writes_trace ws _ st' h
        refine ⟨fun | 0 => st | i + 1 => η i, rfl, fun c q' vs' hc => ?_, e2, e3⟩
        cases c with
        | zero =>
          simp only [List.getElem?_cons_zero, Option.some.injEq, Prod.mk.injEq] at hc
          obtain ⟨rfl, rfl⟩ := hc
          show wrH st.h q vs = some (η 0).h ∧ ckOk ro (η 0).h ck = true ∧ (η 0).lw = min st.lw q.b ∧ (η 0).lp = cond (nonp vs) st.lp (min st.lp q.b)
          rw [e0]
          refine ⟨hw, hck, rfl, ?_⟩
          cases nonp vs <;> rfl
        | succ c => exact e1 c q' vs' (by simpa using hc)
      · cases h
    · cases h

theorem cnt_le (S : Array Bool) : ∀ n, cnt S n ≤ n
  | 0 => Nat.le_refl _
  | n + 1 => by
    have := cnt_le S n
    simp only [cnt]
    cases S.getD n false <;> simp <;> omega

section
variable {E : Env} {call : Caller} {ops : Array Oper} {l : List AOp} {ms : List Nat} {nt : Nat} {m : M} {st st' : St} {w0 : World} {σ : Nat → AnyS} {val : Nat → AVal} {η : Nat → St} {flg : Nat → Bool}

/-- nothing is ready: all is done -/
theorem all_done {S : Array Bool} (hsz : S.size = ops.size) (he : edgesOk ops.toList = true) (hr : Region.ready .any ops S = []) : ∀ i, i < ops.size → S.getD i false = true := by
  intro i
  induction i using Nat.strongRecOn with
  | _ i ih =>
    intro hi
    cases hb : S.getD i false
    · exfalso
      have ho : ops[i]? = some ops[i] := by simp [hi]
      have hmem : i ∈ Region.ready .any ops S := by
        refine mem_ready.2 ⟨?_, ops[i], ho, fun e hem hbi => ?_⟩
        · have : i < S.size := by omega
          simp [Array.getD_eq_getD_getElem?, this] at hb ⊢
          exact hb
        · simp only [edgesOk, List.all_eq_true] at he
          have h1 := he (ops[i], i) (by rw [List.mem_zipIdx_iff_getElem?]; simp)
          have h2 := h1 e (by simpa using hem)
          simp only [hbi, Bool.not_true, Bool.false_or, Nat.blt_eq] at h2
          exact ih e.on h2 (by omega)
      rw [hr] at hmem; cases hmem
    · rfl

variable (R : Reg E call ops l ms nt m st w0 σ val η flg)
include R

theorem Reg.fin {S : Array Bool} {a : Act} {w : World} (hI : Inv E ops l nt m st w0 σ val η S a w) (hS : ∀ i, i < ops.size → S.getD i false = true) (hlast : η (σ l.length).ws.length = st') (ht : st'.t = (σ l.length).t) :
    ∃ m1, Tn E m st.h st.lw st.lp w0 m1 st'.h st'.lw st'.lp w ∧ TRn E m1 st'.t a nt ∧ a.defers = [] := by
  obtain ⟨hc, hd, hsz, m1, c, hslots, hcle, hh, ph⟩ := hI
  have hlen := R.len_ops
  have hL : ∀ k, k < l.length → Lsd S k = true := fun k hk => hS k (by omega)
  have hce : c = (σ l.length).ws.length := by
    rcases Nat.lt_or_ge c (σ l.length).ws.length with h | h
    · obtain ⟨k, y, hk, hy, hhk, hws⟩ := R.ws_cover (Nat.le_refl _) h
      have := (hh k y hy hhk).1 (hL k hk)
      omega
    · omega
  refine ⟨m1, ?_, ⟨hsz, fun s hs => ?_⟩, hd⟩
  · rcases ph with ⟨hc0, h1, T, hl1, hals⟩ | ⟨hc0, _, T⟩
    · have hfull := R.heap_full T hl1 fun k y e z hy hyk => by
        have := (hals k y e z hy hyk).1
        rw [hL k (List.getElem?_eq_some_iff.1 hy).1] at this
        simpa using this
      rw [← hlast, ← hce, hc0, R.e0, ← hfull]
      exact T.anyL _ _
    · rw [← hlast, ← hce]
      exact T
  · rw [ht, R.slots l.length (Nat.le_refl _) s, ← ts_congr (S := Lsd S) l.length fun k hk _ => hL k hk]
    exact hslots s hs

theorem Reg.all_wp (hE : E.Ok) (hcall : CallOk E call) (he : edgesOk ops.toList = true) {Q : Exit → Act → World → Prop} (hlast : η (σ l.length).ws.length = st') (ht : st'.t = (σ l.length).t)
    (hQ : ∀ m' a' w', Tn E m st.h st.lw st.lp w0 m' st'.h st'.lw st'.lp w' → TRn E m' st'.t a' nt → a'.defers = [] → Q .normal a' w') :
    ∀ (fuel : Nat) (S : Array Bool) (a : Act) (w : World), S.size = ops.size → cnt S ops.size ≤ fuel → Inv E ops l nt m st w0 σ val η S a w → wpAny E.P .any ops Q fuel S a w := by
  intro fuel
  induction fuel with
  | zero =>
    intro S a w hsz hf hI
    have hall := cnt_zero (S := S) ops.size (by omega)
    refine ⟨?_, ?_⟩
    · cases hr : Region.ready .any ops S with
      | nil => rfl
      | cons i rs =>
        exfalso
        have hm : i ∈ Region.ready .any ops S := by rw [hr]; simp
        obtain ⟨hun, o, ho, _⟩ := mem_ready.1 hm
        have hi : i < ops.size := (Array.getElem?_eq_some_iff.1 ho).1
        have := hall i hi
        rw [getD_both hun] at this; cases this
    · obtain ⟨m1, T, htr, hd⟩ := R.fin hI hall hlast ht
      exact hQ m1 a w T htr hd
  | succ fuel ih =>
    intro S a w hsz hf hI
    refine ⟨fun hr => ?_, fun i hi => ?_⟩
    · obtain ⟨m1, T, htr, hd⟩ := R.fin hI (all_done hsz he hr) hlast ht
      exact hQ m1 a w T htr hd
    · refine R.step_wp hE hcall hI hi fun a' w' hI' => ih _ a' w' (by simpa using hsz) ?_ hI'
      obtain ⟨hun, o, ho, _⟩ := mem_ready.1 hi
      have hio : i < ops.size := (Array.getElem?_eq_some_iff.1 ho).1
      have := cnt_set hun ops.size hio
      omega

theorem Reg.start {a : Act} (ht : TRn E m st.t a nt) (hd : a.defers = []) : Inv E ops l nt m st w0 σ val η (Array.replicate ops.size false) a w0.drew := by
  have hf : ∀ k, Lsd (Array.replicate ops.size false) k = false := fun k => by
    simp [Lsd, Array.getD_eq_getD_getElem?, Array.getElem?_replicate]
    split <;> rfl
  obtain ⟨y, hy⟩ := R.hp_grow (i := 0) (k := l.length) (by omega) (Nat.le_refl _)
  have h0 : (σ 0).h = st.h := by rw [R.s0]
  rw [h0] at hy
  have T := R.hr.pad y.length st.h.length st.h.length
  refine ⟨fun j o _ hl => ?_, hd, ht.1, m ++ List.replicate y.length none, 0, fun s hs => ?_, Nat.zero_le _, fun k x _ _ => ?_, .inl ⟨rfl, st.h ++ List.replicate y.length none, Tn.trans R.hr T (Tn.drew T.hr _ _), by rw [hy]; simp, fun j x e z hx hk => ?_⟩⟩
  · have := hf j
    rw [Lsd, hl] at this; cases this
  · rw [ts_congr (S' := fun k => decide (k < 0)) l.length fun k _ _ => by rw [hf]; simp, ts_before 0 l.length (Nat.zero_le _)]
    exact (ht.2 s hs).mono (Mle.app _ _)
  · rw [hf]; simp
  · have hjl : j < l.length := (List.getElem?_eq_some_iff.1 hx).1
    obtain ⟨y1, hy1⟩ := R.hp_grow (i := 0) (k := j) (by omega) (by omega)
    obtain ⟨y2, hy2⟩ := R.hp_grow (i := j + 1) (k := l.length) (by omega) (Nat.le_refl _)
    have hlo : st.h.length ≤ (σ j).h.length := by rw [hy1, h0]; simp
    have hhi : (σ j).h.length < st.h.length + y.length := by
      have e1 : (σ l.length).h.length = st.h.length + y.length := by rw [hy]; simp
      rcases R.hp j x hx with ⟨_, _, _, he⟩ | ⟨hn, _⟩
      · rw [hy2, he] at e1; simp at e1; omega
      · exact absurd hk (hn e z)
    rw [hf]
    refine ⟨?_, fun _ => ?_⟩
    · rw [List.getElem?_append_right hlo, List.getElem?_replicate, if_pos (by omega)]; rfl
    · rw [List.getElem?_append_right (by rw [R.hr.len]; exact hlo), List.getElem?_replicate, if_pos (by rw [R.hr.len]; omega)]

end

theorem any_ok (E : Env) (hE : E.Ok) (hm : E.P.follows .mixedOrders = true) : AnyOk E := by
  intro call hcall id ops l' nt st st' m a w Q hc hin hx hr ht hd hQ
  unfold compR at hc
  split at hc
  · cases hc
  · rename_i l hl
    simp only [Bool.not_true, Bool.false_eq_true, if_false] at hc
    split at hc
    · cases hc
    · split at hc
      · cases hc
      · split at hc
        · rename_i hchk
          simp only [Option.some.injEq, ACode.any.injEq] at hc
          subst hc
          simp only [Bool.and_eq_true] at hchk
          obtain ⟨⟨hpairs, hguards⟩, hedges⟩ := hchk
          generalize hms : masks [] ops.toList = ms at *
          unfold execAny at hx
          split at hx
          · rename_i sN hrun
            obtain ⟨σ, val, h0, hstep, hN⟩ := trace _ _ _ hrun
            obtain ⟨η, e0, e1, e2, e3⟩ := writes_trace _ _ _ hx
            have hfl : (flags ms l).length = l.length := by simp [flags]
            rw [hfl] at hN
            subst hN
            have hflag : ∃ flg : Nat → Bool, ∀ (i : Nat) (x : AOp), l[i]? = some x → (flags ms l)[i]? = some (x, flg i) ∧
                (flg i = false → ∀ one n q, x.k = .ld one n q → ∀ (j : Nat) (y : AOp), l[j]? = some y → hardK y.k = true → (ms.getD j 0).testBit i = true) := by
              refine ⟨fun i => match (flags ms l)[i]? with | some x => x.2 | none => false, fun i x hxi => ?_⟩
              have hz : l.zipIdx[i]? = some (x, i) := by simp [List.getElem?_zipIdx, hxi]
              have hfi : (flags ms l)[i]? = some (x, match x.k with
                | .ld .. => !(l.zipIdx.all fun (y, j) => !hardK y.k || (ms.getD j 0).testBit i)
                | _ => false) := by
                simp only [flags, List.getElem?_map, hz, Option.map_some]
                generalize x.k = kk
                cases kk <;> rfl
              simp only [hfi, true_and]
              intro hff one n q hk j y hy hhk
              rw [hk] at hff
              simp only [Bool.not_eq_false', List.all_eq_true] at hff
              have := hff (y, j) (by rw [List.mem_zipIdx_iff_getElem?]; exact hy)
              simpa [hhk] using this
            obtain ⟨flg, hflg⟩ := hflag
            have R : Reg E call ops l ms nt m st w σ val η flg := by
              refine ⟨hl, ?_, ?_, ?_, ?_, fun i x hx => (hflg i x hx).2, hr, h0, fun i x hx => hstep i _ (hflg i x hx).1, e0, fun c q vs hc => e1 c q vs hc⟩
              · rw [← hms]
                exact masks_edged ops ops.toList [] (fun j i hb => by simp at hb) (by simp)
              · intro i x hxi
                rw [List.all_eq_true] at hin
                exact hin (x, flg i) (List.mem_of_getElem? (hflg i x hxi).1)
              · intro i j x y hxi hyj
                simp only [pairsOk, List.all_eq_true] at hpairs
                have := hpairs (y, j) (by rw [List.mem_zipIdx_iff_getElem?]; exact hyj) (x, i) (by rw [List.mem_zipIdx_iff_getElem?]; exact hxi)
                simp only [Bool.and_eq_true, Bool.or_eq_true, Bool.not_eq_true', Bool.and_eq_false_iff] at this
                obtain ⟨k1, k2⟩ := this
                refine ⟨fun hij hmw => ?_, fun hs hh => ?_⟩
                · rcases k1 with k | k
                  · rcases k with k | k
                    · have : Nat.blt i j = true := by rw [Nat.blt_eq]; exact hij
                      rw [this] at k; cases k
                    · rw [hmw] at k; cases k
                  · exact k
                · rcases k2 with k | k
                  · rcases k with k | k
                    · rw [hs] at k; cases k
                    · rw [hh] at k; cases k
                  · exact k
              · intro i x hxi
                simp only [guardsOk, List.all_eq_true] at hguards
                have := hguards x (List.mem_of_getElem? hxi)
                simp only [Bool.and_eq_true, Bool.or_eq_true, Bool.not_eq_true', Bool.or_eq_false_iff, Option.isNone_iff_eq_none] at this
                refine ⟨this.1, fun hor => ?_⟩
                rcases this.2 with k | ⟨k1, k2⟩
                · exact k
                · rcases hor with h | h
                  · rw [k1] at h; cases h
                  · rw [k2] at h; cases h
            have hlast : η (σ l.length).ws.length = st' := by simpa using e2
            exact wp_region_any hm (R.all_wp hE hcall hedges hlast e3 hQ ops.size _ a w.drew (by simp) (cnt_le _ _) (R.start ht hd))
          · cases hx
        · cases hc

end Go.Vm

/- Lists of operations, and regions with a schedule. -/
import Derived.Test.YtageakoepjkkbaaVmR
namespace Go.Vm
open Go.RowKit

theorem defers_put (a : Act) (d : Option Tmp) (v : Value) : (a.put d v).defers = a.defers := by cases d <;> rfl

theorem compO_inv {P : Program} {ops : Array Oper} {o : Oper} {ao : AOp} (h : compO P ops o = some ao) : ao.dst = o.dst ∧ compG ops o.guard = some ao.g ∧ compK P o.op = some ao.k := by
  unfold compO at h
  split at h
  · cases h; exact ⟨rfl, ‹_›, ‹_›⟩
  · cases h

theorem compL_get {P : Program} {ops : Array Oper} : ∀ {l0 : List Oper} {l : List AOp}, compL P ops l0 = some l → l.length = l0.length ∧ ∀ (i : Nat) (o : Oper), l0[i]? = some o → ∃ ao : AOp, l[i]? = some ao ∧ compO P ops o = some ao
  | [], l, h => by cases h; exact ⟨rfl, by simp⟩
  | o :: l0, l, h => by
    unfold compL at h
    split at h
    · rename_i x xs h1 h2
      cases h
      obtain ⟨k1, k2⟩ := compL_get h2
      refine ⟨by simp [k1], fun i u hu => ?_⟩
      cases i with
      | zero => simp at hu; subst hu; exact ⟨x, by simp, h1⟩
      | succ i => obtain ⟨ao, e1, e2⟩ := k2 i u (by simpa using hu); exact ⟨ao, by simpa using e1, e2⟩
    · cases h

section
variable {E : Env} {nt : Nat} {call : Caller} {ops : Array Oper}

theorem list_wp (hE : E.Ok) (hcall : CallOk E call) {ds : List Deferred} {Q : Exit → Act → World → Prop} : ∀ (l0 : List Oper) (l : List AOp) (st st' : St) (m : M) (a : Act) (w : World), compL E.P ops l0 = some l → l.all (AOp.in nt) = true →
    runOps call E.ro l st = some st' → HR E m st.h w → TRn E m st.t a nt → a.defers = ds →
    (∀ m' a' w', Tn E m st.h st.lw st.lp w m' st'.h st'.lw st'.lp w' → TRn E m' st'.t a' nt → a'.defers = ds → Q .normal a' w') → wpList E.P ops Q l0 a w
  | [], l, st, st', m, a, w, hc, _, hrun, hr, ht, hd, hQ => by
    cases hc
    cases hrun
    exact hQ m a w (Tn.refl hr _ _) ht hd
  | o :: l0, l, st, st', m, a, w, hc, hin, hrun, hr, ht, hd, hQ => by
    unfold compL at hc
    split at hc
    · rename_i ao l' h1 h2
      cases hc
      simp only [List.all_cons, Bool.and_eq_true] at hin
      obtain ⟨i1, i2, i3⟩ := AOp.in_spec hin.1
      obtain ⟨d1, d2, d3⟩ := compO_inv h1
      have hw := wanted_eq ht d2 i2
      unfold wpList
      rw [hw]
      simp only [runOps] at hrun
      cases hwa : wantedA ao.g st.t
      · rw [hwa] at hrun
        simp only [Bool.false_eq_true, if_false] at hrun ⊢
        refine list_wp hE hcall l0 l' _ st' m _ w h2 hin.2 hrun hr ?_ (by rw [defers_put]; exact hd) hQ
        rw [← d1]; exact ht.put i3 (VR.und _ _)
      · rw [hwa] at hrun
        simp only [if_true] at hrun ⊢
        split at hrun
        · rename_i v st1 hst
          refine .inl (op_wp hE hcall hr (ht.trk i1) d3 hst fun htt v' m' w' hv T => ?_)
          refine list_wp hE hcall l0 l' _ st' m' _ w' h2 hin.2 hrun T.hr ?_ (by rw [defers_put]; exact hd) fun m2 a2 w2 T2 ht2 hd2 => hQ m2 a2 w2 (Tn.trans hr T T2) ht2 hd2
          rw [← d1]
          show TRn E m' (put st1.t ao.dst v) _ nt
          rw [htt]
          exact (ht.mono T.mle).put i3 hv
        · cases hrun
    · cases hc

/-- a pure operation yields the same in every world -/
theorem yields_pure {m : M} {t : Tr} {a : Act} {o : Oper} {ao : AOp} {k : PK} (ht : TRn E m t a nt) (hc : compO E.P ops o = some ao) (hin : ao.in nt = true) (hk : ao.k = .pure k) (hw : wantedA ao.g t = true) {v : AVal} (hv : evP t k = some v) :
    ∃ v', Yields E.P ops o v' a ∧ VR E.rl m v v' := by
  obtain ⟨i1, i2, i3⟩ := AOp.in_spec hin
  obtain ⟨d1, d2, d3⟩ := compO_inv hc
  rw [hk] at d3 i1
  obtain ⟨v', h1, h2⟩ := pure_sound d3 (ht.trk i1) hv
  exact ⟨v', .inl ⟨by rw [wanted_eq ht d2 i2]; exact hw, h1⟩, h2⟩

/-- a region with a schedule -/
theorem sched_wp (hE : E.Ok) (hcall : CallOk E call) {ds : List Deferred} (hns : Region.noSelect ops = true) {l : List AOp} (hc : compL E.P ops ops.toList = some l) {Q : Exit → Act → World → Prop}
    (hP : ∀ c a w, ¬ Q (.panic c) a w) : ∀ (fuel : Nat) (listed : Array Bool) (s : List AOp) (st st' : St) (m : M) (a : Act) (w : World), schedule ops l fuel listed = some s → s.all (AOp.in nt) = true →
    runOps call E.ro s st = some st' → HR E m st.h w → TRn E m st.t a nt → a.defers = ds →
    (∀ m' a' w', Tn E m st.h st.lw st.lp w m' st'.h st'.lw st'.lp w' → TRn E m' st'.t a' nt → a'.defers = ds → Q .normal a' w') → wpAny E.P .any ops Q fuel listed a w
  | 0, listed, s, st, st', m, a, w, hs, _, hrun, hr, ht, hd, hQ => by
    unfold schedule at hs
    split at hs
    · rename_i he
      cases hs
      cases hrun
      exact ⟨by simpa using he, hQ m a w (Tn.refl hr _ _) ht hd⟩
    · cases hs
  | fuel + 1, listed, s, st, st', m, a, w, hs, hin, hrun, hr, ht, hd, hQ => by
    obtain ⟨hlen, hget⟩ := compL_get hc
    -- one operation more, and the rest
    have rest : ∀ (j : Nat) (o : Oper) (ao : AOp) (s' : List AOp), ops[j]? = some o → l[j]? = some ao → s = ao :: s' → schedule ops l fuel (listed.setIfInBounds j true) = some s' →
        wpOp E.P ops Q j (wpAny E.P .any ops Q fuel (listed.setIfInBounds j true)) a w := by
      intro j o ao s' hj hl e hs'
      subst e
      obtain ⟨ao', e1, e2⟩ := hget j o (by simpa using hj)
      rw [hl] at e1; cases e1
      simp only [List.all_cons, Bool.and_eq_true] at hin
      have hinj := hin.1
      obtain ⟨i1, i2, i3⟩ := AOp.in_spec hinj
      obtain ⟨d1, d2, d3⟩ := compO_inv e2
      unfold wpOp
      simp only [hj]
      rw [wanted_eq ht d2 i2]
      simp only [runOps] at hrun
      cases hwa : wantedA ao.g st.t
      · rw [hwa] at hrun
        simp only [Bool.false_eq_true, if_false] at hrun ⊢
        refine sched_wp hE hcall hns hc hP fuel _ s' _ st' m _ w hs' hin.2 hrun hr ?_ (by rw [defers_put]; exact hd) hQ
        rw [← d1]; exact ht.put i3 (VR.und _ _)
      · rw [hwa] at hrun
        simp only [if_true] at hrun ⊢
        split at hrun
        · rename_i v st1 hst
          refine .inl (op_wp hE hcall hr (ht.trk i1) d3 hst fun htt v' m' w' hv T => ?_)
          refine sched_wp hE hcall hns hc hP fuel _ s' _ st' m' _ w' hs' hin.2 hrun T.hr ?_ (by rw [defers_put]; exact hd) fun m2 a2 w2 T2 ht2 hd2 => hQ m2 a2 w2 (Tn.trans hr T T2) ht2 hd2
          rw [← d1]
          show TRn E m' (put st1.t ao.dst v) _ nt
          rw [htt]
          exact (ht.mono T.mle).put i3 hv
        · cases hrun
    unfold schedule at hs
    split at hs
    · rename_i he
      cases hs
      cases hrun
      exact wpAny_done he (hQ m a w (Tn.refl hr _ _) ht hd) _
    · rename_i i rs he
      have hready : ∀ j, j ∈ Region.ready .any ops listed → ∃ o, ops[j]? = some o := fun j hj => by
        obtain ⟨_, o, ho, _⟩ := mem_ready.1 hj; exact ⟨o, ho⟩
      split at hs
      · rename_i j hf
        have hjm : j ∈ Region.ready .any ops listed := by rw [he]; exact List.mem_of_find?_eq_some hf
        have htk := List.find?_some hf
        obtain ⟨o, ho⟩ := hready j hjm
        split at hs
        · rename_i ao s' hl hs'
          cases hs
          simp only [takes, hl, Bool.and_eq_true] at htk
          obtain ⟨hpure, hfree⟩ := htk
          obtain ⟨ao', e1, e2⟩ := hget j o (by simpa using ho)
          rw [hl] at e1; cases e1
          simp only [List.all_cons, Bool.and_eq_true] at hin
          have hinj := hin.1
          obtain ⟨i1, i2, i3⟩ := AOp.in_spec hinj
          obtain ⟨d1, d2, d3⟩ := compO_inv e2
          have hQp : ∀ c a w (d : Option Tmp) (v : Value), Q (.panic c) (a.put d v) w → Q (.panic c) a w := fun c a w d v h => absurd h (hP c _ w)
          simp only [runOps] at hrun
          cases hwa : wantedA ao.g st.t
          · rw [hwa] at hrun
            simp only [Bool.false_eq_true, if_false] at hrun
            refine wpAny_take (v := undef) ho hns hfree (by simpa using hjm) (fun c a w => hQp c a w _ _) (.inr ⟨by rw [wanted_eq ht d2 i2]; exact hwa, rfl⟩) ?_
            refine sched_wp hE hcall hns hc hP fuel _ s' _ st' m _ w hs' hin.2 hrun hr ?_ (by rw [defers_put]; exact hd) hQ
            rw [← d1]; exact ht.put i3 (VR.und _ _)
          · rw [hwa] at hrun
            simp only [if_true] at hrun
            cases hk : ao.k with
            | pure k =>
              rw [hk] at hrun
              simp only [stepC, stepK] at hrun
              cases hv : evP st.t k with
              | none => rw [hv] at hrun; cases hrun
              | some v =>
                rw [hv] at hrun
                simp only [Option.map_some] at hrun
                obtain ⟨v', hy, hvr⟩ := yields_pure ht e2 hinj hk hwa hv
                refine wpAny_take ho hns hfree (by simpa using hjm) (fun c a w => hQp c a w _ _) hy ?_
                refine sched_wp hE hcall hns hc hP fuel _ s' _ st' m _ w hs' hin.2 hrun hr ?_ (by rw [defers_put]; exact hd) hQ
                rw [← d1]; exact ht.put i3 hvr
            | _ => rw [hk] at hpure; cases hpure
        · cases hs
      · split at hs
        · split at hs
          · rename_i ao s' hl hs'
            cases hs
            obtain ⟨o, ho⟩ := hready i (by rw [he]; simp)
            refine wpAny_all he (by simp) fun j hj => ?_
            simp at hj; subst hj
            exact rest _ o ao s' ho hl rfl hs'
          · cases hs
        · cases hs

end
end Go.Vm

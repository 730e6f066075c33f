/- Contracts of the functions, part 1. -/
import Derived.Test.YtllmlonngnhbfaaVmKM0
/- The specification's search for a mate; its Mate. -/
open Go.Vm
set_option linter.unusedVariables false
namespace Go.Proofs.Ytllmlonngnhbfaa.Bed
open Go

/-- a loop that tries one after another and ends early when something is found -/
theorem loop_try {R α : Type} {b : Int × Mm → Option ((Int × Mm) ⊕ (Mm ⊕ R))} (n : Nat) (f : Nat → Option α) (I : Mm → Prop) (Q : α → R → Prop)
    (hin : ∀ c m, c < n → I m → match f c with
      | some z => ∃ r, b ((c : Int), m) = some (.inr (.inr r)) ∧ Q z r
      | none => ∃ m', b ((c : Int), m) = some (.inl (((c + 1 : Nat) : Int), m')) ∧ I m')
    (hout : ∀ m, I m → b ((n : Int), m) = some (.inr (.inl m))) : ∀ (k c : Nat) (m : Mm), c + k = n → I m → match tryc f k c with
      | some z => ∃ r, loopX b ((c : Int), m) = some (.inr r) ∧ Q z r
      | none => ∃ m', loopX b ((c : Int), m) = some (.inl m') ∧ I m'
  | 0, c, m, hk, hI => by
    obtain rfl : c = n := by omega
    exact ⟨m, loopX_out (hout m hI), hI⟩
  | k + 1, c, m, hk, hI => by
    have hstep := hin c m (by omega) hI
    unfold tryc
    cases hf : f c with
    | some z =>
      rw [hf] at hstep
      obtain ⟨r, h1, h2⟩ := hstep
      exact ⟨r, loopX_out h1, h2⟩
    | none =>
      rw [hf] at hstep
      obtain ⟨m', h1, h2⟩ := hstep
      have ih := loop_try n f I Q hin hout k (c + 1) m' (by omega) h2
      show match tryc f k (c + 1) with
        | some z => ∃ r, loopX b ((c : Int), m) = some (.inr r) ∧ Q z r
        | none => ∃ m', loopX b ((c : Int), m) = some (.inl m') ∧ I m'
      cases hr : tryc f k (c + 1) with
      | some z =>
        rw [hr] at ih
        obtain ⟨r, h3, h4⟩ := ih
        exact ⟨r, loopX_on h1 h3, h4⟩
      | none =>
        rw [hr] at ih
        obtain ⟨m2, h3, h4⟩ := ih
        exact ⟨m2, loopX_on h1 h3, h4⟩

/-- a pair of crops has been sown -/
def pairP (x : List (List Int)) (now : List Nat) (a b : Nat) : Prop := ∃ q, q < now.length ∧ at2 x (q / x.length) (q % x.length) = (a : Int) ∧ now.getD q 0 = b
open Classical in
def Seen (hp : Heap) (bs : Nat) (x : List (List Int)) (now : List Nat) : Prop := Vec hp 4 bs (x.length * x.length) (fun i => .b (decide (pairP x now (i / x.length) (i % x.length))))

theorem pair_add {x : List (List Int)} {now : List Nat} {c v : Nat} (hv : at2 x (now.length / x.length) (now.length % x.length) = v) (a b : Nat) : pairP x (now ++ [c]) a b ↔ pairP x now a b ∨ (a = v ∧ b = c) := by
  constructor
  · rintro ⟨q, e1, e2, e3⟩
    simp only [List.length_append, List.length_singleton] at e1
    by_cases e : q = now.length
    · subst e
      rw [getD_app'] at e3
      rw [hv] at e2
      exact .inr ⟨by omega, e3.symm⟩
    · rw [getD_app (by omega)] at e3
      exact .inl ⟨q, by omega, e2, e3⟩
  · rintro (⟨q, e1, e2, e3⟩ | ⟨rfl, rfl⟩)
    · exact ⟨q, by simp; omega, e2, by rw [getD_app e1]; exact e3⟩
    · exact ⟨now.length, by simp, hv, getD_app'⟩
theorem okM_iff {x : List (List Int)} (h7 : x.length ≤ 7) {now : List Nat} {c v : Nat} (hc : c < x.length) (hp : now.length < x.length * x.length) (hv : at2 x (now.length / x.length) (now.length % x.length) = v) :
    okM x now c ↔ ¬ pairP x now v c ∧ freeP (bedL x.length (cropN x.length now)) (now.length / x.length) (now.length % x.length) (c : Int) := by
  have hn : 0 < x.length := by omega
  have hr : now.length / x.length < x.length := Nat.div_lt_of_lt_mul hp
  have hcc : now.length % x.length < x.length := Nat.mod_lt _ hn
  unfold okM freeP
  rw [bedL_len]
  constructor
  · rintro ⟨_, h⟩
    refine ⟨fun ⟨q, h1, h2, h3⟩ => (h q h1 h3).2.2 (by rw [h2, hv]), fun i hi => ⟨fun he => ?_, fun he => ?_⟩⟩
    · rw [bedL_at hr hi] at he
      unfold cropN at he
      rw [if_pos ⟨hr, hi⟩] at he
      split at he
      · rename_i hlt
        have := (h _ hlt (by omega)).1
        rw [((pos_of (r := now.length / x.length) hi).1 rfl).1.symm] at this
        exact this rfl
      · omega
    · rw [bedL_at hi hcc] at he
      unfold cropN at he
      rw [if_pos ⟨hi, hcc⟩] at he
      split at he
      · rename_i hlt
        have := (h _ hlt (by omega)).2.1
        rw [((pos_of (r := i) hcc).1 rfl).2.symm] at this
        exact this rfl
      · omega
  · rintro ⟨h1, h2⟩
    refine ⟨hc, fun q hq he => ⟨fun h3 => ?_, fun h3 => ?_, fun h3 => h1 ⟨q, hq, by rw [h3, hv], he⟩⟩⟩
    · have hm : q % x.length < x.length := Nat.mod_lt _ hn
      have := (h2 (q % x.length) hm).1
      rw [bedL_at hr hm] at this
      unfold cropN at this
      rw [if_pos ⟨hr, hm⟩, ← h3, Nat.div_add_mod', if_pos hq, he] at this
      exact this rfl
    · have hd : q / x.length < x.length := Nat.div_lt_of_lt_mul (by omega)
      have := (h2 (q / x.length) hd).2
      rw [bedL_at hd hcc] at this
      unfold cropN at this
      rw [if_pos ⟨hd, hcc⟩, ← h3, Nat.div_add_mod', if_pos hq, he] at this
      exact this rfl
theorem bedL_sq {n : Nat} {val : Nat → Nat → Int} : ∀ r, r < (bedL n val).length → ((bedL n val).getD r []).length = (bedL n val).length := fun r hr => by
  rw [bedL_len] at hr ⊢
  rw [bedL_row hr]; simp

open Classical in
set_option maxHeartbeats 1600000 in
theorem rmate_ok {ro : List ABlk} {a : AVal} {x : List (List Int)} (ha : ∀ y, IsMat ro y a x) (hf : fullP x) {b5 bs : Nat} {rb : Nat → Nat} {cap : Cap} : ∀ (k : Nat) (now : List Nat) (hp : Heap), now.length + k = x.length * x.length →
    OwnM hp b5 x.length rb (cropN x.length now) → Seen hp bs x now →
    ∃ hp' lw, callX F1 ro 79 [a, .sl ⟨false, b5, 0⟩ x.length .grow, .sl ⟨false, bs, 0⟩ (x.length * x.length) cap, .i .i64 (now.length : Nat)] hp = some (.b (dm (okM x) k now).isSome, hp', lw, hp.length) ∧
      hp'.length = hp.length ∧ (∀ i, i ≠ bs → (∀ r, r < x.length → i ≠ rb r) → hp'[i]? = hp[i]?) ∧
      match dm (okM x) k now with
      | some z => OwnM hp' b5 x.length rb (cropN x.length z)
      | none => OwnM hp' b5 x.length rb (cropN x.length now) ∧ Seen hp' bs x now := by
  have h7 := hf.1.1.2.1
  have h1n := hf.1.1.1
  have hnn : x.length * x.length ≤ 7 * 7 := Nat.mul_le_mul h7 h7
  have hwn : wr .i64 ((x.length : Int) * (x.length : Int)) = ((x.length * x.length : Nat) : Int) := wr_mul (by omega)
  intro k
  induction k with
  | zero =>
    intro now hp hk hO hS
    have e : ((now.length : Int) == ((x.length * x.length : Nat) : Int)) = true := by simp; omega
    refine ⟨hp, hp.length, g79_ok (meansX_ok F1 ro) rfl ?_, rfl, fun _ _ _ => rfl, hO⟩
    unfold g79
    simp only [len_mat (ha hp), bindO_some, asI_i, hwn, forceI_eq, forceB_eq, eqI_eq, e, cond_true, tupA]
    exact fin_pure rfl
  | succ k ih =>
    intro now hp hk hO hS
    have hpx : now.length < x.length * x.length := by omega
    obtain ⟨r, hr⟩ : ∃ r, r = now.length / x.length := ⟨_, rfl⟩
    obtain ⟨cc, hcc⟩ : ∃ cc, cc = now.length % x.length := ⟨_, rfl⟩
    have hrn : r < x.length := by rw [hr]; exact Nat.div_lt_of_lt_mul hpx
    have hcn : cc < x.length := by rw [hcc]; exact Nat.mod_lt _ (by omega)
    obtain ⟨v, hv, hvn⟩ := full_at hf hrn hcn
    have hvx : at2 x (now.length / x.length) (now.length % x.length) = v := by rw [← hr, ← hcc]; exact hv
    have eNe : ((now.length : Int) == ((x.length * x.length : Nat) : Int)) = false := by simp; omega
    have eN0 : ((x.length : Int) == Int.ofNat 0) = false := beq_eq_false_iff_ne.2 fun h => by have h' : (x.length : Int) = 0 := h; omega
    have hwd : wr .i64 ((now.length / x.length : Nat) : Int) = ((r : Nat) : Int) := by rw [← hr, wr_id' (by omega) (by omega)]
    have hmd : ((now.length % x.length : Nat) : Int) = ((cc : Nat) : Int) := by rw [← hcc]
    have hvm : v * x.length ≤ 7 * 7 := Nat.mul_le_mul (by omega) h7
    have hbs := hS.lt
    have hb5 := hO.top.lt
    have hrbl : ∀ i, i < x.length → rb i < hp.length := fun i hi => (hO.rows i hi).lt
    have hne1 : ∀ i, i < x.length → bs ≠ rb i := fun i hi => hS.ne (hO.rows i hi) (by decide)
    have hne2 : ∀ i, i < x.length → b5 ≠ rb i := fun i hi => hO.top.ne (hO.rows i hi) (by decide)
    have hne3 : b5 ≠ bs := hO.top.ne hS (by decide)
    obtain ⟨f, hfd⟩ : ∃ f : Nat → Option (List Nat), f = fun c => if okM x now c then dm (okM x) k (now ++ [c]) else none := ⟨_, rfl⟩
    have hdm : dm (okM x) (k + 1) now = tryc f x.length 0 := by
      have h8 : x.length + (8 - x.length) = 8 := by omega
      show tryc _ 8 0 = _
      rw [← h8, hfd]
      exact tryc_app fun i h1 h2 => if_neg fun h => by have := h.1; omega
    have hloop := loop_try (b := fun s => g79_b0 (meansX F1 ro) ro a (.sl ⟨false, b5, 0⟩ x.length .grow) (.sl ⟨false, bs, 0⟩ (x.length * x.length) cap) (now.length : Nat) x.length s.1 s.2) x.length f
      (fun m => m.lp = hp.length ∧ m.h.length = hp.length ∧ (∀ i, i ≠ bs → (∀ r, r < x.length → i ≠ rb r) → m.h[i]? = hp[i]?) ∧ OwnM m.h b5 x.length rb (cropN x.length now) ∧ Seen m.h bs x now)
      (fun z o => ∃ m' : Mm, o = (true, m') ∧ m'.lp = hp.length ∧ m'.h.length = hp.length ∧ (∀ i, i ≠ bs → (∀ r, r < x.length → i ≠ rb r) → m'.h[i]? = hp[i]?) ∧ OwnM m'.h b5 x.length rb (cropN x.length z))
      ?_ ?_ x.length 0 ⟨hp, hp.length, hp.length⟩ (by omega) ⟨rfl, rfl, fun _ _ _ => rfl, hO, hS⟩
    · rw [← hdm] at hloop
      have e0 : ((0 : Nat) : Int) = 0 := rfl
      have hfin : ∀ (h' : Heap) (lw : Nat) (v : Bool), h'.length = hp.length → finM hp.length (.b v) ⟨h', lw, hp.length⟩ = some (.b v, h', lw, hp.length) := fun h' lw v hl => by
        rw [fin_take rfl, ← hl, List.take_length]
      cases hd : dm (okM x) (k + 1) now with
      | some z =>
        rw [hd] at hloop
        obtain ⟨o, l1, ⟨h', lw', lp'⟩, rfl, l2, l3, l4, l5⟩ := hloop
        simp only at l2 l3 l4 l5
        subst l2
        refine ⟨h', lw', g79_ok (meansX_ok F1 ro) rfl ?_, l3, l4, l5⟩
        unfold g79
        rw [e0] at l1
        simp only [len_mat (ha hp), bindO_some, asI_i, hwn, forceI_eq, forceB_eq, eqI_eq, eNe, cond_false, meansX_loop, l1, tupA]
        exact hfin h' lw' true l3
      | none =>
        rw [hd] at hloop
        obtain ⟨⟨h', lw', lp'⟩, l1, l2, l3, l4, l5, l6⟩ := hloop
        simp only at l2 l3 l4 l5 l6
        subst l2
        refine ⟨h', lw', g79_ok (meansX_ok F1 ro) rfl ?_, l3, l4, l5, l6⟩
        unfold g79
        rw [e0] at l1
        simp only [len_mat (ha hp), bindO_some, asI_i, hwn, forceI_eq, forceB_eq, eqI_eq, eNe, cond_false, meansX_loop, l1, tupA]
        exact hfin h' lw' false l3
    · rintro c ⟨h1, lw1, lp1⟩ hc ⟨i1, i2, i3, i4, i5⟩
      simp only at i1 i2 i3 i4 i5
      subst i1
      obtain ⟨w1, u1, w2, a1, a2, a3, a4, a5, a6⟩ := at_cell (ha h1) hf.1.1 hrn hcn (l := lw1) (p := hp.length)
      rw [hv] at a5
      have hlt := pos_lt hvn hc
      have hix := ixS_eq (q := ⟨false, bs, 0⟩) (cap := cap) hlt
      obtain ⟨e1, e2⟩ := (pos_of (r := v) (p := v * x.length + c) hc).1 rfl
      have hsee : ldM ro ⟨h1, lw1, hp.length⟩ true 1 (.p (some ⟨false, bs, 0 + (v * x.length + c)⟩)) = some (.b (decide (pairP x now v c))) := by
        obtain ⟨blk, s1, -, s3, s4⟩ := i5
        rw [ld_heap rfl s1 (by omega), Nat.zero_add, s4 _ hlt]
        show some (AVal.b (decide (pairP x now ((v * x.length + c) / x.length) ((v * x.length + c) % x.length)))) = _
        rw [← e1, ← e2]
      have hiff := okM_iff h7 hc hpx hvx
      rw [← hr, ← hcc] at hiff
      -- the head of the body
      have hw36 : wr .i64 ((v : Int) * (x.length : Int)) = ((v * x.length : Nat) : Int) := wr_mul (by omega)
      have hw38 : wr .i64 (((v * x.length : Nat) : Int) + (c : Int)) = ((v * x.length + c : Nat) : Int) := wr_add (by omega)
      by_cases hpair : pairP x now v c
      · have hno : ¬ okM x now c := fun h => (hiff.1 h).1 hpair
        have hfc : f c = none := by rw [hfd]; exact if_neg hno
        rw [hfc]
        refine ⟨⟨h1, lw1, hp.length⟩, ?_, rfl, i2, i3, i4, i5⟩
        simp only [g79_b0, forceB_eq, ltI_eq, lt_yes hc, cond_true, eqI_eq, eN0, Bool.not_false, chk_true, tdiv_nat, tmod_nat, hwd, hmd, forceI_eq, a1, a2, a4, a5, bindO_some, asI_i, hw36, hw38, hix, hsee, asB_b, hpair, decide_true, wr_next (by omega : c ≤ 1000000)]
      · have hfree := free_ok (ro := ro) (hp := h1) (i4.mat (ro := ro)) bedL_sq (by rw [bedL_len]; omega) (r := r) (c := cc) (by rw [bedL_len]; exact hrn) (by rw [bedL_len]; exact hcn) (k := (c : Int))
        have cfree := callM_eq (call := callX F1 ro) (m := ⟨h1, lw1, hp.length⟩) hfree
        obtain ⟨lwa, hlwa⟩ : ∃ lwa, lwa = min lw1 h1.length := ⟨_, rfl⟩
        simp only [Nat.min_eq_left (by omega : hp.length ≤ h1.length), ← hlwa] at cfree
        by_cases hfr : freeP (bedL x.length (cropN x.length now)) r cc (c : Int)
        · have hok : okM x now c := hiff.2 ⟨hpair, hfr⟩
          have hfc : f c = dm (okM x) k (now ++ [c]) := by rw [hfd]; exact if_pos hok
          rw [hfc]
          -- the stores
          obtain ⟨y2, t1, t2⟩ := i5.set (ro := ro) (l := lwa) (p := hp.length) hlt (v := .b true) rfl rfl rfl
          obtain ⟨h2, hh2⟩ : ∃ h2, h2 = h1.set bs y2 := ⟨_, rfl⟩
          rw [← hh2] at t1 t2
          have hg2 : ∀ i, i ≠ bs → h2[i]? = h1[i]? := fun i hi => by rw [hh2, List.getElem?_set_ne (Ne.symm hi)]
          have hO2 : OwnM h2 b5 x.length rb (cropN x.length now) := i4.keep (hg2 b5 hne3) fun i hi => hg2 _ (Ne.symm (hne1 i hi))
          obtain ⟨j1, j2, j3⟩ := hO2.at (ro := ro) hrn hcn (l := min lwa bs) (p := hp.length)
          obtain ⟨y3, t3, t4⟩ := hO2.set (ro := ro) hrn hcn (c : Int) (l := min lwa bs) (p := hp.length)
          obtain ⟨h3, hh3⟩ : ∃ h3, h3 = h2.set (rb r) y3 := ⟨_, rfl⟩
          rw [← hh3] at t3 t4
          have hg3 : ∀ i, i ≠ rb r → h3[i]? = h2[i]? := fun i hi => by rw [hh3, List.getElem?_set_ne (Ne.symm hi)]
          have hS3 : Seen h3 bs x (now ++ [c]) := by
            refine (t2.keep (hg3 bs (hne1 r hrn))).congr fun i hi => ?_
            have hpa := pair_add (c := c) hvx (i / x.length) (i % x.length)
            have him : i % x.length < x.length := Nat.mod_lt _ (by omega)
            have hpo := pos_of (r := v) (p := i) hc
            by_cases e : i = v * x.length + c
            · rw [if_pos e]
              exact congrArg AVal.b (decide_eq_true (hpa.2 (.inr ⟨(hpo.1 e.symm).1.symm, (hpo.1 e.symm).2.symm⟩))).symm
            · rw [if_neg e]
              refine congrArg AVal.b (decide_eq_decide.2 ?_)
              rw [hpa]
              exact ⟨.inl, fun h => h.resolve_right fun h => e (hpo.2 ⟨h.1.symm, h.2.symm⟩).symm⟩
          have hO3 : OwnM h3 b5 x.length rb (cropN x.length (now ++ [c])) := t4.congr fun r' c' _ _ => by
            rw [← cropN_add hpx r' c', ← hr, ← hcc]
          have hl3 : h3.length = hp.length := by rw [hh3, List.length_set, hh2, List.length_set, i2]
          have hlen1 : (now ++ [c]).length = now.length + 1 := by simp
          obtain ⟨h4, lw4, k1, k2, k3, k4⟩ := ih (now ++ [c]) h3 (by simp; omega) hO3 hS3
          rw [hlen1] at k1
          have c79 := callM_eq (call := callX F1 ro) (m := ⟨h3, min (min lwa bs) (rb r), hp.length⟩) k1
          simp only [hl3, Nat.min_self] at c79
          have hwp : wr .i64 ((now.length : Int) + 1) = ((now.length + 1 : Nat) : Int) := wr_next (by omega)
          have hk4 : ∀ i, i ≠ bs → (∀ r, r < x.length → i ≠ rb r) → h4[i]? = hp[i]? := fun i e1 e2 => by rw [k3 i e1 e2, hg3 i (e2 r hrn), hg2 i e1, i3 i e1 e2]
          have step : ∀ R, (bindO (α := (Mm ⊕ (Bool × Mm))) (bindP (callM (callX F1 ro) ⟨h3, min (min lwa bs) (rb r), hp.length⟩ 79 [a, .sl ⟨false, b5, 0⟩ x.length .grow, .sl ⟨false, bs, 0⟩ (x.length * x.length) cap, .i .i64 ((now.length + 1 : Nat) : Int)]) fun v74 m_6 =>
              asB v74 fun c74 =>
              cond c74 (
                some (.inr (true, m_6))) (
                bindO (ldM ro m_6 true 1 (.p (some ⟨false, b5, 0 + r⟩))) fun v80 =>
                bindO (evP .e (.ixS 1 (.c v80) (.c (.i .i64 (cc : Int))))) fun v84 =>
                bindP (stepM ro m_6 (.st 1 (.c v84) (.c (.i .i64 (-1))))) fun vn_2 m_7 =>
                bindP (stepM ro m_7 (.st 1 (.c (.p (some ⟨false, bs, 0 + (v * x.length + c)⟩))) (.c (.b false)))) fun vn_3 m_8 =>
                some (.inl m_8))) fun o => match o with
              | (.inl m_9) => some (.inl (((c + 1 : Nat) : Int), m_9))
              | (.inr (c8, m_10)) => some (.inr (.inr (c8, m_10)))) = R →
              g79_b0 (meansX F1 ro) ro a (.sl ⟨false, b5, 0⟩ x.length .grow) (.sl ⟨false, bs, 0⟩ (x.length * x.length) cap) (now.length : Nat) x.length c ⟨h1, lw1, hp.length⟩ = R := by
            rintro R rfl
            unfold g79_b0
            simp only [forceB_eq, ltI_eq, lt_yes hc, cond_true, eqI_eq, eN0, Bool.not_false, chk_true, tdiv_nat, tmod_nat, hwd, hmd, forceI_eq, a1, a2, a4, a5, bindO_some, asI_i, hw36, hw38, hix, hsee, asB_b, hpair, decide_false, cond_false, meansX_call, cfree, bindP_some, hfr, decide_true, Bool.not_true, t1, j1, j2, j3, t3, hwp, wr_next (by omega : c ≤ 1000000)]
            rfl
          cases hd : dm (okM x) k (now ++ [c]) with
          | some z =>
            rw [hd] at c79 k4
            refine ⟨(true, ⟨h4, min (min (min lwa bs) (rb r)) lw4, hp.length⟩), step _ ?_, _, rfl, rfl, by show h4.length = _; omega, hk4, k4⟩
            rw [c79]
            rfl
          | none =>
            rw [hd] at c79 k4
            obtain ⟨k5, k6⟩ := k4
            obtain ⟨j4, j5, j6⟩ := k5.at (ro := ro) hrn hcn (l := min (min (min lwa bs) (rb r)) lw4) (p := hp.length)
            obtain ⟨y5, t5, t6⟩ := k5.set (ro := ro) hrn hcn (-1) (l := min (min (min lwa bs) (rb r)) lw4) (p := hp.length)
            obtain ⟨h5, hh5⟩ : ∃ h5, h5 = h4.set (rb r) y5 := ⟨_, rfl⟩
            rw [← hh5] at t5 t6
            have hg5 : ∀ i, i ≠ rb r → h5[i]? = h4[i]? := fun i hi => by rw [hh5, List.getElem?_set_ne (Ne.symm hi)]
            have hS5 : Seen h5 bs x (now ++ [c]) := k6.keep (hg5 bs (hne1 r hrn))
            obtain ⟨y6, t7, t8⟩ := hS5.set (ro := ro) (l := min (min (min (min lwa bs) (rb r)) lw4) (rb r)) (p := hp.length) hlt (v := .b false) rfl rfl rfl
            obtain ⟨h6, hh6⟩ : ∃ h6, h6 = h5.set bs y6 := ⟨_, rfl⟩
            rw [← hh6] at t7 t8
            have hg6 : ∀ i, i ≠ bs → h6[i]? = h5[i]? := fun i hi => by rw [hh6, List.getElem?_set_ne (Ne.symm hi)]
            have hO6 : OwnM h6 b5 x.length rb (cropN x.length now) := by
              refine (t6.keep (hg6 b5 hne3) fun i hi => hg6 _ (Ne.symm (hne1 i hi))).congr fun r' c' _ _ => ?_
              rw [← cropN_sub (c := c) hpx r' c', ← hr, ← hcc]
            have hS6 : Seen h6 bs x now := by
              refine t8.congr fun i hi => ?_
              have hpa := pair_add (c := c) hvx (i / x.length) (i % x.length)
              have hpo := pos_of (r := v) (p := i) hc
              by_cases e : i = v * x.length + c
              · rw [if_pos e]
                obtain ⟨f1, f2⟩ := hpo.1 e.symm
                exact congrArg AVal.b (decide_eq_false (by rw [← f1, ← f2]; exact hpair)).symm
              · rw [if_neg e]
                refine congrArg AVal.b (decide_eq_decide.2 ?_)
                rw [hpa]
                exact ⟨fun h => h.resolve_right fun h => e (hpo.2 ⟨h.1.symm, h.2.symm⟩).symm, .inl⟩
            refine ⟨⟨h6, min (min (min (min (min lwa bs) (rb r)) lw4) (rb r)) bs, hp.length⟩, step _ ?_, rfl, by show h6.length = _; rw [hh6, List.length_set, hh5, List.length_set]; omega, fun i e1 e2 => by
              show h6[i]? = _
              rw [hg6 i e1, hg5 i (e2 r hrn)]; exact hk4 i e1 e2, hO6, hS6⟩
            simp only [c79, bindP_some, asB_b, Option.isSome_none, cond_false, j5, bindO_some, j6, t5, t7]
        · have hno : ¬ okM x now c := fun h => hfr (hiff.1 h).2
          have hfc : f c = none := by rw [hfd]; exact if_neg hno
          rw [hfc]
          refine ⟨⟨h1, lwa, hp.length⟩, ?_, rfl, i2, i3, i4, i5⟩
          simp only [g79_b0, forceB_eq, ltI_eq, lt_yes hc, cond_true, eqI_eq, eN0, Bool.not_false, chk_true, tdiv_nat, tmod_nat, hwd, hmd, forceI_eq, a1, a2, a4, a5, bindO_some, asI_i, hw36, hw38, hix, hsee, asB_b, hpair, decide_false, cond_false, meansX_call, cfree, bindP_some, hfr, wr_next (by omega : c ≤ 1000000)]
    · rintro m -
      simp only [g79_b0, forceB_eq, ltI_eq, lt_no, cond_false]
end Go.Proofs.Ytllmlonngnhbfaa.Bed

/- Mate of the specification. -/
open Go.Vm
set_option linter.unusedVariables false
namespace Go.Proofs.Ytllmlonngnhbfaa.Bed
open Go

theorem loop_all3 {b : AVal × Int × Mm → Option ((AVal × Int × Mm) ⊕ (AVal × Mm))} (n : Nat) (I : Nat → AVal → Mm → Prop)
    (hin : ∀ i v m, i < n → I i v m → ∃ v' m', b (v, (i : Int), m) = some (.inl (v', ((i + 1 : Nat) : Int), m')) ∧ I (i + 1) v' m')
    (hout : ∀ v m, I n v m → b (v, (n : Int), m) = some (.inr (v, m))) :
    ∀ (k i : Nat) (v : AVal) (m : Mm), i + k = n → I i v m → ∃ v' m', loopX b (v, (i : Int), m) = some (v', m') ∧ I n v' m'
  | 0, i, v, m, hk, hi => by
    obtain rfl : i = n := by omega
    exact ⟨_, _, loopX_out (hout v m hi), hi⟩
  | k + 1, i, v, m, hk, hi => by
    obtain ⟨v1, m1, h1, h2⟩ := hin i v m (by omega) hi
    obtain ⟨v2, m2, h3, h4⟩ := loop_all3 n I hin hout k (i + 1) v1 m1 (by omega) h2
    exact ⟨v2, m2, loopX_on h1 h3, h4⟩

theorem VecV.low {hp : Heap} {L L' e : Nat} {v : AVal} {k : Nat} {get : Nat → AVal} (h : VecV hp L e v k get) (hl : L' ≤ L) : VecV hp L' e v k get := by
  rcases h with h | ⟨b, h1, h2, h3, h4⟩
  · exact .inl h
  · exact .inr ⟨b, h1, h2, by omega, h4⟩

/-- a row of -1 -/
theorem negrow_ok {ro : List ABlk} {a v5 : AVal} {x6 : Int} {n : Nat} {hp : Heap} {L : Nat} (h1 : 1 ≤ n) (hn : n ≤ 1000) (hL : L ≤ hp.length) :
    ∃ b hp', loopX (fun s => g38_b2 (meansX F1 ro) ro a n v5 x6 s.1 s.2.1 s.2.2) (AVal.nsl, (((0 : Nat) : Int), (⟨hp, L, L⟩ : Mm))) = some (.sl ⟨false, b, 0⟩ n .grow, ⟨hp', L, L⟩) ∧ hp.length ≤ b ∧ Vec hp' 3 b n (fun _ => .i .i64 (-1)) ∧ hp.length ≤ hp'.length ∧ ∀ i, i < hp.length → hp'[i]? = hp[i]? := by
  have hloop := loop_all3 (b := fun s => g38_b2 (meansX F1 ro) ro a n v5 x6 s.1 s.2.1 s.2.2) n (fun c v m => ∃ hp', m = ⟨hp', L, L⟩ ∧ VecV hp' hp.length 3 v c (fun _ => .i .i64 (-1)) ∧ hp.length ≤ hp'.length ∧ ∀ i, i < hp.length → hp'[i]? = hp[i]?) ?_ ?_ n 0 .nsl ⟨hp, L, L⟩ (by omega) ⟨hp, rfl, .inl ⟨rfl, rfl⟩, Nat.le_refl _, fun _ _ => rfl⟩
  · obtain ⟨v', m', l1, hp', rfl, l2, l3, l4⟩ := hloop
    rcases l2 with ⟨-, h0⟩ | ⟨b, rfl, -, l5, l6⟩
    · omega
    · exact ⟨b, hp', l1, l5, l6, l3, l4⟩
  · rintro c v m hc ⟨hp1, rfl, i1, i2, i3⟩
    obtain ⟨v2, hp2, v3, hp3, b3, s1, s2, rfl, s3, s4, s5, s6⟩ := push_ok (ro := ro) (L := L) (e := 3) (bytes := 8) (z := .i .i64 0) (w := .i .i64 (-1)) (i1.low hL) (by omega) (by omega) (by omega) rfl rfl
    refine ⟨_, _, ?_, hp3, rfl, .inr ⟨b3, rfl, by omega, by omega, s4.congr fun r _ => by split <;> rfl⟩, by omega, fun i hi => ?_⟩
    · simp only [g38_b2, forceB_eq, ltI_eq, lt_yes hc, cond_true, s1, bindP_some, s2, forceI_eq, wr_next (by omega : c ≤ 1000000)]
    · rw [s6 i (by omega) fun len cap => ?_, i3 i hi]
      rcases i1 with ⟨rfl, -⟩ | ⟨b, rfl, -, hb, -⟩
      · simp
      · intro e; cases e; omega
  · rintro v m -
    simp only [g38_b2, forceB_eq, ltI_eq, lt_no, cond_false]

theorem negbed_ok {ro : List ABlk} {a : AVal} {n : Nat} {hp : Heap} (h1 : 1 ≤ n) (hn : n ≤ 1000) :
    ∃ b rb hp', loopX (fun s => g38_b1 (meansX F1 ro) ro a n s.1 s.2.1 s.2.2) (AVal.nsl, (((0 : Nat) : Int), (⟨hp, hp.length, hp.length⟩ : Mm))) = some (.sl ⟨false, b, 0⟩ n .grow, ⟨hp', hp.length, hp.length⟩) ∧
      hp.length ≤ b ∧ OwnM hp' b n rb (fun _ _ => -1) ∧ (∀ r, r < n → hp.length ≤ rb r) ∧ hp.length ≤ hp'.length ∧ ∀ i, i < hp.length → hp'[i]? = hp[i]? := by
  have hloop := loop_all3 (b := fun s => g38_b1 (meansX F1 ro) ro a n s.1 s.2.1 s.2.2) n (fun r v m => ∃ (hp' : Heap) (rb : Nat → Nat), m = ⟨hp', hp.length, hp.length⟩ ∧ VecV hp' hp.length 32 v r (fun i => .sl ⟨false, rb i, 0⟩ n .grow) ∧
      (∀ i, i < r → hp.length ≤ rb i ∧ Vec hp' 3 (rb i) n (fun _ => .i .i64 (-1))) ∧ (∀ i j, i < r → j < r → rb i = rb j → i = j) ∧ hp.length ≤ hp'.length ∧ ∀ i, i < hp.length → hp'[i]? = hp[i]?) ?_ ?_ n 0 .nsl ⟨hp, hp.length, hp.length⟩ (by omega) ⟨hp, fun _ => 0, rfl, .inl ⟨rfl, rfl⟩, fun i hi => by omega, fun i j hi => by omega, Nat.le_refl _, fun _ _ => rfl⟩
  · obtain ⟨v', m', l1, hp', rb, rfl, l2, l3, l4, l5, l6⟩ := hloop
    rcases l2 with ⟨-, h0⟩ | ⟨b, rfl, -, l7, l8⟩
    · omega
    · exact ⟨b, rb, hp', l1, l7, ⟨l8, fun r hr => (l3 r hr).2, fun r r' hr hr' => l4 r r' hr hr'⟩, fun r hr => (l3 r hr).1, l5, l6⟩
  · rintro r v m hr ⟨hp1, rb, rfl, i1, i2, i3, i4, i5⟩
    obtain ⟨b, hp2, k1, k2, k3, k4, k5⟩ := negrow_ok (ro := ro) (a := a) (v5 := v) (x6 := r) (n := n) (hp := hp1) (L := hp.length) h1 hn i4
    have i1' : VecV hp2 hp.length 32 v r (fun i => .sl ⟨false, rb i, 0⟩ n .grow) := by
      rcases i1 with h | ⟨c, h2, h3, h4, h5⟩
      · exact .inl h
      · exact .inr ⟨c, h2, h3, h4, h5.keep (k5 c h5.lt)⟩
    obtain ⟨v2, hp3, v3, hp4, b3, s1, s2, rfl, s3, s4, s5, s6⟩ := push_ok (ro := ro) (L := hp.length) (e := 32) (bytes := 24) (z := .nsl) (w := .sl ⟨false, b, 0⟩ n .grow) i1' (by omega) (by omega) (by omega) rfl rfl
    have e0 : ((0 : Nat) : Int) = 0 := rfl
    rw [e0] at k1
    have hrow : ∀ i, i < r → rb i < hp1.length ∧ ∀ len cap, v ≠ .sl ⟨false, rb i, 0⟩ len cap := fun i hi => by
      refine ⟨(i2 i hi).2.lt, fun len cap he => ?_⟩
      rcases i1 with ⟨rfl, -⟩ | ⟨c, rfl, -, -, h5⟩
      · cases he
      · cases he; exact h5.ne (i2 i hi).2 (by decide) rfl
    have hbv : ∀ len cap, v ≠ .sl ⟨false, b, 0⟩ len cap := fun len cap he => by
      rcases i1 with ⟨rfl, -⟩ | ⟨c, rfl, -, -, h5⟩
      · cases he
      · cases he; have := h5.lt; omega
    obtain ⟨rb', q1, q2⟩ : ∃ rb' : Nat → Nat, rb' r = b ∧ ∀ i, i ≠ r → rb' i = rb i := ⟨fun i => if i = r then b else rb i, if_pos rfl, fun i h => if_neg h⟩
    refine ⟨_, _, ?_, hp4, rb', rfl, .inr ⟨b3, rfl, by omega, by omega, s4.congr fun i hi => ?_⟩, fun i hi => ?_, fun i j hi hj => ?_, by omega, fun i hi => ?_⟩
    · simp only [g38_b1, forceB_eq, ltI_eq, lt_yes hr, cond_true, meansX_loop, k1, bindO_some, s1, bindP_some, s2, forceI_eq, wr_next (by omega : r ≤ 1000000)]
    · by_cases e : i < r
      · rw [if_pos e, q2 i (by omega)]
      · rw [if_neg e, (by omega : i = r), q1]
    · by_cases e : i = r
      · rw [e, q1]
        exact ⟨by omega, k3.keep (s6 b k3.lt hbv)⟩
      · rw [q2 i e]
        obtain ⟨h2, h3⟩ := hrow i (by omega)
        exact ⟨(i2 i (by omega)).1, (i2 i (by omega)).2.keep (by rw [s6 _ (by omega) h3, k5 _ h2])⟩
    · by_cases e : i = r
      · by_cases e2 : j = r
        · intro _; omega
        · rw [e, q1, q2 j e2]
          intro he
          have := (hrow j (by omega)).1
          omega
      · by_cases e2 : j = r
        · rw [e2, q1, q2 i e]
          intro he
          have := (hrow i (by omega)).1
          omega
        · rw [q2 i e, q2 j e2]
          exact i3 i j (by omega) (by omega)
    · rw [s6 i (by omega) fun len cap => ?_, k5 i (by omega), i5 i hi]
      rcases i1 with ⟨rfl, -⟩ | ⟨c, rfl, -, hb, -⟩
      · simp
      · intro e; cases e; omega
  · rintro v m -
    simp only [g38_b1, forceB_eq, ltI_eq, lt_no, cond_false]

open Classical in
theorem refMate_ok {ro : List ABlk} {h : Heap} {a : AVal} {x : List (List Int)} (ha : ∀ y, IsMat ro y a x) (hf : fullP x) (h5 : x.length ≤ 5) :
    ∃ v e y lw lp, callX F1 ro 38 [a] h = some (.tup [v, .i .i64 e], h ++ y, lw, lp) ∧ (match dm (okM x) (x.length * x.length) [] with
      | none => v = .nsl ∧ e = 10
      | some z => e = 0 ∧ IsMat ro (h ++ y) v (bedZ x.length z)) := by
  have h7 := hf.1.1.2.1
  have h1 := hf.1.1.1
  have hnn : x.length * x.length ≤ 7 * 7 := Nat.mul_le_mul h7 h7
  have cfull := callM_pure (call := callX F1 ro) (l := h.length) (p := h.length) (Full_ok (ha h)) (Nat.le_refl _) (Nat.le_refl _)
  rw [decide_eq_true hf] at cfull
  obtain ⟨b, rb, hp', l1, l2, l3, l4, l5, l6⟩ := negbed_ok (ro := ro) (a := a) (n := x.length) (hp := h) h1 (by omega)
  have e0 : ((0 : Nat) : Int) = 0 := rfl
  rw [e0] at l1
  have hmk := mk_ok (ro := ro) (hp := hp') (l := h.length) (p := h.length) (e := 4) (es := 1) (bytes := 1) (v := .b false) (by omega : x.length * x.length ≤ 1000) (by omega)
  obtain ⟨hp2, hhp2⟩ : ∃ hp2, hp2 = hp' ++ [some (newBlk 4 (.b false) (x.length * x.length))] := ⟨_, rfl⟩
  rw [← hhp2] at hmk
  have hg2 : ∀ i, i < hp'.length → hp2[i]? = hp'[i]? := fun i hi => by rw [hhp2, List.getElem?_append_left hi]
  have hO : OwnM hp2 b x.length rb (cropN x.length []) := by
    refine (l3.keep (hg2 b l3.top.lt) fun r hr => hg2 _ (l3.rows r hr).lt).congr fun r c hr hc => ?_
    rw [cropN_nil, if_pos ⟨hr, hc⟩]
  have hS : Seen hp2 hp'.length x [] := by
    refine ⟨newBlk 4 (.b false) (x.length * x.length), by rw [hhp2]; exact lget_last _ _, rfl, by rw [newBlk_n]; omega, fun i hi => ?_⟩
    rw [newBlk_get hi]
    exact congrArg AVal.b (decide_eq_false (by rintro ⟨q, hq, -⟩; simp at hq)).symm
  obtain ⟨h', lw, k1, k2, k3, k4⟩ := rmate_ok (ro := ro) ha hf (cap := .known (x.length * x.length)) (x.length * x.length) [] hp2 (by simp) hO hS
  have hl2 : hp2.length = hp'.length + 1 := by rw [hhp2]; simp
  have c79 := callM_eq (call := callX F1 ro) (m := ⟨hp2, h.length, h.length⟩) k1
  simp only [Nat.min_eq_left (by omega : h.length ≤ hp2.length), List.length_nil] at c79
  rw [e0] at c79
  have d5 : decide ((5 : Int) < (x.length : Int)) = false := by simp; omega
  have hl' : h.length ≤ h'.length := by omega
  have hk' : ∀ i, i < h.length → h'[i]? = h[i]? := fun i hi => by
    rw [k3 i (by omega) (fun r hr => by have := l4 r hr; omega), hg2 i (by omega), l6 i hi]
  cases hd : dm (okM x) (x.length * x.length) [] with
  | none =>
    rw [hd] at c79
    obtain ⟨y, f1, -⟩ := fin_gen (v := .tup [.nsl, .i .i64 10]) (l := min h.length lw) (p := h.length) hl' hk'
    refine ⟨.nsl, 10, y, min h.length lw, h.length, g38_ok (meansX_ok F1 ro) rfl ?_, rfl, rfl⟩
    unfold g38
    simp only [len_mat (ha h), bindO_some, asI_i, meansX_call, cfull, bindP_some, asB_b, forceB_eq, Bool.not_true, cond_false, ltI_eq, d5, meansX_loop, l1, forceI_eq, wr_mul (by omega : x.length * x.length ≤ 1000000), hmk, c79, Option.isSome_none, Bool.not_false, cond_true, tupA]
    exact f1
  | some z =>
    rw [hd] at c79 k4
    obtain ⟨w, w1, w2, -⟩ := dm_some hd
    have hzl : z.length = x.length * x.length := by rw [w2]; simpa using w1
    have hnb : (AVal.tup [.sl ⟨false, b, 0⟩ x.length .grow, .i .i64 0]).bel h.length = false := by
      have : (AVal.sl ⟨false, b, 0⟩ x.length .grow).bel h.length = false := not_bel l2
      simp only [AVal.bel, bels] at this ⊢
      rw [this]; rfl
    obtain ⟨y, f1, f2⟩ := fin_gen (v := .tup [.sl ⟨false, b, 0⟩ x.length .grow, .i .i64 0]) (l := min h.length lw) (p := h.length) hl' hk'
    refine ⟨.sl ⟨false, b, 0⟩ x.length .grow, 0, y, min h.length lw, h.length, g38_ok (meansX_ok F1 ro) rfl ?_, rfl, ?_⟩
    · unfold g38
      simp only [len_mat (ha h), bindO_some, asI_i, meansX_call, cfull, bindP_some, asB_b, forceB_eq, Bool.not_true, cond_false, ltI_eq, d5, meansX_loop, l1, forceI_eq, wr_mul (by omega : x.length * x.length ≤ 1000000), hmk, c79, Option.isSome_some, tupA]
      exact f1
    · rw [f2 hnb]
      have : bedL x.length (cropN x.length z) = bedZ x.length z := bedL_congr fun r c hr hc => cropN_full hzl hr hc
      rw [← this]; exact k4.mat

theorem refMate_not {ro : List ABlk} {h : Heap} {a : AVal} {x : List (List Int)} (ha : IsMat ro h a x) (hn : ¬ (fullP x ∧ x.length ≤ 5)) :
    callX F1 ro 38 [a] h = some (.tup [.nsl, .i .i64 2], h, h.length, h.length) := by
  classical
  have cfull := callM_pure (call := callX F1 ro) (l := h.length) (p := h.length) (Full_ok ha) (Nat.le_refl _) (Nat.le_refl _)
  refine g38_ok (meansX_ok F1 ro) rfl ?_
  unfold g38
  by_cases hf : fullP x
  · have h5 : ¬ x.length ≤ 5 := fun h => hn ⟨hf, h⟩
    have d5 : decide ((5 : Int) < (x.length : Int)) = true := by simp; omega
    rw [decide_eq_true hf] at cfull
    simp only [len_mat ha, bindO_some, asI_i, meansX_call, cfull, bindP_some, asB_b, forceB_eq, Bool.not_true, cond_false, ltI_eq, d5, cond_true, tupA]
    exact fin_pure rfl
  · rw [decide_eq_false hf] at cfull
    simp only [len_mat ha, bindO_some, asI_i, meansX_call, cfull, bindP_some, asB_b, forceB_eq, Bool.not_false, cond_true, tupA]
    exact fin_pure rfl
end Go.Proofs.Ytllmlonngnhbfaa.Bed

/- Two lists of lists as arguments: from the statement to the small machine. -/
open Go.Vm
set_option linter.unusedVariables false
namespace Go.Proofs.Ytllmlonngnhbfaa.Bed
open Go Go.RowKit Go.Deep Go.WideShapes Go.ChangeShapes Go.ChangeAt

/-- read-only memory for two arguments -/
theorem two_of {W : World} {v0 v1 : Value} {x y : List (List Int)} (hx : Opened W v0 x) (hy : Opened W v1 y) :
    ∃ (ro : List ABlk) (rl : Rl) (u0 u1 : AVal), (Env.mk Try.prog W.heap.size W ro rl).Ok ∧ (∀ h, IsMat ro h u0 x) ∧ (∀ h, IsMat ro h u1 y) ∧ VR rl [] u0 v0 ∧ VR rl [] u1 v1 := by
  obtain ⟨ro1, rl1, u0, l1, m1, r1⟩ := ro_of hx [] [] rfl
  obtain ⟨ro2, rl2, u1, l2, m2, r2⟩ := ro_of hy ro1 rl1 l1
  refine ⟨ro1 ++ ro2, rl1 ++ rl2, u0, u1, env_ok fun i b hb => ?_, fun h => ?_, fun h => ?_, ?_, ?_⟩
  · by_cases hi : i < ro1.length
    · rw [List.getElem?_append_left hi] at hb
      obtain ⟨z, h1, h2⟩ := r1 i b hb
      refine ⟨z, by rw [List.getElem?_append_left (by omega)]; exact h1, fun j hj => ?_⟩
      obtain ⟨h3, v', h4, h5⟩ := h2 j hj
      exact ⟨h3, v', h4, by simpa using h5 rl2⟩
    · rw [List.getElem?_append_right (by omega)] at hb
      obtain ⟨z, h1, h2⟩ := r2 _ b hb
      refine ⟨z, by rw [List.getElem?_append_right (by omega), ← l1]; exact h1, fun j hj => ?_⟩
      obtain ⟨h3, v', h4, h5⟩ := h2 j hj
      exact ⟨h3, v', h4, by simpa using h5 []⟩
  · simpa using (m1 ro2 rl2 h).1
  · simpa using (m2 [] [] h).1
  · simpa using (m1 ro2 rl2 []).2
  · simpa using (m2 [] [] []).2
end Go.Proofs.Ytllmlonngnhbfaa.Bed

/- Mates, without any machine: what is found is a mate; a mate is found if there is one; each crop of one of two mates lies on a transversal of the other. -/
open Go.Vm
set_option linter.unusedVariables false
namespace Go.Proofs.Ytllmlonngnhbfaa.Bed
open Go

theorem ext_of {ok : List Nat → Nat → Prop} : ∀ {w now : List Nat}, (∀ j, j < w.length → ok (now ++ w.take j) (w.getD j 0)) → Ext ok now w
  | [], now, _ => trivial
  | c :: w, now, h => by
    refine ⟨by simpa using h 0 (by simp), ext_of fun j hj => ?_⟩
    have := h (j + 1) (by simpa using hj)
    simpa using this
theorem take_getD {z : List Nat} {q p : Nat} (h : q < p) : (z.take p).getD q 0 = z.getD q 0 := by
  rw [List.getD_eq_getElem?_getD, List.getD_eq_getElem?_getD, List.getElem?_take, if_pos h]
theorem take_len {z : List Nat} {p : Nat} (h : p ≤ z.length) : (z.take p).length = p := by rw [List.length_take]; omega

/-- what a list of crops is that the search ends with -/
structure MateL (x : List (List Int)) (z : List Nat) : Prop where
  len : z.length = x.length * x.length
  lt : ∀ p, p < z.length → z.getD p 0 < x.length
  apart : ∀ q p, q < p → p < z.length → z.getD q 0 = z.getD p 0 → q / x.length ≠ p / x.length ∧ q % x.length ≠ p % x.length ∧ at2 x (q / x.length) (q % x.length) ≠ at2 x (p / x.length) (p % x.length)
theorem MateL.ext {x : List (List Int)} {z : List Nat} (h : MateL x z) : Ext (okM x) [] z := by
  refine ext_of fun j hj => ?_
  rw [List.nil_append]
  refine ⟨h.lt j hj, fun q hq e => ?_⟩
  rw [take_len (by omega)] at hq ⊢
  rw [take_getD hq] at e
  exact h.apart q j hq hj e
theorem divmod {n r c : Nat} (hc : c < n) : (r * n + c) / n = r ∧ (r * n + c) % n = c := by
  obtain ⟨h1, h2⟩ := (pos_of (r := r) (p := r * n + c) hc).1 rfl
  exact ⟨h1.symm, h2.symm⟩
theorem pos_mono {n r c r' c' : Nat} (hc' : c' < n) (h : r' < r ∨ (r' = r ∧ c' < c)) : r' * n + c' < r * n + c := by
  rcases h with h | ⟨rfl, h⟩
  · have := Nat.mul_le_mul_right n (by omega : r' + 1 ≤ r)
    rw [Nat.add_mul, Nat.one_mul] at this
    omega
  · omega
theorem MateL.full {x : List (List Int)} {z : List Nat} (h : MateL x z) (h1 : 1 ≤ x.length) (h7 : x.length ≤ 7) : fullP (bedZ x.length z) := by
  have hlen : (bedZ x.length z).length = x.length := by unfold bedZ; rw [bedL_len]
  have hat : ∀ r c, r < x.length → c < x.length → at2 (bedZ x.length z) r c = ((z.getD (r * x.length + c) 0 : Nat) : Int) := fun r c hr hc => by unfold bedZ; rw [bedL_at hr hc]
  have hlt : ∀ r c, r < x.length → c < x.length → z.getD (r * x.length + c) 0 < x.length := fun r c hr hc => h.lt _ (by rw [h.len]; exact pos_lt hr hc)
  refine ⟨⟨⟨by omega, by omega, fun r hr => ?_⟩, fun r c hr hc hd => ?_⟩, fun r c hr hc => ?_⟩
  · rw [hlen] at hr ⊢
    refine ⟨by unfold bedZ; rw [bedL_row hr]; simp, fun c hc => ?_⟩
    have := hat r c hr hc
    unfold at2 at this
    have h2 := hlt r c hr hc
    omega
  · rw [hlen] at hr hc
    have hp : r * x.length + c < z.length := by rw [h.len]; exact pos_lt hr hc
    rcases hd.2 with ⟨i, hi, he⟩ | ⟨i, hi, he⟩
    · rw [hat r i hr (by omega), hat r c hr hc] at he
      have := (h.apart (r * x.length + i) (r * x.length + c) (by omega) hp (by omega)).1
      rw [(divmod (by omega : i < x.length)).1, (divmod hc).1] at this
      exact this rfl
    · rw [hat i c (by omega) hc, hat r c hr hc] at he
      have := (h.apart (i * x.length + c) (r * x.length + c) (pos_mono hc (.inl hi)) hp (by omega)).2.1
      rw [(divmod hc).2, (divmod hc).2] at this
      exact this rfl
  · rw [hlen] at hr hc
    rw [hat r c hr hc]; omega
theorem MateL.mate {x : List (List Int)} {z : List Nat} (h : MateL x z) : mateP x (bedZ x.length z) := by
  have hat : ∀ r c, r < x.length → c < x.length → at2 (bedZ x.length z) r c = ((z.getD (r * x.length + c) 0 : Nat) : Int) := fun r c hr hc => by unfold bedZ; rw [bedL_at hr hc]
  rintro r c hr hc ⟨r', c', h1, h2, h3, h4⟩
  have hr' : r' < x.length := by omega
  rw [hat r' c' hr' h1, hat r c hr hc] at h4
  have := (h.apart (r' * x.length + c') (r * x.length + c) (pos_mono h1 h2) (by rw [h.len]; exact pos_lt hr hc) (by omega)).2.2
  rw [(divmod h1).1, (divmod h1).2, (divmod hc).1, (divmod hc).2] at this
  exact this h3

end Go.Proofs.Ytllmlonngnhbfaa.Bed

/- What Mates and Mate answer, for all lists; vectors are read. -/
open Go.Vm
set_option linter.unusedVariables false
namespace Go.Proofs.Ytllmlonngnhbfaa.Bed
open Go

open Classical in
noncomputable def mq (x y : List (List Int)) : Bool := if fullP x ∧ fullP y ∧ x.length = y.length then decide (mateP x y) else false
open Classical in
noncomputable def me (x y : List (List Int)) : Int := if fullP x ∧ fullP y ∧ x.length = y.length then 0 else 2
theorem ma35 {ro : List ABlk} {h : Heap} {a b : AVal} {x y : List (List Int)} (ha : IsMat ro h a x) (hb : IsMat ro h b y) : callX F1 ro 35 [a, b] h = some (.tup [.b (mq x y), .i .i64 (me x y)], h, h.length, h.length) := by
  unfold mq me
  by_cases hc : fullP x ∧ fullP y ∧ x.length = y.length
  · rw [if_pos hc, if_pos hc]; exact @mates_ok ro h a b x y ha hb hc.1 hc.2.1 hc.2.2 (Classical.propDecidable _)
  · rw [if_neg hc, if_neg hc]; exact mates_not ha hb hc
theorem ma36 {ro : List ABlk} {h : Heap} {a b : AVal} {x y : List (List Int)} (ha : IsMat ro h a x) (hb : IsMat ro h b y) : callX F1 ro 36 [a, b] h = some (.tup [.b (mq x y), .i .i64 (me x y)], h, h.length, h.length) := by
  unfold mq me
  by_cases hc : fullP x ∧ fullP y ∧ x.length = y.length
  · rw [if_pos hc, if_pos hc]; exact @refMates_ok ro h a b x y ha hb hc.1 hc.2.1 hc.2.2 (Classical.propDecidable _)
  · rw [if_neg hc, if_neg hc]; exact refMates_not ha hb hc
open Classical in
noncomputable def mm (x : List (List Int)) : List (List Int) := if fullP x ∧ x.length ≤ 5 then (match dm (okM x) (x.length * x.length) [] with
  | none => []
  | some z => bedZ x.length z) else []
open Classical in
noncomputable def mme (x : List (List Int)) : Int := if fullP x ∧ x.length ≤ 5 then (match dm (okM x) (x.length * x.length) [] with
  | none => 10
  | some _ => 0) else 2
theorem ma37 {ro : List ABlk} {h : Heap} {a : AVal} {x : List (List Int)} (ha : IsMat ro h a x) : ∃ v y lw lp, callX F1 ro 37 [a] h = some (.tup [v, .i .i64 (mme x)], h ++ y, lw, lp) ∧ IsMat ro (h ++ y) v (mm x) := by
  unfold mm mme
  by_cases hc : fullP x ∧ x.length ≤ 5
  · rw [if_pos hc, if_pos hc]
    obtain ⟨v, e, y, lw, lp, h1, h2⟩ := mate_ok ha hc.1 hc.2
    cases hd : dm (okM x) (x.length * x.length) [] with
    | none =>
      rw [hd] at h2
      obtain ⟨rfl, rfl⟩ := h2
      exact ⟨_, y, lw, lp, h1, .inl ⟨rfl, rfl⟩⟩
    | some z =>
      rw [hd] at h2
      obtain ⟨rfl, h3⟩ := h2
      exact ⟨_, y, lw, lp, h1, h3⟩
  · rw [if_neg hc, if_neg hc]
    obtain ⟨y, lw, lp, h1⟩ := mate_not ha hc
    exact ⟨_, y, lw, lp, h1, .inl ⟨rfl, rfl⟩⟩
theorem ma38 {ro : List ABlk} {h : Heap} {a : AVal} {x : List (List Int)} (ha : ∀ y, IsMat ro y a x) : ∃ v y lw lp, callX F1 ro 38 [a] h = some (.tup [v, .i .i64 (mme x)], h ++ y, lw, lp) ∧ IsMat ro (h ++ y) v (mm x) := by
  unfold mm mme
  by_cases hc : fullP x ∧ x.length ≤ 5
  · rw [if_pos hc, if_pos hc]
    obtain ⟨v, e, y, lw, lp, h1, h2⟩ := refMate_ok (h := h) ha hc.1 hc.2
    cases hd : dm (okM x) (x.length * x.length) [] with
    | none =>
      rw [hd] at h2
      obtain ⟨rfl, rfl⟩ := h2
      exact ⟨_, y, lw, lp, h1, .inl ⟨rfl, rfl⟩⟩
    | some z =>
      rw [hd] at h2
      obtain ⟨rfl, h3⟩ := h2
      exact ⟨_, y, lw, lp, h1, h3⟩
  · rw [if_neg hc, if_neg hc]
    exact ⟨_, [], _, _, by rw [List.append_nil]; exact refMate_not (ha h) hc, .inl ⟨rfl, rfl⟩⟩
theorem mm_small {x : List (List Int)} : (mm x).length ≤ 1000 ∧ ∀ i, i < (mm x).length → ((mm x).getD i []).length ≤ 1000 := by
  unfold mm
  split
  · rename_i hc
    split
    · simp
    · unfold bedZ
      rw [bedL_len]
      refine ⟨by omega, fun i hi => ?_⟩
      rw [bedL_row hi]; simp; omega
  · simp


theorem Vec.new (hp : Heap) (e k : Nat) (v : AVal) : Vec (hp ++ [some (newBlk e v k)]) e hp.length k (fun _ => v) :=
  ⟨newBlk e v k, lget_last _ _, rfl, by rw [newBlk_n]; omega, fun r hr => newBlk_get hr⟩

end Go.Proofs.Ytllmlonngnhbfaa.Bed

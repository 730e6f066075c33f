/- Rows as lists of numbers: Grow, and the reference's Grow and Ring. -/
import Derived.Test.YtgbkicelkpagpaaVmWy
import Derived.Test.YtgbkicelkpagpaaVmWo
open Go.Vm
set_option linter.unusedVariables false
namespace Go.Proofs.Ytgbkicelkpagpaa.W
open Go

/-- numbers as a vector in memory, behind what was there -/
structure NV (h hp : Heap) (b n : Nat) (f : Nat → Nat) : Prop where
  vec : Vec hp 3 b n (fun i => .i .i64 (f i : Nat))
  new : h.length ≤ b
  len : h.length ≤ hp.length
  keep : ∀ j, j < h.length → hp[j]? = h[j]?

theorem callM_new {call : Caller} {hp hp' : Heap} {L f : Nat} {vs : List AVal} {v : AVal} (e : call f vs hp = some (v, hp', hp.length, hp.length)) (hL : L ≤ hp.length) : callM call ⟨hp, L, L⟩ f vs = some (v, ⟨hp', L, L⟩) := by
  rw [callM_eq (m := ⟨hp, L, L⟩) e]; simp [Nat.min_eq_left hL]
theorem fin_new {hp : Heap} {L l p b k : Nat} {cap : Cap} (hb : L ≤ b) : finM L (.sl ⟨false, b, 0⟩ k cap) ⟨hp, l, p⟩ = some (.sl ⟨false, b, 0⟩ k cap, hp, l, p) := by
  simp [finM, gc, not_bel hb]
theorem e_lenS {q : Vm.Loc} {k : Nat} {cap : Cap} : evP .e (.len false (.c (.sl q k cap))) = some (.i .i64 (k : Nat)) := by simp only [evP, ev_len, opd, cond_false, mkI, forceI_eq]
theorem take_keep {h hp : Heap} (hl : h.length ≤ hp.length) (hk : ∀ j, j < h.length → hp[j]? = h[j]?) : hp.take h.length = h := by
  apply List.ext_getElem?
  intro j
  rw [List.getElem?_take]
  by_cases hj : j < h.length
  · rw [if_pos hj, hk j hj]
  · rw [if_neg hj, List.getElem?_eq_none (by omega)]

/-- numbers put one behind the other -/
theorem push_loop {ro : List ABlk} {h : Heap} {L : Nat} (hL : L ≤ h.length) {b : AVal × Int × Mm → Option ((AVal × Int × Mm) ⊕ (AVal × Mm))} (a n : Nat) (hn : n ≤ 999) (h0 : 0 < n) (w : Nat → Nat)
    (hin : ∀ k, k < n → ∀ (v : AVal) (hp : Heap), h.length ≤ hp.length → (∀ j, j < h.length → hp[j]? = h[j]?) → ∀ v2 hp2 v3 hp3,
      stepM ro ⟨hp, L, L⟩ (.bsl 3 1 [.i .i64 0] 1 [((0, 1), .c (.i .i64 (w k : Nat)))]) = some (v2, ⟨hp2, L, L⟩) → stepM ro ⟨hp2, L, L⟩ (.app 3 1 8 [.i .i64 0] (.c v) (.c v2)) = some (v3, ⟨hp3, L, L⟩) →
      b (v, ((a + k : Nat) : Int), ⟨hp, L, L⟩) = some (.inl (v3, ((a + k + 1 : Nat) : Int), ⟨hp3, L, L⟩)))
    (hout : ∀ v m, b (v, ((a + n : Nat) : Int), m) = some (.inr (v, m))) :
    ∃ b' hp, loopX b (.nsl, (a : Int), ⟨h, L, L⟩) = some (.sl ⟨false, b', 0⟩ n .grow, ⟨hp, L, L⟩) ∧ NV h hp b' n w := by
  have key := loop_all3 (b := b) (a + n)
    (fun i v m => a ≤ i ∧ ∃ hp, m = ⟨hp, L, L⟩ ∧ VecV hp h.length 3 v (i - a) (fun j => .i .i64 (w j : Nat)) ∧ h.length ≤ hp.length ∧ ∀ j, j < h.length → hp[j]? = h[j]?)
    (fun i v m hi hI => by
      obtain ⟨hai, hp, rfl, hv, hlen, hkeep⟩ := hI
      obtain ⟨k, rfl⟩ : ∃ k, i = a + k := ⟨i - a, by omega⟩
      rw [Nat.add_sub_cancel_left] at hv
      obtain ⟨v2, hp2, v3, hp3, b3, s1, s2, e3, hb3, hvec, hl3, hk3⟩ := push_ok (ro := ro) (bytes := 8) (z := .i .i64 0) (w := .i .i64 (w k : Nat)) (hv.low hL) (by omega) (by omega) (by omega) rfl rfl
      refine ⟨v3, ⟨hp3, L, L⟩, hin k (by omega) v hp hlen hkeep v2 hp2 v3 hp3 s1 s2, by omega, hp3, rfl, .inr ⟨b3, ?_, ?_, by omega, ?_⟩, by omega, fun j hj => ?_⟩
      · rw [e3, show a + k + 1 - a = k + 1 by omega]
      · omega
      · rw [show a + k + 1 - a = k + 1 by omega]
        refine hvec.congr fun r hr => ?_
        show (if r < k then _ else _) = _
        by_cases e : r < k
        · rw [if_pos e]
        · rw [if_neg e, show r = k by omega]
      · rw [hk3 j (by omega) fun len cap e => ?_, hkeep j hj]
        rcases hv with ⟨hv, _⟩ | ⟨b0, hv, _, hb0, _⟩
        · rw [hv] at e; cases e
        · rw [hv] at e; cases e; omega)
    (fun v m hI => hout v m)
    n a .nsl ⟨h, L, L⟩ rfl ⟨Nat.le_refl _, h, rfl, .inl ⟨rfl, by omega⟩, Nat.le_refl _, fun _ _ => rfl⟩
  obtain ⟨v', m', k1, -, hp, rfl, hv, hlen, hkeep⟩ := key
  rw [Nat.add_sub_cancel_left] at hv
  rcases hv with ⟨_, hz⟩ | ⟨b', rfl, _, hb', hvec⟩
  · omega
  · exact ⟨b', hp, k1, hvec, hb', hlen, hkeep⟩

/- Grow -/
def gwE (n : Int) (s : List UInt8) : Int := if askE n s 400 = 0 then (if s.length < 3 then 5 else 0) else askE n s 400
def gwS (n : Int) (s : List UInt8) : List UInt8 := if gwE n s = 0 then growS n.toNat s else []
theorem Grow_ok {ro : List ABlk} {h : Heap} {n : Int} {s : List UInt8} : callX F1 ro 16 [.i .i64 n, .s s] h = some (.tup [.s (gwS n s), .i .i64 (gwE n s)], h, h.length, h.length) := by
  refine g16_ok (meansX_ok F1 ro) rfl ?_
  unfold g16
  have c1 := callM_pure (call := callX F1 ro) (l := h.length) (p := h.length) (read_ok (ro := ro) (h := h) (n := n) (s := s)) (Nat.le_refl _) (Nat.le_refl _)
  simp only [meansX_call, c1, bindP_some, e_x0, e_x1, bindO_some, asI_i, eqI_eq, forceB_eq, e_len, ltI_eq]
  by_cases h1 : askE n s 400 = 0
  · have b1 : (askE n s 400 == 0) = true := by rw [h1]; rfl
    obtain ⟨p1, p2, p3, p4, p5⟩ := okR_of h1
    obtain ⟨k, rfl⟩ : ∃ k : Nat, n = (k : Int) := ⟨n.toNat, by omega⟩
    have hU : rdU k s = (k : Int) := if_pos h1
    by_cases h3 : s.length < 3
    · have e : gwE k s = 5 := by rw [gwE, if_pos h1, if_pos h3]
      have e2 : gwS k s = [] := by rw [gwS, e]; rfl
      have h3' : ((s.length : Int) < 3) := by omega
      simp only [b1, Bool.not_true, cond_false, decide_eq_true h3', cond_true, e, e2, tupA]
      exact fin_pure rfl
    · have e : gwE k s = 0 := by rw [gwE, if_pos h1, if_neg h3]
      have e2 : gwS k s = growS k s := if_pos e
      have h3' : ¬ ((s.length : Int) < 3) := by omega
      have cg := callM_pure (call := callX F1 ro) (l := h.length) (p := h.length) (grow_ok (ro := ro) (h := h) (by omega : k < 256) p5 (by omega) (by omega)) (Nat.le_refl _) (Nat.le_refl _)
      simp only [b1, Bool.not_true, cond_false, decide_eq_false h3', hU, cg, bindP_some, asS_s, e, e2, tupA]
      exact fin_pure rfl
  · have b1 : (askE n s 400 == 0) = false := beq_eq_false_iff_ne.2 h1
    have e : gwE n s = askE n s 400 := if_neg h1
    have e2 : gwS n s = [] := by rw [gwS, e, if_neg h1]
    simp only [b1, Bool.not_false, cond_true, e, e2, tupA]
    exact fin_pure rfl

/- the reference's plots and row -/
theorem rplots_ok {ro : List ABlk} {h : Heap} {s : List UInt8} (hs : okR s) (h0 : 0 < s.length) (hl : s.length ≤ 900) :
    ∃ b hp, callX F1 ro 48 [.s s] h = some (.sl ⟨false, b, 0⟩ s.length .grow, hp, h.length, h.length) ∧ NV h hp b s.length (bw s) := by
  obtain ⟨b, hp, k1, nv⟩ := push_loop (ro := ro) (h := h) (L := h.length) (Nat.le_refl _) (b := fun z => g48_b0 (meansX F1 ro) ro s z.1 z.2.1 z.2.2) 0 s.length (by omega) h0 (bw s)
    (fun k hk v hp hlen hkeep v2 hp2 v3 hp3 s1 s2 => by
      have hlt : (((0 + k : Nat) : Int) < (s.length : Int)) := by omega
      have hw : wr .i64 (wr .u8 ((ch s k : Int) - 48)) = ((bw s k : Nat) : Int) := bit_num _ (ch_lt s k) (bw_lt hs hk).2
      rw [Nat.zero_add] at hlt ⊢
      simp only [g48_b0, e_len, bindO_some, asI_i, ltI_eq, forceB_eq, decide_eq_true hlt, cond_true, e_ix hk, forceI_eq, hw, s1, bindP_some, s2, wr_next (by omega : k ≤ 1000000)])
    (fun v m => by
      have : decide ((s.length : Int) < (s.length : Int)) = false := lt_no
      show g48_b0 (meansX F1 ro) ro s v ((0 + s.length : Nat) : Int) m = _
      rw [Nat.zero_add]
      simp only [g48_b0, e_len, bindO_some, asI_i, ltI_eq, forceB_eq, this, cond_false])
  have e0 : ((0 : Nat) : Int) = 0 := rfl
  rw [e0] at k1
  refine ⟨b, hp, g48_ok (meansX_ok F1 ro) rfl ?_, nv⟩
  unfold g48
  simp only [meansX_loop, k1, bindO_some, tupA]
  exact fin_new nv.new

def rowL (n : Nat) (f : Nat → Nat) : List UInt8 := (List.range n).map fun j => UInt8.ofNat (cond (Nat.beq (f j) 1) 49 48)
theorem rrow_ok {ro : List ABlk} {h : Heap} {b n : Nat} {f : Nat → Nat} (hv : Vec h 3 b n (fun i => .i .i64 (f i : Nat))) (hn : n ≤ 900) :
    callX F1 ro 50 [.sl ⟨false, b, 0⟩ n .grow] h = some (.s (rowL n f), h, h.length, h.length) := by
  refine g50_ok (meansX_ok F1 ro) rfl ?_
  unfold g50
  have hb := hv.lt
  have hmk := mk_ok (ro := ro) (hp := h) (l := h.length) (p := h.length) (e := 5) (es := 1) (bytes := 1) (v := AVal.i IntKind.u8 0) (n := n) (by omega) (by omega)
  have hw := Vec.new h 5 n (AVal.i IntKind.u8 0)
  generalize hB : h ++ [some (newBlk 5 (AVal.i IntKind.u8 0) n)] = H at hmk hw
  have hL : H.length = h.length + 1 := by rw [← hB]; simp
  have hK : ∀ k, k < h.length → H[k]? = h[k]? := fun k hk => by rw [← hB]; exact List.getElem?_append_left hk
  have key := loop_all (b := fun z => g50_b0 (meansX F1 ro) ro (.sl ⟨false, b, 0⟩ n .grow) (.sl ⟨false, h.length, 0⟩ n (.known n)) z.1 z.2) n
    (fun k mm => ∃ hp', mm = ⟨hp', h.length, h.length⟩ ∧ Vec hp' 5 h.length n (fun j => .i .u8 ((if j < k then cond (Nat.beq (f j) 1) 49 48 else 0 : Nat) : Int)) ∧ hp'.length = h.length + 1 ∧ ∀ k, k < h.length → hp'[k]? = h[k]?)
    (fun k mm hk hI => by
      obtain ⟨hp', rfl, hv', hl, hkeep⟩ := hI
      have hlt : ((k : Int) < (n : Int)) := by omega
      have ei := ixS_eq (q := ⟨false, h.length, 0⟩) (len := n) (cap := .known n) (i := k) hk
      have ei2 := ixS_eq (q := ⟨false, b, 0⟩) (len := n) (cap := .grow) (i := k) hk
      obtain ⟨y, s1, s2⟩ := Vec.set (ro := ro) (l := h.length) (p := h.length) hv' hk (v := .i .u8 48) rfl rfl rfl
      rw [Nat.min_self] at s1
      have hl1 : (hp'.set h.length y).length = h.length + 1 := by rw [List.length_set]; exact hl
      have hk1 : ∀ k, k < h.length → (hp'.set h.length y)[k]? = h[k]? := fun j hj => by rw [List.getElem?_set_ne (by omega)]; exact hkeep j hj
      have ld := Vec.ld (ro := ro) (l := h.length) (p := h.length) (hv.keep (hk1 b hb)) hk
      obtain ⟨y2, t1, t2⟩ := Vec.set (ro := ro) (l := h.length) (p := h.length) s2 hk (v := .i .u8 49) rfl rfl rfl
      rw [Nat.min_self] at t1
      cases hf : Nat.beq (f k) 1 with
      | false =>
        have hne : ((((f k : Nat) : Int)) == 1) = false := by
          rw [beq_eq_false_iff_ne]
          intro e
          have : f k = 1 := by omega
          rw [this] at hf; cases hf
        refine ⟨⟨hp'.set h.length y, h.length, h.length⟩, ?_, _, rfl, s2.congr fun r hr => ?_, hl1, hk1⟩
        · simp only [g50_b0, e_lenS, bindO_some, asI_i, ltI_eq, forceB_eq, decide_eq_true hlt, cond_true, ei, s1, bindP_some, ei2, ld, eqI_eq, hne, cond_false, forceI_eq, wr_next (by omega : k ≤ 1000000)]
        · show (if r = k then _ else _) = _
          by_cases e : r = k
          · rw [if_pos e, if_pos (by omega), e, hf]; rfl
          · rw [if_neg e]
            by_cases e' : r < k
            · rw [if_pos e', if_pos (by omega)]
            · rw [if_neg e', if_neg (by omega)]
      | true =>
        have he : ((((f k : Nat) : Int)) == 1) = true := by rw [beq_iff.1 hf]; rfl
        refine ⟨⟨(hp'.set h.length y).set h.length y2, h.length, h.length⟩, ?_, _, rfl, t2.congr fun r hr => ?_, by rw [List.length_set]; exact hl1, fun j hj => by rw [List.getElem?_set_ne (by omega)]; exact hk1 j hj⟩
        · simp only [g50_b0, e_lenS, bindO_some, asI_i, ltI_eq, forceB_eq, decide_eq_true hlt, cond_true, ei, s1, bindP_some, ei2, ld, eqI_eq, he, t1, forceI_eq, wr_next (by omega : k ≤ 1000000)]
        · show (if r = k then _ else (if r = k then _ else _)) = _
          by_cases e : r = k
          · rw [if_pos e, if_pos (by omega), e, hf]; rfl
          · rw [if_neg e, if_neg e]
            by_cases e' : r < k
            · rw [if_pos e', if_pos (by omega)]
            · rw [if_neg e', if_neg (by omega)])
    (fun mm hI => by
      have : decide ((n : Int) < (n : Int)) = false := lt_no
      show g50_b0 (meansX F1 ro) ro _ _ n mm = _
      simp only [g50_b0, e_lenS, bindO_some, asI_i, ltI_eq, forceB_eq, this, cond_false])
    n 0 ⟨H, h.length, h.length⟩ (by omega) ⟨H, rfl, hw.congr fun r hr => by rw [if_neg (by omega)]; rfl, hL, hK⟩
  obtain ⟨m', k1, hq, rfl, k2, k3, k4⟩ := key
  have e0 : ((0 : Nat) : Int) = 0 := rfl
  rw [e0] at k1
  have hbt := bts_ok (ro := ro) (cap := .known n) (l := h.length) (p := h.length) (k2.congr (get' := fun j => .i .u8 ((cond (Nat.beq (f j) 1) 49 48 : Nat) : Int)) fun r hr => by rw [if_pos hr]) (fun j hj => by cases Nat.beq (f j) 1 <;> decide)
  simp only [e_lenS, bindO_some, asI_i, hmk, bindP_some, meansX_loop, k1, hbt, asS_s, tupA]
  rw [fin_take (by rfl), take_keep (by omega) k4]
  rfl

/- the reference's ring -/
def ringF (u n : Nat) (f : Nat → Nat) (i : Nat) : Nat := nx u (4 * f ((i + n - 1) % n) + 2 * f i + f ((i + 1) % n))
theorem rring_ok {ro : List ABlk} {h : Heap} {u b n : Nat} {f : Nat → Nat} (hu : u < 256) (hv : Vec h 3 b n (fun i => .i .i64 (f i : Nat))) (hf : ∀ i, i < n → f i < 2) (h0 : 0 < n) (hn : n ≤ 900) :
    ∃ b' hp, callX F1 ro 52 [.i .i64 u, .sl ⟨false, b, 0⟩ n .grow] h = some (.sl ⟨false, b', 0⟩ n .grow, hp, h.length, h.length) ∧ NV h hp b' n (ringF u n f) := by
  obtain ⟨b', hp, k1, nv⟩ := push_loop (ro := ro) (h := h) (L := h.length) (Nat.le_refl _) (b := fun z => g52_b0 (meansX F1 ro) ro u (.sl ⟨false, b, 0⟩ n .grow) n z.1 z.2.1 z.2.2) 0 n (by omega) h0 (ringF u n f)
    (fun k hk v hp hlen hkeep v2 hp2 v3 hp3 s1 s2 => by
      have hlt : ((k : Int) < (n : Int)) := by omega
      have m1 := Nat.mod_lt (k + n - 1) h0
      have m2 := Nat.mod_lt (k + 1) h0
      have w1 : wr .i64 ((k : Int) + (n : Int)) = ((k + n : Nat) : Int) := by rw [wr_id' (by omega) (by omega)]; omega
      have w2 : wr .i64 (((k + n : Nat) : Int) - 1) = ((k + n - 1 : Nat) : Int) := by rw [wr_id' (by omega) (by omega)]; omega
      have t1 : Int.tmod ((k + n - 1 : Nat) : Int) (n : Int) = (((k + n - 1) % n : Nat) : Int) := rfl
      have t2 : Int.tmod ((k + 1 : Nat) : Int) (n : Int) = (((k + 1) % n : Nat) : Int) := rfl
      have nz : ((n : Int) == Int.ofNat 0) = false := by
        show ((n : Int) == 0) = false
        rw [beq_eq_false_iff_ne]; omega
      have vk := hv.keep (hkeep b hv.lt)
      have l1 := Vec.lda (ro := ro) vk m1
      have l2 := Vec.lda (ro := ro) vk hk
      have l3 := Vec.lda (ro := ro) vk m2
      have cb := callM_pure (call := callX F1 ro) (l := h.length) (p := h.length) (becomes_ok (ro := ro) (h := hp) hu (hf _ m1) (hf _ hk) (hf _ m2)) hlen hlen
      have s1' : stepM ro ⟨hp, h.length, h.length⟩ (.bsl 3 1 [.i .i64 0] 1 [((0, 1), .c (.i .i64 ((nx u (4 * f ((k + n - 1) % n) + 2 * f k + f ((k + 1) % n)) : Nat) : Int)))]) = some (v2, ⟨hp2, h.length, h.length⟩) := s1
      rw [Nat.zero_add]
      simp only [g52_b0, ltI_eq, forceB_eq, decide_eq_true hlt, cond_true, forceI_eq, w1, w2, eqI_eq, nz, Bool.not_false, chk_true, t1, ixS_eq m1, ixS_eq hk, bindO_some, wr_next (by omega : k ≤ 1000000), t2, ixS_eq m2, l1, l2, l3, asI_i, meansX_call, cb, bindP_some, s1', s2])
    (fun v m => by
      have : decide ((n : Int) < (n : Int)) = false := lt_no
      show g52_b0 (meansX F1 ro) ro u _ n v ((0 + n : Nat) : Int) m = _
      rw [Nat.zero_add]
      simp only [g52_b0, ltI_eq, forceB_eq, this, cond_false])
  have e0 : ((0 : Nat) : Int) = 0 := rfl
  rw [e0] at k1
  refine ⟨b', hp, g52_ok (meansX_ok F1 ro) rfl ?_, nv⟩
  unfold g52
  simp only [e_lenS, bindO_some, asI_i, meansX_loop, k1, tupA]
  exact fin_new nv.new

theorem NV.trans {h hp hp' : Heap} {b b' n n' : Nat} {f f' : Nat → Nat} (h1 : NV h hp b n f) (h2 : NV hp hp' b' n' f') : NV h hp' b' n' f' :=
  ⟨h2.vec, Nat.le_trans h1.len h2.new, Nat.le_trans h1.len h2.len, fun j hj => by rw [h2.keep j (Nat.lt_of_lt_of_le hj h1.len), h1.keep j hj]⟩
theorem NV.congr {h hp : Heap} {b n : Nat} {f f' : Nat → Nat} (h1 : NV h hp b n f) (hc : ∀ i, i < n → f i = f' i) : NV h hp b n f' :=
  ⟨h1.vec.congr fun r hr => by rw [hc r hr], h1.new, h1.len, h1.keep⟩
theorem rowL_ch {n : Nat} {f : Nat → Nat} {i : Nat} (hi : i < n) : ch (rowL n f) i = cond (Nat.beq (f i) 1) 49 48 :=
  made_ch hi (by cases Nat.beq (f i) 1 <;> decide)
theorem rowL_len {n : Nat} {f : Nat → Nat} : (rowL n f).length = n := by simp [rowL]
theorem rowL_eq {t : List UInt8} (ht : okR t) : rowL t.length (bw t) = t :=
  str_ext rowL_len fun i hi => by
    rw [rowL_len] at hi
    rw [rowL_ch hi]
    unfold bw
    rcases ht i hi with e | e <;> rw [e] <;> rfl
theorem growS_ch {u : Nat} {s : List UInt8} {k : Nat} (hk : k < s.length - 2) : ch (growS u s) k = 48 + nx u (4 * bw s k + 2 * bw s (k + 1) + bw s (k + 2)) :=
  made_ch (g := growV u s) hk (by have := nx_le u (4 * bw s k + 2 * bw s (k + 1) + bw s (k + 2)); unfold growV; omega)
theorem growS_len {u : Nat} {s : List UInt8} : (growS u s).length = s.length - 2 := by simp [growS]

/-- the reference's Ring -/
theorem rRing_ok {ro : List ABlk} {h : Heap} {n y : Int} {s : List UInt8} (hs : s.length ≤ 1000000) : callX F1 ro 19 [.i .i64 n, .s s, .i .i64 y] h = some (.tup [.s (rgS n s y), .i .i64 (rgE n s y)], h, h.length, h.length) := by
  refine g19_ok (meansX_ok F1 ro) rfl ?_
  unfold g19
  have c1 := callM_pure (call := callX F1 ro) (l := h.length) (p := h.length) (asked_ok (ro := ro) (h := h) (n := n) (s := s) (most := 400) hs) (Nat.le_refl _) (Nat.le_refl _)
  simp only [meansX_call, c1, bindP_some, bindO_some, asI_i, eqI_eq, forceB_eq, ltI_eq]
  by_cases h1 : askE n s 400 = 0
  · have b1 : (askE n s 400 == 0) = true := by rw [h1]; rfl
    obtain ⟨p1, p2, p3, p4, p5⟩ := okR_of h1
    obtain ⟨k, rfl⟩ : ∃ k : Nat, n = (k : Int) := ⟨n.toNat, by omega⟩
    by_cases hy : y < 0 ∨ 1000 < y
    · have e : rgE k s y = 3 := by rw [rgE, if_pos h1, if_pos hy]
      have e2 : rgS k s y = [] := by rw [rgS, e]; rfl
      rw [e, e2]
      by_cases hy1 : y < 0
      · simp only [b1, Bool.not_true, cond_false, decide_eq_true hy1, cond_true, bindO_some, tupA]
        exact fin_pure rfl
      · have hy2 : 1000 < y := by omega
        simp only [b1, Bool.not_true, cond_false, decide_eq_false hy1, decide_eq_true hy2, cond_true, bindO_some, tupA]
        exact fin_pure rfl
    · have e : rgE k s y = 0 := by rw [rgE, if_pos h1, if_neg hy]
      obtain ⟨j, rfl⟩ : ∃ j : Nat, y = (j : Int) := ⟨y.toNat, by omega⟩
      have e2 : rgS k s j = yrs k s j := by rw [rgS, if_pos e]; rfl
      rw [e, e2]
      have hy1 : ¬ ((j : Int) < 0) := by omega
      have hy2 : ¬ ((1000 : Int) < (j : Int)) := by omega
      obtain ⟨b0, hp0, q1, nv0⟩ := rplots_ok (ro := ro) (h := h) p5 p4 (by omega)
      have c2 := callM_new q1 (Nat.le_refl _)
      obtain ⟨v', m', k1, b', hp', rfl, rfl, nv⟩ := loop_all3 (b := fun z => g19_b1 (meansX F1 ro) ro k j z.1 z.2.1 z.2.2) j
        (fun i v m => ∃ b hp, v = .sl ⟨false, b, 0⟩ s.length .grow ∧ m = ⟨hp, h.length, h.length⟩ ∧ NV h hp b s.length (bw (yrs k s i)))
        (fun i v m hi hI => by
          obtain ⟨b, hp, rfl, rfl, nv⟩ := hI
          obtain ⟨y1, y2⟩ := yrs_spec (u := k) p5 p4 i
          have hlt : ((i : Int) < (j : Int)) := by omega
          obtain ⟨b', hp', r1, nv'⟩ := rring_ok (ro := ro) (by omega : k < 256) nv.vec (fun r hr => (bw_lt y1 (by omega)).1) p4 (by omega)
          have cr := callM_new r1 nv.len
          refine ⟨.sl ⟨false, b', 0⟩ s.length .grow, ⟨hp', h.length, h.length⟩, ?_, b', hp', rfl, rfl, (nv.trans nv').congr fun r hr => ?_⟩
          · simp only [g19_b1, forceB_eq, ltI_eq, decide_eq_true hlt, cond_true, meansX_call, cr, bindP_some, forceI_eq, wr_next (by omega : i ≤ 1000000)]
          · have := ringS_ch (u := k) (s := yrs k s i) (by omega) (k := r) (by omega)
            show ringF k s.length (bw (yrs k s i)) r = ch (ringS k (yrs k s i)) r - 48
            rw [this, y2]
            unfold ringF
            omega)
        (fun v m _ => by
          have : decide ((j : Int) < (j : Int)) = false := lt_no
          show g19_b1 (meansX F1 ro) ro k j v j m = _
          simp only [g19_b1, forceB_eq, ltI_eq, this, cond_false])
        j 0 _ _ (by omega) ⟨b0, hp0, rfl, rfl, nv0⟩
      obtain ⟨y1, y2⟩ := yrs_spec (u := k) p5 p4 j
      have e0 : ((0 : Nat) : Int) = 0 := rfl
      rw [e0] at k1
      have cw := callM_pure (call := callX F1 ro) (l := h.length) (p := h.length) (rrow_ok (ro := ro) nv.vec (by omega)) nv.len nv.len
      rw [← y2, rowL_eq y1, y2] at cw
      simp only [b1, Bool.not_true, cond_false, decide_eq_false hy1, decide_eq_false hy2, bindO_some, c2, bindP_some, meansX_loop, k1, cw, asS_s, tupA]
      rw [fin_take (by rfl), take_keep nv.len nv.keep]
  · have b1 : (askE n s 400 == 0) = false := beq_eq_false_iff_ne.2 h1
    have e : rgE n s y = askE n s 400 := if_neg h1
    have e2 : rgS n s y = [] := by rw [rgS, e, if_neg h1]
    simp only [b1, Bool.not_false, cond_true, e, e2, tupA]
    exact fin_pure rfl

/-- the reference's Grow -/
theorem rGrow_ok {ro : List ABlk} {h : Heap} {n : Int} {s : List UInt8} (hs : s.length ≤ 1000000) : callX F1 ro 17 [.i .i64 n, .s s] h = some (.tup [.s (gwS n s), .i .i64 (gwE n s)], h, h.length, h.length) := by
  refine g17_ok (meansX_ok F1 ro) rfl ?_
  unfold g17
  have c1 := callM_pure (call := callX F1 ro) (l := h.length) (p := h.length) (asked_ok (ro := ro) (h := h) (n := n) (s := s) (most := 400) hs) (Nat.le_refl _) (Nat.le_refl _)
  simp only [meansX_call, c1, bindP_some, bindO_some, asI_i, eqI_eq, forceB_eq, ltI_eq, e_len]
  by_cases h1 : askE n s 400 = 0
  · have b1 : (askE n s 400 == 0) = true := by rw [h1]; rfl
    obtain ⟨p1, p2, p3, p4, p5⟩ := okR_of h1
    obtain ⟨k, rfl⟩ : ∃ k : Nat, n = (k : Int) := ⟨n.toNat, by omega⟩
    by_cases h3 : s.length < 3
    · have e : gwE k s = 5 := by rw [gwE, if_pos h1, if_pos h3]
      have e2 : gwS k s = [] := by rw [gwS, e]; rfl
      have h3' : ((s.length : Int) < 3) := by omega
      simp only [b1, Bool.not_true, cond_false, decide_eq_true h3', cond_true, e, e2, tupA]
      exact fin_pure rfl
    · have e : gwE k s = 0 := by rw [gwE, if_pos h1, if_neg h3]
      have e2 : gwS k s = growS k s := if_pos e
      have h3' : ¬ ((s.length : Int) < 3) := by omega
      obtain ⟨b0, hp0, q1, nv0⟩ := rplots_ok (ro := ro) (h := h) p5 p4 (by omega)
      have c2 := callM_new q1 (Nat.le_refl _)
      obtain ⟨b', hp, k1, nv⟩ := push_loop (ro := ro) (h := hp0) (L := h.length) nv0.len (b := fun z => g17_b0 (meansX F1 ro) ro k (.sl ⟨false, b0, 0⟩ s.length .grow) z.1 z.2.1 z.2.2) 1 (s.length - 2) (by omega) (by omega)
        (fun i => nx k (4 * bw s i + 2 * bw s (i + 1) + bw s (i + 2)))
        (fun i hi v hp hlen hkeep v2 hp2 v3 hp3 s1 s2 => by
          have hlen' : h.length ≤ hp.length := Nat.le_trans nv0.len hlen
          have w1 : wr .i64 (((1 + i : Nat) : Int) + 1) = ((i + 2 : Nat) : Int) := by rw [wr_id' (by omega) (by omega)]; omega
          have w2 : wr .i64 (((1 + i : Nat) : Int) - 1) = ((i : Nat) : Int) := by rw [wr_id' (by omega) (by omega)]; omega
          have hlt : (((i + 2 : Nat) : Int) < (s.length : Int)) := by omega
          have vk := nv0.vec.keep (hkeep b0 nv0.vec.lt)
          have i1 := ixS_eq (q := ⟨false, b0, 0⟩) (len := s.length) (cap := .grow) (i := 1 + i) (by omega)
          have l1 := Vec.lda (ro := ro) vk (by omega : i < s.length)
          have l2 := Vec.lda (ro := ro) vk (by omega : 1 + i < s.length)
          have l3 := Vec.lda (ro := ro) vk (by omega : i + 2 < s.length)
          have cb := callM_pure (call := callX F1 ro) (l := h.length) (p := h.length) (becomes_ok (ro := ro) (h := hp) (by omega : k < 256) (bw_lt p5 (by omega : i < s.length)).1 (bw_lt p5 (by omega : 1 + i < s.length)).1 (bw_lt p5 (by omega : i + 2 < s.length)).1) hlen' hlen'
          rw [show 1 + i = i + 1 by omega] at i1 l2 cb w1 w2
          rw [show 1 + i + 1 = i + 2 by omega, show 1 + i = i + 1 by omega]
          simp only [g17_b0, forceI_eq, w1, e_lenS, bindO_some, asI_i, ltI_eq, forceB_eq, decide_eq_true hlt, cond_true, w2, ixS_eq (by omega : i < s.length), i1, ixS_eq (by omega : i + 2 < s.length), l1, l2, l3, meansX_call, cb, bindP_some, s1, s2])
        (fun v m => by
          have w1 : wr .i64 (((1 + (s.length - 2) : Nat) : Int) + 1) = ((s.length : Nat) : Int) := by rw [wr_id' (by omega) (by omega)]; omega
          have : decide ((s.length : Int) < (s.length : Int)) = false := lt_no
          show g17_b0 (meansX F1 ro) ro k _ v ((1 + (s.length - 2) : Nat) : Int) m = _
          simp only [g17_b0, forceI_eq, w1, e_lenS, bindO_some, asI_i, ltI_eq, forceB_eq, this, cond_false])
      have nv' := nv0.trans nv
      have e0 : ((1 : Nat) : Int) = 1 := rfl
      rw [e0] at k1
      have cw := callM_pure (call := callX F1 ro) (l := h.length) (p := h.length) (rrow_ok (ro := ro) nv.vec (by omega)) nv'.len nv'.len
      have hrow : rowL (s.length - 2) (fun i => nx k (4 * bw s i + 2 * bw s (i + 1) + bw s (i + 2))) = growS k s :=
        str_ext (by rw [rowL_len, growS_len]) fun i hi => by
          rw [rowL_len] at hi
          rw [rowL_ch hi, growS_ch hi]
          have := nx_le k (4 * bw s i + 2 * bw s (i + 1) + bw s (i + 2))
          rcases (by omega : nx k (4 * bw s i + 2 * bw s (i + 1) + bw s (i + 2)) = 0 ∨ nx k (4 * bw s i + 2 * bw s (i + 1) + bw s (i + 2)) = 1) with e | e <;> rw [e] <;> rfl
      rw [hrow] at cw
      simp only [b1, Bool.not_true, cond_false, decide_eq_false h3', c2, bindP_some, meansX_loop, k1, bindO_some, cw, asS_s, e, e2, tupA]
      rw [fin_take (by rfl), take_keep nv'.len nv'.keep]
  · have b1 : (askE n s 400 == 0) = false := beq_eq_false_iff_ne.2 h1
    have e : gwE n s = askE n s 400 := if_neg h1
    have e2 : gwS n s = [] := by rw [gwS, e, if_neg h1]
    simp only [b1, Bool.not_false, cond_true, e, e2, tupA]
    exact fin_pure rfl
end Go.Proofs.Ytgbkicelkpagpaa.W

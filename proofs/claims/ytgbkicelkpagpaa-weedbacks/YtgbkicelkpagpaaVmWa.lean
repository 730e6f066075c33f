/- Rows as lists of numbers: Grow, and the reference's Grow and Ring. -/
import Derived.Test.YtgbkicelkpagpaaVmWy
import Derived.Test.YtgbkicelkpagpaaVmWo
open Go.Vm
set_option linter.unusedVariables false
namespace Go.Proofs.Ytgbkicelkpagpaa.W
open Go

/-- numbers as a vector in memory, behind what was there -/
structure NV (h hp : Heap) (b n : Nat) (f : Nat → Nat) : Prop where
  vec : Vec hp 3 b n (fun i => .i .i64 (f i : Nat))
  new : h.length ≤ b
  len : h.length ≤ hp.length
  keep : ∀ j, j < h.length → hp[j]? = h[j]?

theorem callM_new {call : Caller} {hp hp' : Heap} {L f : Nat} {vs : List AVal} {v : AVal} (e : call f vs hp = some (v, hp', hp.length, hp.length)) (hL : L ≤ hp.length) : callM call ⟨hp, L, L⟩ f vs = some (v, ⟨hp', L, L⟩) := by
  rw [callM_eq (m := ⟨hp, L, L⟩) e]; simp [Nat.min_eq_left hL]
theorem fin_new {hp : Heap} {L l p b k : Nat} {cap : Cap} (hb : L ≤ b) : finM L (.sl ⟨false, b, 0⟩ k cap) ⟨hp, l, p⟩ = some (.sl ⟨false, b, 0⟩ k cap, hp, l, p) := by
  simp [finM, gc, not_bel hb]
theorem e_lenS {q : Vm.Loc} {k : Nat} {cap : Cap} : evP .e (.len false (.c (.sl q k cap))) = some (.i .i64 (k : Nat)) := by simp only [evP, ev_len, opd, cond_false, mkI, forceI_eq]
theorem take_keep {h hp : Heap} (hl : h.length ≤ hp.length) (hk : ∀ j, j < h.length → hp[j]? = h[j]?) : hp.take h.length = h := by
  apply List.ext_getElem?
  intro j
  rw [List.getElem?_take]
  by_cases hj : j < h.length
  · rw [if_pos hj, hk j hj]
  · rw [if_neg hj, List.getElem?_eq_none (by omega)]

/-- numbers put one behind the other -/
theorem push_loop {ro : List ABlk} {h : Heap} {L : Nat} (hL : L ≤ h.length) {b : AVal × Int × Mm → Option ((AVal × Int × Mm) ⊕ (AVal × Mm))} (a n : Nat) (hn : n ≤ 999) (h0 : 0 < n) (w : Nat → Nat)
    (hin : ∀ k, k < n → ∀ (v : AVal) (hp : Heap), h.length ≤ hp.length → (∀ j, j < h.length → hp[j]? = h[j]?) → ∀ v2 hp2 v3 hp3,
      stepM ro ⟨hp, L, L⟩ (.bsl 3 1 [.i .i64 0] 1 [((0, 1), .c (.i .i64 (w k : Nat)))]) = some (v2, ⟨hp2, L, L⟩) → stepM ro ⟨hp2, L, L⟩ (.app 3 1 8 [.i .i64 0] (.c v) (.c v2)) = some (v3, ⟨hp3, L, L⟩) →
      b (v, ((a + k : Nat) : Int), ⟨hp, L, L⟩) = some (.inl (v3, ((a + k + 1 : Nat) : Int), ⟨hp3, L, L⟩)))
    (hout : ∀ v m, b (v, ((a + n : Nat) : Int), m) = some (.inr (v, m))) :
    ∃ b' hp, loopX b (.nsl, (a : Int), ⟨h, L, L⟩) = some (.sl ⟨false, b', 0⟩ n .grow, ⟨hp, L, L⟩) ∧ NV h hp b' n w := by
  have key := loop_all3 (b := b) (a + n)
    (fun i v m => a ≤ i ∧ ∃ hp, m = ⟨hp, L, L⟩ ∧ VecV hp h.length 3 v (i - a) (fun j => .i .i64 (w j : Nat)) ∧ h.length ≤ hp.length ∧ ∀ j, j < h.length → hp[j]? = h[j]?)
    (fun i v m hi hI => by
      obtain ⟨hai, hp, rfl, hv, hlen, hkeep⟩ := hI
      obtain ⟨k, rfl⟩ : ∃ k, i = a + k := ⟨i - a, by omega⟩
      rw [Nat.add_sub_cancel_left] at hv
      obtain ⟨v2, hp2, v3, hp3, b3, s1, s2, e3, hb3, hvec, hl3, hk3⟩ := push_ok (ro := ro) (bytes := 8) (z := .i .i64 0) (w := .i .i64 (w k : Nat)) (hv.low hL) (by omega) (by omega) (by omega) rfl rfl
      refine ⟨v3, ⟨hp3, L, L⟩, hin k (by omega) v hp hlen hkeep v2 hp2 v3 hp3 s1 s2, by omega, hp3, rfl, .inr ⟨b3, ?_, ?_, by omega, ?_⟩, by omega, fun j hj => ?_⟩
      · rw [e3, show a + k + 1 - a = k + 1 by omega]
      · omega
      · rw [show a + k + 1 - a = k + 1 by omega]
        refine hvec.congr fun r hr => ?_
        show (if r < k then _ else _) = _
        by_cases e : r < k
        · rw [if_pos e]
        · rw [if_neg e, show r = k by omega]
      · rw [hk3 j (by omega) fun len cap e => ?_, hkeep j hj]
        rcases hv with ⟨hv, _⟩ | ⟨b0, hv, _, hb0, _⟩
        · rw [hv] at e; cases e
        · rw [hv] at e; cases e; omega)
    (fun v m hI => hout v m)
    n a .nsl ⟨h, L, L⟩ rfl ⟨Nat.le_refl _, h, rfl, .inl ⟨rfl, by omega⟩, Nat.le_refl _, fun _ _ => rfl⟩
  obtain ⟨v', m', k1, -, hp, rfl, hv, hlen, hkeep⟩ := key
  rw [Nat.add_sub_cancel_left] at hv
  rcases hv with ⟨_, hz⟩ | ⟨b', rfl, _, hb', hvec⟩
  · omega
  · exact ⟨b', hp, k1, hvec, hb', hlen, hkeep⟩

/- Grow -/
/- the reference's plots and row -/
theorem rplots_ok {ro : List ABlk} {h : Heap} {s : List UInt8} (hs : okR s) (h0 : 0 < s.length) (hl : s.length ≤ 900) :
    ∃ b hp, callX F1 ro 48 [.s s] h = some (.sl ⟨false, b, 0⟩ s.length .grow, hp, h.length, h.length) ∧ NV h hp b s.length (bw s) := by
  obtain ⟨b, hp, k1, nv⟩ := push_loop (ro := ro) (h := h) (L := h.length) (Nat.le_refl _) (b := fun z => g48_b0 (meansX F1 ro) ro s z.1 z.2.1 z.2.2) 0 s.length (by omega) h0 (bw s)
    (fun k hk v hp hlen hkeep v2 hp2 v3 hp3 s1 s2 => by
      have hlt : (((0 + k : Nat) : Int) < (s.length : Int)) := by omega
      have hw : wr .i64 (wr .u8 ((ch s k : Int) - 48)) = ((bw s k : Nat) : Int) := bit_num _ (ch_lt s k) (bw_lt hs hk).2
      rw [Nat.zero_add] at hlt ⊢
      simp only [g48_b0, e_len, bindO_some, asI_i, ltI_eq, forceB_eq, decide_eq_true hlt, cond_true, e_ix hk, forceI_eq, hw, s1, bindP_some, s2, wr_next (by omega : k ≤ 1000000)])
    (fun v m => by
      have : decide ((s.length : Int) < (s.length : Int)) = false := lt_no
      show g48_b0 (meansX F1 ro) ro s v ((0 + s.length : Nat) : Int) m = _
      rw [Nat.zero_add]
      simp only [g48_b0, e_len, bindO_some, asI_i, ltI_eq, forceB_eq, this, cond_false])
  have e0 : ((0 : Nat) : Int) = 0 := rfl
  rw [e0] at k1
  refine ⟨b, hp, g48_ok (meansX_ok F1 ro) rfl ?_, nv⟩
  unfold g48
  simp only [meansX_loop, k1, bindO_some, tupA]
  exact fin_new nv.new

def rowL (n : Nat) (f : Nat → Nat) : List UInt8 := (List.range n).map fun j => UInt8.ofNat (cond (Nat.beq (f j) 1) 49 48)
theorem rrow_ok {ro : List ABlk} {h : Heap} {b n : Nat} {cap : Cap} {f : Nat → Nat} (hv : Vec h 3 b n (fun i => .i .i64 (f i : Nat))) (hn : n ≤ 900) :
    callX F1 ro 50 [.sl ⟨false, b, 0⟩ n cap] h = some (.s (rowL n f), h, h.length, h.length) := by
  refine g50_ok (meansX_ok F1 ro) rfl ?_
  unfold g50
  have hb := hv.lt
  have hmk := mk_ok (ro := ro) (hp := h) (l := h.length) (p := h.length) (e := 5) (es := 1) (bytes := 1) (v := AVal.i IntKind.u8 0) (n := n) (by omega) (by omega)
  have hw := Vec.new h 5 n (AVal.i IntKind.u8 0)
  generalize hB : h ++ [some (newBlk 5 (AVal.i IntKind.u8 0) n)] = H at hmk hw
  have hL : H.length = h.length + 1 := by rw [← hB]; simp
  have hK : ∀ k, k < h.length → H[k]? = h[k]? := fun k hk => by rw [← hB]; exact List.getElem?_append_left hk
  have key := loop_all (b := fun z => g50_b0 (meansX F1 ro) ro (.sl ⟨false, b, 0⟩ n cap) (.sl ⟨false, h.length, 0⟩ n (.known n)) z.1 z.2) n
    (fun k mm => ∃ hp', mm = ⟨hp', h.length, h.length⟩ ∧ Vec hp' 5 h.length n (fun j => .i .u8 ((if j < k then cond (Nat.beq (f j) 1) 49 48 else 0 : Nat) : Int)) ∧ hp'.length = h.length + 1 ∧ ∀ k, k < h.length → hp'[k]? = h[k]?)
    (fun k mm hk hI => by
      obtain ⟨hp', rfl, hv', hl, hkeep⟩ := hI
      have hlt : ((k : Int) < (n : Int)) := by omega
      have ei := ixS_eq (q := ⟨false, h.length, 0⟩) (len := n) (cap := .known n) (i := k) hk
      have ei2 := ixS_eq (q := ⟨false, b, 0⟩) (len := n) (cap := cap) (i := k) hk
      obtain ⟨y, s1, s2⟩ := Vec.set (ro := ro) (l := h.length) (p := h.length) hv' hk (v := .i .u8 48) rfl rfl rfl
      rw [Nat.min_self] at s1
      have hl1 : (hp'.set h.length y).length = h.length + 1 := by rw [List.length_set]; exact hl
      have hk1 : ∀ k, k < h.length → (hp'.set h.length y)[k]? = h[k]? := fun j hj => by rw [List.getElem?_set_ne (by omega)]; exact hkeep j hj
      have ld := Vec.ld (ro := ro) (l := h.length) (p := h.length) (hv.keep (hk1 b hb)) hk
      obtain ⟨y2, t1, t2⟩ := Vec.set (ro := ro) (l := h.length) (p := h.length) s2 hk (v := .i .u8 49) rfl rfl rfl
      rw [Nat.min_self] at t1
      cases hf : Nat.beq (f k) 1 with
      | false =>
        have hne : ((((f k : Nat) : Int)) == 1) = false := by
          rw [beq_eq_false_iff_ne]
          intro e
          have : f k = 1 := by omega
          rw [this] at hf; cases hf
        refine ⟨⟨hp'.set h.length y, h.length, h.length⟩, ?_, _, rfl, s2.congr fun r hr => ?_, hl1, hk1⟩
        · simp only [g50_b0, e_lenS, bindO_some, asI_i, ltI_eq, forceB_eq, decide_eq_true hlt, cond_true, ei, s1, bindP_some, ei2, ld, eqI_eq, hne, cond_false, forceI_eq, wr_next (by omega : k ≤ 1000000)]
        · show (if r = k then _ else _) = _
          by_cases e : r = k
          · rw [if_pos e, if_pos (by omega), e, hf]; rfl
          · rw [if_neg e]
            by_cases e' : r < k
            · rw [if_pos e', if_pos (by omega)]
            · rw [if_neg e', if_neg (by omega)]
      | true =>
        have he : ((((f k : Nat) : Int)) == 1) = true := by rw [beq_iff.1 hf]; rfl
        refine ⟨⟨(hp'.set h.length y).set h.length y2, h.length, h.length⟩, ?_, _, rfl, t2.congr fun r hr => ?_, by rw [List.length_set]; exact hl1, fun j hj => by rw [List.getElem?_set_ne (by omega)]; exact hk1 j hj⟩
        · simp only [g50_b0, e_lenS, bindO_some, asI_i, ltI_eq, forceB_eq, decide_eq_true hlt, cond_true, ei, s1, bindP_some, ei2, ld, eqI_eq, he, t1, forceI_eq, wr_next (by omega : k ≤ 1000000)]
        · show (if r = k then _ else (if r = k then _ else _)) = _
          by_cases e : r = k
          · rw [if_pos e, if_pos (by omega), e, hf]; rfl
          · rw [if_neg e, if_neg e]
            by_cases e' : r < k
            · rw [if_pos e', if_pos (by omega)]
            · rw [if_neg e', if_neg (by omega)])
    (fun mm hI => by
      have : decide ((n : Int) < (n : Int)) = false := lt_no
      show g50_b0 (meansX F1 ro) ro _ _ n mm = _
      simp only [g50_b0, e_lenS, bindO_some, asI_i, ltI_eq, forceB_eq, this, cond_false])
    n 0 ⟨H, h.length, h.length⟩ (by omega) ⟨H, rfl, hw.congr fun r hr => by rw [if_neg (by omega)]; rfl, hL, hK⟩
  obtain ⟨m', k1, hq, rfl, k2, k3, k4⟩ := key
  have e0 : ((0 : Nat) : Int) = 0 := rfl
  rw [e0] at k1
  have hbt := bts_ok (ro := ro) (cap := .known n) (l := h.length) (p := h.length) (k2.congr (get' := fun j => .i .u8 ((cond (Nat.beq (f j) 1) 49 48 : Nat) : Int)) fun r hr => by rw [if_pos hr]) (fun j hj => by cases Nat.beq (f j) 1 <;> decide)
  simp only [e_lenS, bindO_some, asI_i, hmk, bindP_some, meansX_loop, k1, hbt, asS_s, tupA]
  rw [fin_take (by rfl), take_keep (by omega) k4]
  rfl

/- the reference's ring -/
theorem NV.congr {h hp : Heap} {b n : Nat} {f f' : Nat → Nat} (h1 : NV h hp b n f) (hc : ∀ i, i < n → f i = f' i) : NV h hp b n f' :=
  ⟨h1.vec.congr fun r hr => by rw [hc r hr], h1.new, h1.len, h1.keep⟩
theorem rowL_ch {n : Nat} {f : Nat → Nat} {i : Nat} (hi : i < n) : ch (rowL n f) i = cond (Nat.beq (f i) 1) 49 48 :=
  made_ch hi (by cases Nat.beq (f i) 1 <;> decide)
theorem rowL_len {n : Nat} {f : Nat → Nat} : (rowL n f).length = n := by simp [rowL]
end Go.Proofs.Ytgbkicelkpagpaa.W

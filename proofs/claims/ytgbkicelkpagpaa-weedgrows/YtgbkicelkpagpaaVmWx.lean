/- Strings that are made byte by byte; grow, ring, Ring. -/
import Derived.Test.YtgbkicelkpagpaaVmWp
open Go.Vm
set_option linter.unusedVariables false
namespace Go.Proofs.Ytgbkicelkpagpaa.W
open Go

/-- bytes written one by one, and their string -/
theorem bytes_loop {ro : List ABlk} {h : Heap} {n : Nat} {g : Nat → Nat} {b : Int × Mm → Option ((Int × Mm) ⊕ Mm)} (hg : ∀ k, k < n → g k < 256)
    (σ : Nat → Nat) (done : Nat → Nat → Bool) (hσ : ∀ k, k < n → σ k < n) (hd0 : ∀ j, j < n → done 0 j = false) (hdn : ∀ j, j < n → done n j = true) (hds : ∀ k j, k < n → j < n → done (k + 1) j = (done k j || Nat.beq j (σ k)))
    (hin : ∀ k, k < n → ∀ hp' hp'' : Heap, h.length ≤ hp'.length → stepM ro ⟨hp', h.length, h.length⟩ (.st 1 (.c (.p (some ⟨false, h.length, 0 + σ k⟩))) (.c (.i .u8 (g (σ k) : Nat)))) = some (und, ⟨hp'', h.length, h.length⟩) →
      b ((k : Int), ⟨hp', h.length, h.length⟩) = some (.inl (((k + 1 : Nat) : Int), ⟨hp'', h.length, h.length⟩)))
    (hout : ∀ m, b ((n : Int), m) = some (.inr m)) :
    ∃ hq, loopX b (0, ⟨h ++ [some (newBlk 5 (AVal.i IntKind.u8 0) n)], h.length, h.length⟩) = some ⟨hq, h.length, h.length⟩ ∧
      btsM ro ⟨hq, h.length, h.length⟩ (.sl ⟨false, h.length, 0⟩ n (.known n)) = some (.s ((List.range n).map fun j => UInt8.ofNat (g j))) ∧ hq.take h.length = h ∧ h.length ≤ hq.length := by
  have hv := Vec.new h 5 n (AVal.i IntKind.u8 0)
  generalize hB : h ++ [some (newBlk 5 (AVal.i IntKind.u8 0) n)] = H at hv
  have hL : H.length = h.length + 1 := by rw [← hB]; simp
  have hK : ∀ k, k < h.length → H[k]? = h[k]? := fun k hk => by rw [← hB]; exact List.getElem?_append_left hk
  have key := loop_all (b := b) n
    (fun k mm => ∃ hp', mm = ⟨hp', h.length, h.length⟩ ∧ Vec hp' 5 h.length n (fun j => .i .u8 ((cond (done k j) (g j) 0 : Nat) : Int)) ∧ hp'.length = h.length + 1 ∧ ∀ k, k < h.length → hp'[k]? = h[k]?)
    (fun k mm hk hI => by
      obtain ⟨hp', rfl, hv', hl, hkeep⟩ := hI
      obtain ⟨y, s1, s2⟩ := Vec.set (ro := ro) (l := h.length) (p := h.length) hv' (hσ k hk) (v := .i .u8 ((g (σ k) : Nat) : Int)) rfl rfl rfl
      rw [Nat.min_self] at s1
      refine ⟨⟨hp'.set h.length y, h.length, h.length⟩, hin k hk _ _ (by omega) s1, _, rfl, ?_, by rw [List.length_set]; exact hl, fun j hj => by rw [List.getElem?_set_ne (by omega)]; exact hkeep j hj⟩
      refine s2.congr fun r hr => ?_
      show (if r = σ k then _ else _) = _
      rw [hds k r hk hr]
      by_cases e : r = σ k
      · rw [if_pos e, show Nat.beq r (σ k) = true from beq_iff.2 e, Bool.or_true, cond_true, e]
      · have hb : Nat.beq r (σ k) = false := by
          cases hb : Nat.beq r (σ k)
          · rfl
          · exact absurd (beq_iff.1 hb) e
        rw [if_neg e, hb, Bool.or_false])
    (fun mm hI => hout mm)
    n 0 ⟨H, h.length, h.length⟩ (by omega) ⟨H, rfl, hv.congr fun r hr => by rw [hd0 r hr]; rfl, hL, hK⟩
  obtain ⟨m', k1, hq, rfl, k2, k3, k4⟩ := key
  have e0 : ((0 : Nat) : Int) = 0 := rfl
  rw [e0] at k1
  refine ⟨hq, k1, bts_ok (k2.congr (get' := fun j => .i .u8 ((g j : Nat) : Int)) fun r hr => by rw [hdn r hr, cond_true]) hg, ?_, by omega⟩
  apply List.ext_getElem?
  intro j
  rw [List.getElem?_take]
  by_cases hj : j < h.length
  · rw [if_pos hj, k4 j hj]
  · rw [if_neg hj, List.getElem?_eq_none (by omega)]

theorem blt_succ {k j n : Nat} (hk : k < n) (hj : j < n) : Nat.blt j (k + 1) = (Nat.blt j k || Nat.beq j k) := by
  rcases Nat.lt_trichotomy j k with h | h | h
  · rw [show Nat.blt j (k + 1) = true by rw [Nat.blt_eq]; omega, show Nat.blt j k = true by rw [Nat.blt_eq]; exact h]; rfl
  · subst h
    rw [show Nat.blt j (j + 1) = true by rw [Nat.blt_eq]; omega, Nat.beq_refl, Bool.or_true]
  · rw [show Nat.blt j (k + 1) = false by rw [← Bool.not_eq_true, Nat.blt_eq]; omega, show Nat.blt j k = false by rw [← Bool.not_eq_true, Nat.blt_eq]; omega, show Nat.beq j k = false by rw [← Bool.not_eq_true, beq_iff]; omega]; rfl
theorem blt_none (j : Nat) : Nat.blt j 0 = false := by rw [← Bool.not_eq_true, Nat.blt_eq]; omega
theorem blt_all {j n : Nat} (h : j < n) : Nat.blt j n = true := by rw [Nat.blt_eq]; exact h
theorem plot_num : ∀ t, t < 2 → wr .u8 (48 + wr .u8 (Int.ofNat t)) = Int.ofNat (48 + t) := by decide +kernel
theorem plot_ok {ro : List ABlk} {h : Heap} {t : Nat} (ht : t < 2) : callX F1 ro 71 [.i .i64 t] h = some (.i .u8 (48 + t : Nat), h, h.length, h.length) := by
  refine g71_ok (meansX_ok F1 ro) rfl ?_
  unfold g71
  have e : wr .u8 (48 + wr .u8 (t : Int)) = ((48 + t : Nat) : Int) := plot_num t ht
  simp only [forceI_eq, e, tupA]
  exact fin_pure rfl

theorem bw_lt {s : List UInt8} (hs : okR s) {i : Nat} (hi : i < s.length) : bw s i < 2 ∧ 48 ≤ ch s i := by
  unfold bw
  rcases hs i hi with e | e <;> omega
def growV (u : Nat) (s : List UInt8) (k : Nat) : Nat := 48 + nx u (4 * bw s k + 2 * bw s (k + 1) + bw s (k + 2))
def growS (u : Nat) (s : List UInt8) : List UInt8 := (List.range (s.length - 2)).map fun k => UInt8.ofNat (growV u s k)
theorem grow_ok {ro : List ABlk} {h : Heap} {u : Nat} {s : List UInt8} (hu : u < 256) (hs : okR s) (h2 : 2 ≤ s.length) (hl : s.length ≤ 1000) :
    callX F1 ro 46 [.i .u8 u, .s s] h = some (.s (growS u s), h, h.length, h.length) := by
  refine g46_ok (meansX_ok F1 ro) rfl ?_
  unfold g46
  have e9 : wr .i64 ((s.length : Int) - 2) = ((s.length - 2 : Nat) : Int) := by rw [wr_id' (by omega) (by omega)]; omega
  have hmk := mk_ok (ro := ro) (hp := h) (l := h.length) (p := h.length) (e := 5) (es := 1) (bytes := 1) (v := AVal.i IntKind.u8 0) (n := s.length - 2) (by omega) (by omega)
  have hlen : evP .e (.len false (.c (.sl ⟨false, h.length, 0⟩ (s.length - 2) (.known (s.length - 2))))) = some (.i .i64 ((s.length - 2 : Nat) : Int)) := by simp only [evP, ev_len, opd, cond_false, mkI, forceI_eq]
  obtain ⟨hq, k1, k2, k3, k4⟩ := bytes_loop (ro := ro) (h := h) (n := s.length - 2) (g := growV u s)
    (b := fun z => g46_b0 (meansX F1 ro) ro u s (.sl ⟨false, h.length, 0⟩ (s.length - 2) (.known (s.length - 2))) ((s.length - 2 : Nat) : Int) z.1 z.2)
    (fun k hk => by have := nx_le u (4 * bw s k + 2 * bw s (k + 1) + bw s (k + 2)); unfold growV; omega)
    (fun k => k) (fun k j => Nat.blt j k) (fun k hk => hk) (fun j _ => blt_none j) (fun j hj => blt_all hj) (fun k j hk hj => blt_succ hk hj)
    (fun k hk hp' hp'' hL hst => by
      have hlt : ((k : Int) < ((s.length - 2 : Nat) : Int)) := by omega
      have w1 : wr .i64 ((k : Int) + 1) = ((k + 1 : Nat) : Int) := wr_next (by omega)
      have w2 : wr .i64 ((k : Int) + 2) = ((k + 2 : Nat) : Int) := by rw [wr_id' (by omega) (by omega)]; omega
      obtain ⟨b0, a0⟩ := bw_lt hs (by omega : k < s.length)
      obtain ⟨b1, a1⟩ := bw_lt hs (by omega : k + 1 < s.length)
      obtain ⟨b2, a2⟩ := bw_lt hs (by omega : k + 2 < s.length)
      have c0 := callM_pure (call := callX F1 ro) (l := h.length) (p := h.length) (bit_ok (ro := ro) (h := hp') (ch_lt s k) a0) hL hL
      have c1 := callM_pure (call := callX F1 ro) (l := h.length) (p := h.length) (bit_ok (ro := ro) (h := hp') (ch_lt s (k + 1)) a1) hL hL
      have c2 := callM_pure (call := callX F1 ro) (l := h.length) (p := h.length) (bit_ok (ro := ro) (h := hp') (ch_lt s (k + 2)) a2) hL hL
      have m0 : wr .i64 (4 * ((ch s k - 48 : Nat) : Int)) = ((4 * bw s k : Nat) : Int) := by unfold bw at *; rw [wr_id' (by omega) (by omega)]; omega
      have m1 : wr .i64 (2 * ((ch s (k + 1) - 48 : Nat) : Int)) = ((2 * bw s (k + 1) : Nat) : Int) := by unfold bw at *; rw [wr_id' (by omega) (by omega)]; omega
      have m2 : wr .i64 (((4 * bw s k : Nat) : Int) + ((2 * bw s (k + 1) : Nat) : Int)) = ((4 * bw s k + 2 * bw s (k + 1) : Nat) : Int) := by rw [wr_id' (by omega) (by omega)]; omega
      have m3 : wr .i64 (((4 * bw s k + 2 * bw s (k + 1) : Nat) : Int) + ((ch s (k + 2) - 48 : Nat) : Int)) = ((4 * bw s k + 2 * bw s (k + 1) + bw s (k + 2) : Nat) : Int) := by unfold bw at *; rw [wr_id' (by omega) (by omega)]; omega
      have c3 := callM_pure (call := callX F1 ro) (l := h.length) (p := h.length) (next_ok (ro := ro) (h := hp') hu (by omega : 4 * bw s k + 2 * bw s (k + 1) + bw s (k + 2) < 8)) hL hL
      have c4 := callM_pure (call := callX F1 ro) (l := h.length) (p := h.length) (plot_ok (ro := ro) (h := hp') (t := nx u (4 * bw s k + 2 * bw s (k + 1) + bw s (k + 2))) (by have := nx_le u (4 * bw s k + 2 * bw s (k + 1) + bw s (k + 2)); omega)) hL hL
      have ei := ixS_eq (q := ⟨false, h.length, 0⟩) (len := s.length - 2) (cap := .known (s.length - 2)) (i := k) hk
      have hst' : stepM ro ⟨hp', h.length, h.length⟩ (.st 1 (.c (.p (some ⟨false, h.length, 0 + k⟩))) (.c (.i .u8 ((48 + nx u (4 * bw s k + 2 * bw s (k + 1) + bw s (k + 2)) : Nat) : Int)))) = some (und, ⟨hp'', h.length, h.length⟩) := hst
      simp only [g46_b0, forceB_eq, ltI_eq, decide_eq_true hlt, cond_true, e_ix (by omega : k < s.length), bindO_some, asI_i, forceI_eq, w1, e_ix (by omega : k + 1 < s.length), w2, e_ix (by omega : k + 2 < s.length), meansX_call, c0, c1, c2, bindP_some, m0, m1, m2, m3, c3, c4, ei, hst'])
    (fun m => by
      have : decide (((s.length - 2 : Nat) : Int) < ((s.length - 2 : Nat) : Int)) = false := lt_no
      show g46_b0 (meansX F1 ro) ro u s _ _ ((s.length - 2 : Nat) : Int) m = _
      simp only [g46_b0, forceB_eq, ltI_eq, this, cond_false])
  simp only [e_len, bindO_some, asI_i, forceI_eq, e9, hmk, bindP_some, hlen, meansX_loop, k1, k2, asS_s, tupA]
  rw [fin_take (by rfl), k3]
  rfl

/- a ring as a row with its ends put to it -/
def pad (s : List UInt8) : List UInt8 := s.drop (s.length - 1) ++ s ++ s.take 1
def ringS (u : Nat) (s : List UInt8) : List UInt8 := growS u (pad s)
theorem pad_len {s : List UInt8} (h : 0 < s.length) : (pad s).length = s.length + 2 := by
  simp only [pad, List.length_append, List.length_drop, List.length_take]; omega
theorem pad_get {s : List UInt8} (h : 0 < s.length) {k : Nat} (hk : k < s.length + 2) : (pad s).getD k 0 = s.getD ((k + s.length - 1) % s.length) 0 := by
  have hd : (s.drop (s.length - 1)).length = 1 := by simp; omega
  simp only [pad, List.getD, List.append_assoc]
  by_cases h0 : k = 0
  · subst h0
    rw [List.getElem?_append_left (by omega), List.getElem?_drop, show (0 + s.length - 1) % s.length = s.length - 1 by rw [Nat.zero_add]; exact Nat.mod_eq_of_lt (by omega)]
    rfl
  · rw [List.getElem?_append_right (by omega), hd]
    by_cases h1 : k - 1 < s.length
    · rw [List.getElem?_append_left h1, show (k + s.length - 1) % s.length = k - 1 by rw [show k + s.length - 1 = (k - 1) + s.length by omega, Nat.add_mod_right]; exact Nat.mod_eq_of_lt h1]
    · have e : k = s.length + 1 := by omega
      rw [List.getElem?_append_right (by omega), show (k + s.length - 1) % s.length = 0 by rw [show k + s.length - 1 = s.length * 2 by omega]; exact Nat.mul_mod_right _ _, List.getElem?_take, if_pos (by omega), e]
      simp
theorem pad_ch {s : List UInt8} (h : 0 < s.length) {k : Nat} (hk : k < s.length + 2) : ch (pad s) k = ch s ((k + s.length - 1) % s.length) := by
  unfold ch; rw [pad_get h hk]
theorem pad_ok {s : List UInt8} (hs : okR s) (h : 0 < s.length) : okR (pad s) := fun i hi => by
  rw [pad_len h] at hi
  rw [pad_ch h hi]
  exact hs _ (Nat.mod_lt _ h)
theorem ring_ok {ro : List ABlk} {h : Heap} {u : Nat} {s : List UInt8} (hu : u < 256) (hs : okR s) (h0 : 0 < s.length) (hl : s.length ≤ 900) :
    callX F1 ro 51 [.i .u8 u, .s s] h = some (.s (ringS u s), h, h.length, h.length) := by
  refine g51_ok (meansX_ok F1 ro) rfl ?_
  unfold g51
  have e9 : wr .i64 ((s.length : Int) - 1) = ((s.length - 1 : Nat) : Int) := by rw [wr_id' (by omega) (by omega)]; omega
  have b1 : Nat.ble (s.length - 1) s.length = true := by rw [Nat.ble_eq]; omega
  have b2 : Nat.ble 1 s.length = true := by rw [Nat.ble_eq]; omega
  have s1 : evP .e (.slStr (.c (.s s)) (some (.c (.i .i64 ((s.length - 1 : Nat) : Int)))) none) = some (.s (s.drop (s.length - 1))) := by
    have e : ((s.length - 1 : Nat) : Int) = Int.ofNat (s.length - 1) := rfl
    rw [e]
    simp only [evP, ev_slStr, opd, Option.map_some, Option.map_none, sbound, b1, cond_true, List.take_length]
  have s2 : evP .e (.slStr (.c (.s s)) none (some (.c (.i .i64 1)))) = some (.s (s.take 1)) := by
    have e : (1 : Int) = Int.ofNat 1 := rfl
    rw [e]
    simp only [evP, ev_slStr, opd, Option.map_some, Option.map_none, sbound, b2, cond_true, List.drop_zero]
  have add : ∀ a b : List UInt8, a.length + b.length ≤ 100000 → evP .e (.sbin BinOp.add (.c (.s a)) (.c (.s b))) = some (.s (a ++ b)) := fun a b hab => by
    show cond (Nat.ble (a.length + b.length) 1099511627776) (some (AVal.s (a ++ b))) none = _
    rw [show Nat.ble (a.length + b.length) 1099511627776 = true by rw [Nat.ble_eq]; omega]; rfl
  have c1 := callM_pure (call := callX F1 ro) (l := h.length) (p := h.length) (grow_ok (ro := ro) (h := h) hu (pad_ok hs h0) (by rw [pad_len h0]; omega) (by rw [pad_len h0]; omega)) (Nat.le_refl _) (Nat.le_refl _)
  have c1' : callM (callX F1 ro) ⟨h, h.length, h.length⟩ 46 [(.i .u8 u), (.s (s.drop (s.length - 1) ++ s ++ s.take 1))] = some (.s (ringS u s), ⟨h, h.length, h.length⟩) := c1
  simp only [e_len, bindO_some, asI_i, forceI_eq, e9, s1, asS_s, add _ _ (by simp; omega : (s.drop (s.length - 1)).length + s.length ≤ 100000), s2, add _ _ (by simp; omega : (s.drop (s.length - 1) ++ s).length + (s.take 1).length ≤ 100000), meansX_call, c1', bindP_some, tupA]
  exact fin_pure rfl
theorem ofNat_48 {t : Nat} (h : t ≤ 1) : (UInt8.ofNat (48 + t)).toNat = 48 + t := by
  have : t = 0 ∨ t = 1 := by omega
  rcases this with rfl | rfl <;> rfl
theorem ringS_len {u : Nat} {s : List UInt8} (h : 0 < s.length) : (ringS u s).length = s.length := by
  simp only [ringS, growS, List.length_map, List.length_range, pad_len h]; omega
/-- the letters of what a ring becomes -/
theorem ringS_ch {u : Nat} {s : List UInt8} (h : 0 < s.length) {k : Nat} (hk : k < s.length) :
    ch (ringS u s) k = 48 + nx u (4 * bw s ((k + s.length - 1) % s.length) + 2 * bw s k + bw s ((k + 1) % s.length)) := by
  have e : ch (ringS u s) k = (UInt8.ofNat (growV u (pad s) k)).toNat := by
    simp only [ch, ringS, growS, List.getD, List.getElem?_map, pad_len h]
    rw [List.getElem?_range (by omega)]
    rfl
  rw [e]
  unfold growV
  rw [ofNat_48 (nx_le _ _)]
  have p0 : bw (pad s) k = bw s ((k + s.length - 1) % s.length) := by unfold bw; rw [pad_ch h (by omega)]
  have p1 : bw (pad s) (k + 1) = bw s k := by
    unfold bw; rw [pad_ch h (by omega), show (k + 1 + s.length - 1) % s.length = k by rw [show k + 1 + s.length - 1 = k + s.length by omega, Nat.add_mod_right]; exact Nat.mod_eq_of_lt hk]
  have p2 : bw (pad s) (k + 2) = bw s ((k + 1) % s.length) := by
    unfold bw; rw [pad_ch h (by omega), show k + 2 + s.length - 1 = (k + 1) + s.length by omega, Nat.add_mod_right]
  rw [p0, p1, p2]
theorem ringS_ok {u : Nat} {s : List UInt8} (h : 0 < s.length) : okR (ringS u s) := fun i hi => by
  rw [ringS_len h] at hi
  rw [ringS_ch h hi]
  have := nx_le u (4 * bw s ((i + s.length - 1) % s.length) + 2 * bw s i + bw s ((i + 1) % s.length))
  omega
/-- after so many years -/
def yrs (u : Nat) (s : List UInt8) : Nat → List UInt8
  | 0 => s
  | k + 1 => ringS u (yrs u s k)
theorem yrs_spec {u : Nat} {s : List UInt8} (hs : okR s) (h0 : 0 < s.length) : ∀ k, okR (yrs u s k) ∧ (yrs u s k).length = s.length
  | 0 => ⟨hs, rfl⟩
  | k + 1 => by
    obtain ⟨h1, h2⟩ := yrs_spec (u := u) hs h0 k
    exact ⟨ringS_ok (by omega), by show (ringS u (yrs u s k)).length = _; rw [ringS_len (by omega), h2]⟩
def rgE (n : Int) (s : List UInt8) (y : Int) : Int := if askE n s 400 = 0 then (if y < 0 ∨ 1000 < y then 3 else 0) else askE n s 400
def rgS (n : Int) (s : List UInt8) (y : Int) : List UInt8 := if rgE n s y = 0 then yrs n.toNat s y.toNat else []
theorem Ring_ok {ro : List ABlk} {h : Heap} {n y : Int} {s : List UInt8} : callX F1 ro 18 [.i .i64 n, .s s, .i .i64 y] h = some (.tup [.s (rgS n s y), .i .i64 (rgE n s y)], h, h.length, h.length) := by
  refine g18_ok (meansX_ok F1 ro) rfl ?_
  unfold g18
  have c1 := callM_pure (call := callX F1 ro) (l := h.length) (p := h.length) (read_ok (ro := ro) (h := h) (n := n) (s := s)) (Nat.le_refl _) (Nat.le_refl _)
  simp only [meansX_call, c1, bindP_some, e_x0, e_x1, bindO_some, asI_i, eqI_eq, forceB_eq, ltI_eq]
  by_cases h1 : askE n s 400 = 0
  · have b1 : (askE n s 400 == 0) = true := by rw [h1]; rfl
    obtain ⟨p1, p2, p3, p4, p5⟩ := okR_of h1
    obtain ⟨k, rfl⟩ : ∃ k : Nat, n = (k : Int) := ⟨n.toNat, by omega⟩
    have hU : rdU k s = (k : Int) := if_pos h1
    by_cases hy : y < 0 ∨ 1000 < y
    · have e : rgE k s y = 3 := by rw [rgE, if_pos h1, if_pos hy]
      have e2 : rgS k s y = [] := by rw [rgS, e]; rfl
      rw [e, e2]
      by_cases hy1 : y < 0
      · simp only [b1, Bool.not_true, cond_false, decide_eq_true hy1, cond_true, bindO_some, tupA]
        exact fin_pure rfl
      · have hy2 : 1000 < y := by omega
        simp only [b1, Bool.not_true, cond_false, decide_eq_false hy1, decide_eq_true hy2, cond_true, bindO_some, tupA]
        exact fin_pure rfl
    · have e : rgE k s y = 0 := by rw [rgE, if_pos h1, if_neg hy]
      obtain ⟨j, rfl⟩ : ∃ j : Nat, y = (j : Int) := ⟨y.toNat, by omega⟩
      have e2 : rgS k s j = yrs k s j := by rw [rgS, if_pos e]; rfl
      rw [e, e2]
      have hy1 : ¬ ((j : Int) < 0) := by omega
      have hy2 : ¬ ((1000 : Int) < (j : Int)) := by omega
      have lp : ∀ d i, i + d = j → loopX (fun z : List UInt8 × Int × Mm => g18_b1 (meansX F1 ro) ro k j z.1 z.2.1 z.2.2) (yrs k s i, (i : Int), ⟨h, h.length, h.length⟩) = some (yrs k s j, ⟨h, h.length, h.length⟩) := by
        intro d
        induction d with
        | zero =>
          intro i hi
          obtain rfl : i = j := by omega
          exact loopX_out (by
            have : decide ((i : Int) < (i : Int)) = false := lt_no
            simp only [g18_b1, forceB_eq, ltI_eq, this, cond_false])
        | succ d ih =>
          intro i hi
          obtain ⟨q1, q2⟩ := yrs_spec (u := k) p5 p4 i
          have hlt : ((i : Int) < (j : Int)) := by omega
          have cr := callM_pure (call := callX F1 ro) (l := h.length) (p := h.length) (ring_ok (ro := ro) (h := h) (by omega : k < 256) q1 (by omega) (by omega)) (Nat.le_refl _) (Nat.le_refl _)
          refine loopX_on (s' := (yrs k s (i + 1), ((i + 1 : Nat) : Int), ⟨h, h.length, h.length⟩)) ?_ (ih (i + 1) (by omega))
          simp only [g18_b1, forceB_eq, ltI_eq, decide_eq_true hlt, cond_true, meansX_call, cr, bindP_some, asS_s, forceI_eq, wr_next (by omega : i ≤ 1000000)]
          rfl
      have lp0 := lp j 0 (by omega)
      have e0 : ((0 : Nat) : Int) = 0 := rfl
      rw [e0] at lp0
      have lp0' : loopX (fun z : List UInt8 × Int × Mm => g18_b1 (meansX F1 ro) ro k j z.1 z.2.1 z.2.2) (s, 0, ⟨h, h.length, h.length⟩) = some (yrs k s j, ⟨h, h.length, h.length⟩) := lp0
      simp only [b1, Bool.not_true, cond_false, decide_eq_false hy1, decide_eq_false hy2, bindO_some, hU, meansX_loop, lp0', tupA]
      exact fin_pure rfl
  · have b1 : (askE n s 400 == 0) = false := beq_eq_false_iff_ne.2 h1
    have e : rgE n s y = askE n s 400 := if_neg h1
    have e2 : rgS n s y = [] := by rw [rgS, e, if_neg h1]
    simp only [b1, Bool.not_false, cond_true, e, e2, tupA]
    exact fin_pure rfl
end Go.Proofs.Ytgbkicelkpagpaa.W

/- Rows by numbers. -/
import Derived.Test.YtjjinlljdfaipaaVmWv
open Go.Vm
set_option linter.unusedVariables false
namespace Go.Proofs.Ytjjinlljdfaipaa.W
open Go

theorem bytes_row {t : Tr} {g : Nat → Nat} : ∀ (k i : Nat), (∀ j, j < k → t.get (i + j) = .i .u8 (g (i + j) : Nat) ∧ g (i + j) < 256) → bytesA (t.row i k) = some ((List.range' i k).map fun j => UInt8.ofNat (g j))
  | 0, i, _ => rfl
  | k + 1, i, h => by
    have h0 := h 0 (by omega)
    have ih := bytes_row (t := t) (g := g) k (i + 1) (fun j hj => by have := h (j + 1) (by omega); rwa [show i + 1 + j = i + (j + 1) by omega])
    show bytesA (t.get i :: t.row (i + 1) k) = _
    rw [Nat.add_zero] at h0
    rw [h0.1]
    show cond (Nat.blt (g i) 256) ((bytesA (t.row (i + 1) k)).map (UInt8.ofNat (g i) :: ·)) none = _
    rw [show Nat.blt (g i) 256 = true by rw [Nat.blt_eq]; exact h0.2, ih]
    rfl
theorem bts_ok {ro : List ABlk} {hp : Heap} {b k : Nat} {cap : Cap} {g : Nat → Nat} (h : Vec hp 5 b k (fun j => .i .u8 (g j : Nat))) (hg : ∀ j, j < k → g j < 256) {l p : Nat} :
    btsM ro ⟨hp, l, p⟩ (.sl ⟨false, b, 0⟩ k cap) = some (.s ((List.range k).map fun j => UInt8.ofNat (g j))) := by
  obtain ⟨blk, h1, h2, h3, h4⟩ := h
  have hb : Nat.ble (0 + k) blk.n = true := by rw [Nat.ble_eq]; omega
  have hr := bytes_row (t := blk.c) (g := g) k 0 (fun j hj => by rw [Nat.zero_add]; exact ⟨h4 j hj, hg j hj⟩)
  have h1' : lget (Mm.st ⟨hp, l, p⟩ .e).h b = some (some blk) := h1
  simp only [btsM, st_bts, rdB_heap h1', hb, cond_true, hr, Option.map_some, List.range_eq_range']

theorem shr_num : ∀ x, x < 1024 → ∀ t, t < 10 → Int.tmod (shrV .i64 (Int.ofNat x) (Int.ofNat t)) 2 = Int.ofNat (nx x t) := by decide +kernel
theorem ix01 : ∀ t, t < 2 → evP .e (.ixStr (.c (AVal.s [48, 49])) (.c (.i .i64 (Int.ofNat t)))) = some (.i .u8 (Int.ofNat (48 + t)))
  | 0, _ => rfl
  | 1, _ => rfl
theorem plots_ok {ro : List ABlk} {h : Heap} {x m : Nat} (hx : x < 1024) (hm : m ≤ 10) : callX F1 ro 40 [.i .i64 x, .i .i64 m] h = some (.s (plotsL x m), h, h.length, h.length) := by
  refine g40_ok (meansX_ok F1 ro) rfl ?_
  unfold g40
  have hmk := mk_ok (ro := ro) (hp := h) (l := h.length) (p := h.length) (e := 5) (es := 1) (bytes := 1) (v := AVal.i IntKind.u8 0) (n := m) (by omega) (by omega)
  have hv := Vec.new h 5 m (AVal.i IntKind.u8 0)
  generalize hB : h ++ [some (newBlk 5 (AVal.i IntKind.u8 0) m)] = H at hmk hv
  have hL : H.length = h.length + 1 := by rw [← hB]; simp
  have hK : ∀ k, k < h.length → H[k]? = h[k]? := fun k hk => by rw [← hB]; exact List.getElem?_append_left hk
  have key := loop_all (b := fun z => g40_b0 (meansX F1 ro) ro x m (.sl ⟨false, h.length, 0⟩ m (.known m)) z.1 z.2) m
    (fun k mm => ∃ hp', mm = ⟨hp', h.length, h.length⟩ ∧ Vec hp' 5 h.length m (fun j => .i .u8 ((if j < k then 48 + nx x (m - 1 - j) else 0 : Nat) : Int)) ∧ hp'.length = h.length + 1 ∧ ∀ k, k < h.length → hp'[k]? = h[k]?)
    (fun k mm hk hI => by
      obtain ⟨hp', rfl, hv', hl, hkeep⟩ := hI
      have hlt : ((k : Int) < (m : Int)) := by omega
      have e1 : wr .i64 ((m : Int) - 1) = (m : Int) - 1 := wr_id' (by omega) (by omega)
      have e2 : wr .i64 ((m : Int) - 1 - (k : Int)) = ((m - 1 - k : Nat) : Int) := by rw [wr_id' (by omega) (by omega)]; omega
      have e3 : Int.tmod (shrV .i64 (x : Int) ((m - 1 - k : Nat) : Int)) 2 = ((nx x (m - 1 - k) : Nat) : Int) := shr_num x hx _ (by omega)
      have e4 : evP .e (.ixStr (.c (AVal.s [48, 49])) (.c (.i .i64 ((nx x (m - 1 - k) : Nat) : Int)))) = some (.i .u8 ((48 + nx x (m - 1 - k) : Nat) : Int)) := ix01 _ (by have := nx_le x (m - 1 - k); omega)
      obtain ⟨y, s1, s2⟩ := Vec.set (ro := ro) (l := h.length) (p := h.length) hv' hk (v := .i .u8 ((48 + nx x (m - 1 - k) : Nat) : Int)) rfl rfl rfl
      rw [Nat.min_self] at s1
      have ei := ixS_eq (q := ⟨false, h.length, 0⟩) (len := m) (cap := .known m) (i := k) hk
      refine ⟨⟨hp'.set h.length y, h.length, h.length⟩, ?_, _, rfl, ?_, by rw [List.length_set]; exact hl, fun j hj => by rw [List.getElem?_set_ne (by omega)]; exact hkeep j hj⟩
      · simp only [g40_b0, forceB_eq, ltI_eq, decide_eq_true hlt, cond_true, forceI_eq, e1, e2, nneg, chk_true, e3, e4, bindO_some, asI_i, ei, s1, bindP_some, wr_next (by omega : k ≤ 1000000)]
      · refine s2.congr fun r hr => ?_
        show (if r = k then _ else _) = _
        by_cases e : r = k
        · rw [if_pos e, if_pos (by omega), e]
        · rw [if_neg e]
          by_cases e' : r < k
          · rw [if_pos e', if_pos (by omega)]
          · rw [if_neg e', if_neg (by omega)])
    (fun mm hI => by
      have : decide ((m : Int) < (m : Int)) = false := lt_no
      show g40_b0 (meansX F1 ro) ro x m (.sl ⟨false, h.length, 0⟩ m (.known m)) m mm = _
      simp only [g40_b0, forceB_eq, ltI_eq, this, cond_false])
    m 0 ⟨H, h.length, h.length⟩ (by omega) ⟨H, rfl, hv.congr fun r hr => by rw [if_neg (by omega)]; rfl, hL, hK⟩
  obtain ⟨m', k1, hq, rfl, k2, k3, k4⟩ := key
  have e0 : ((0 : Nat) : Int) = 0 := rfl
  rw [e0] at k1
  have hb := bts_ok (ro := ro) (cap := .known m) (l := h.length) (p := h.length) (k2.congr (get' := fun j => .i .u8 ((48 + nx x (m - 1 - j) : Nat) : Int)) fun r hr => by rw [if_pos hr]) (fun j hj => by have := nx_le x (m - 1 - j); omega)
  simp only [hmk, bindP_some, meansX_loop, k1, bindO_some, hb, asS_s, tupA]
  rw [fin_take (by rfl)]
  have : hq.take h.length = h := by
    apply List.ext_getElem?
    intro j
    rw [List.getElem?_take]
    by_cases hj : j < h.length
    · rw [if_pos hj, k4 j hj]
    · rw [if_neg hj, List.getElem?_eq_none (by omega)]
  rw [this]
  rfl
/-- a row by a number is a row -/
theorem plots_row {x m : Nat} : okR (plotsL x m) := fun i hi => by
  rw [plotsL_len] at hi
  have e : ch (plotsL x m) i = 48 + nx x (m - 1 - i) := by
    have := nx_le x (m - 1 - i)
    simp [ch, plotsL, List.getD, hi]
    omega
  have := nx_le x (m - 1 - i)
  omega
end Go.Proofs.Ytjjinlljdfaipaa.W

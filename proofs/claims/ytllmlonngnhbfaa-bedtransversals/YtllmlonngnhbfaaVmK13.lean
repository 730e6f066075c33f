/- Transversal and Transversals of the program. -/
import Derived.Test.YtllmlonngnhbfaaVmK12
open Go.Vm
set_option linter.unusedVariables false
namespace Go.Proofs.Ytllmlonngnhbfaa.Bed
open Go

def trs (x : List (List Int)) : List (List Nat) := tl x x.length []
theorem trs_len {x : List (List Int)} (h7 : x.length ≤ 7) : (trs x).length ≤ 823543 := by
  have h1 := tl_len h7 x.length []
  have h2 : 7 ^ x.length ≤ 7 ^ 7 := Nat.pow_le_pow_right (by omega) h7
  have h3 : (7 : Nat) ^ 7 = 823543 := by decide
  unfold trs
  omega

theorem run_count {ro : List ABlk} {n bv : Nat} : ∀ (l : List (List Nat)) (s : Nat), s + l.length ≤ 1000000 → runV (visCount ro n bv).next (visCount ro n bv).cont (s : Int) l = (((s + l.length : Nat) : Int), true)
  | [], s, _ => rfl
  | z :: l, s, h => by
    simp only [List.length_cons] at h
    have e : wr .i64 ((s : Int) + 1) = ((s + 1 : Nat) : Int) := by rw [wr_id' (by omega) (by omega)]; omega
    show cond true (runV (visCount ro n bv).next (visCount ro n bv).cont (wr .i64 ((s : Int) + 1)) l) _ = _
    rw [e, cond_true, run_count l (s + 1) (by omega)]
    simp only [List.length_cons]
    congr 1
    omega
theorem run_least {ro : List ABlk} {n bv : Nat} {hn : 0 < n} {h7 : n ≤ 7} : ∀ (l : List (List Nat)), (runV (visLeast ro n bv hn h7).next (visLeast ro n bv hn h7).cont none l).1 = l.head?
  | [] => rfl
  | z :: l => rfl

theorem take_eq {h h' : Heap} (hl : h.length ≤ h'.length) (hk : ∀ i, i < h.length → h'[i]? = h[i]?) : h' = h ++ h'.drop h.length := by
  have : h'.take h.length = h := by
    refine List.ext_getElem? fun i => ?_
    rw [List.getElem?_take]
    split
    · rename_i hi; exact hk i hi
    · rename_i hi; rw [List.getElem?_eq_none (by omega)]
  conv => lhs; rw [← List.take_append_drop h.length h', this]
theorem fin_gen {h h' : Heap} {v : AVal} {l p : Nat} (hl : h.length ≤ h'.length) (hk : ∀ i, i < h.length → h'[i]? = h[i]?) : ∃ y, finM h.length v ⟨h', l, p⟩ = some (v, h ++ y, l, p) ∧ (v.bel h.length = false → h ++ y = h') := by
  have he := take_eq hl hk
  by_cases hc : (Nat.ble h.length p && v.bel h.length) = true
  · refine ⟨[], ?_, fun hb => by rw [hb] at hc; simp at hc⟩
    have ht : h'.take h.length = h := by rw [he]; simp
    simp only [finM, gc, Mm.st, hc, if_true, ht, List.append_nil]
  · refine ⟨h'.drop h.length, ?_, fun _ => he.symm⟩
    simp only [finM, gc, Mm.st, hc]
    rw [← he]
    rfl

theorem transversals_ok {ro : List ABlk} {h : Heap} {a : AVal} {x : List (List Int)} (ha : IsMat ro h a x) (hf : fullP x) :
    ∃ y lw lp, callX F1 ro 33 [a] h = some (.tup [.i .i64 ((trs x).length : Nat), .i .i64 0], h ++ y, lw, lp) := by
  have h7 := hf.1.1.2.1
  obtain ⟨blk, hrd, hbn, hg⟩ := readFull_ok ha hf
  have hcall := callM_eq (call := callX F1 ro) (m := ⟨h, h.length, h.length⟩) hrd
  simp only [Nat.min_self] at hcall
  obtain ⟨C, hC⟩ : ∃ C : ABlk, C = { blkOf 3 [AVal.i .i64 0] with c := (blkOf 3 [AVal.i .i64 0]).c.set 0 (.i .i64 0) } := ⟨_, rfl⟩
  have s1 : stepM ro ⟨h ++ [some blk], h.length, h.length⟩ (.al 3 [(AVal.i IntKind.i64 0)]) = some (.p (some ⟨false, h.length + 1, 0⟩), ⟨h ++ [some blk] ++ [some (blkOf 3 [AVal.i .i64 0])], h.length, h.length⟩) := by
    simp [stepM, stepK, newB, St.mm]
  have len1 : (h ++ [some blk]).length = h.length + 1 := by simp
  have l1 : lget (h ++ [some blk] ++ [some (blkOf 3 [AVal.i .i64 0])]) (h.length + 1) = some (some (blkOf 3 [AVal.i .i64 0])) := by rw [← len1]; exact lget_last _ _
  have s2 := st_heap (ro := ro) (l := h.length) (p := h.length) l1 (by simp [blkOf] : 0 < (blkOf 3 [AVal.i .i64 0]).n) (v := .i .i64 0) rfl rfl rfl
  have hset : (h ++ [some blk] ++ [some (blkOf 3 [AVal.i .i64 0])]).set (h.length + 1) (some C) = h ++ [some blk] ++ [some C] := by rw [← len1]; simp
  rw [← hC, hset, Nat.min_eq_left (by omega : h.length ≤ h.length + 1)] at s2
  have hbg : lget (h ++ [some blk] ++ [some C]) h.length = some (some blk) := lget_ext (lget_last _ _) _
  have hV : (visCount ro x.length (h.length + 1)).V ((0 : Nat) : Int) (h ++ [some blk] ++ [some C]) := ⟨C, by rw [← len1]; exact lget_last _ _, by rw [hC]; rfl, by rw [hC]; rfl⟩
  obtain ⟨h', lw, lp, c1, c2, c3, c4, c5⟩ := each_ok hf (visCount ro x.length (h.length + 1)) (h := h ++ [some blk] ++ [some C]) (bg := h.length) ⟨blk, hbg, hbn, hg⟩ (by show h.length ≠ h.length + 1; omega) (by show h.length + 1 < _; simp) hV trivial
  rw [show tl x x.length [] = trs x from rfl, run_count (trs x) 0 (by have := trs_len h7; omega)] at c2
  obtain ⟨cb, d1, d2, d3⟩ := c2
  simp only [Nat.zero_add] at d3
  have hcall2 := callM_eq (call := callX F1 ro) (m := ⟨h ++ [some blk] ++ [some C], h.length, h.length⟩) c1
  have hl' : h.length ≤ h'.length := by simp at c4; omega
  have hk' : ∀ i, i < h.length → h'[i]? = h[i]? := fun i hi => by
    rw [c5 i (by simp; omega) (by show i ≠ h.length + 1; omega), List.append_assoc, List.getElem?_append_left hi]
  obtain ⟨y, f1, -⟩ := fin_gen (v := .tup [.i .i64 ((trs x).length : Nat), .i .i64 0]) (l := min h.length lw) (p := min h.length lp) hl' hk'
  refine ⟨y, min h.length lw, min h.length lp, g33_ok (meansX_ok F1 ro) rfl ?_⟩
  unfold g33
  have e1 : ldM ro ⟨h', min h.length lw, min h.length lp⟩ true 1 (.p (some ⟨false, h.length + 1, 0⟩)) = some (.i .i64 ((trs x).length : Nat)) := by rw [ld_heap rfl d1 (by omega), d3]
  simp only [meansX_call, hcall, bindP_some, evP, ev_ext, opd, lget, bindO_some, asI_i, eqI_eq, forceB_eq, beq_self_eq_true, Bool.not_true, cond_false, s1, s2]
  have hcall2' : callM (callX F1 ro) ⟨h ++ [some blk] ++ [some C], h.length, h.length⟩ 72 [.p (some ⟨false, h.length, 0⟩), .fn 76 [] [.p (some ⟨false, h.length + 1, 0⟩)]] = some (.tup [], ⟨h', min h.length lw, min h.length lp⟩) := hcall2
  simp only [hcall2', bindP_some, e1, bindO_some, asI_i, tupA]
  exact f1

theorem transversals_not {ro : List ABlk} {h : Heap} {a : AVal} {x : List (List Int)} (ha : IsMat ro h a x) (hf : ¬ fullP x) : callX F1 ro 33 [a] h = some (.tup [.i .i64 0, .i .i64 2], h, h.length, h.length) := by
  refine g33_ok (meansX_ok F1 ro) rfl ?_
  unfold g33
  have e2 : ((2 : Int) == 0) = false := rfl
  simp only [meansX_call, callM_pure (call := callX F1 ro) (l := h.length) (p := h.length) (readFull_not ha hf) (Nat.le_refl _) (Nat.le_refl _), bindP_some, evP, ev_ext, opd, lget, bindO_some, asI_i, eqI_eq, forceB_eq, e2, Bool.not_false, cond_true, tupA]
  exact fin_pure rfl

theorem transversal_ok {ro : List ABlk} {h : Heap} {a : AVal} {x : List (List Int)} (ha : IsMat ro h a x) (hf : fullP x) :
    ∃ v e y lw lp, callX F1 ro 31 [a] h = some (.tup [v, .i .i64 e], h ++ y, lw, lp) ∧ (match (trs x).head? with
      | none => v = .nsl ∧ e = 10
      | some z => e = 0 ∧ IsRow ro (h ++ y) v (nts z)) := by
  have h7 := hf.1.1.2.1
  have h1 := hf.1.1.1
  obtain ⟨blk, hrd, hbn, hg⟩ := readFull_ok ha hf
  have hcall := callM_eq (call := callX F1 ro) (m := ⟨h, h.length, h.length⟩) hrd
  simp only [Nat.min_self] at hcall
  obtain ⟨C, hC⟩ : ∃ C : ABlk, C = blkOf 32 [AVal.nsl] := ⟨_, rfl⟩
  have s1 : stepM ro ⟨h ++ [some blk], h.length, h.length⟩ (.al 32 [AVal.nsl]) = some (.p (some ⟨false, h.length + 1, 0⟩), ⟨h ++ [some blk] ++ [some C], h.length, h.length⟩) := by
    simp [stepM, stepK, newB, St.mm, hC]
  have len1 : (h ++ [some blk]).length = h.length + 1 := by simp
  have hbg : lget (h ++ [some blk] ++ [some C]) h.length = some (some blk) := lget_ext (lget_last _ _) _
  have hV : (visLeast ro x.length (h.length + 1) (by omega) h7).V none (h ++ [some blk] ++ [some C]) := ⟨C, by rw [← len1]; exact lget_last _ _, by rw [hC]; rfl, by rw [hC]; rfl⟩
  obtain ⟨h', lw, lp, c1, c2, c3, c4, c5⟩ := each_ok hf (visLeast ro x.length (h.length + 1) (by omega) h7) (h := h ++ [some blk] ++ [some C]) (bg := h.length) ⟨blk, hbg, hbn, hg⟩ (by show h.length ≠ h.length + 1; omega) (by show h.length + 1 < _; simp) hV rfl
  rw [show tl x x.length [] = trs x from rfl, run_least] at c2
  obtain ⟨cb, d1, d2, d3⟩ := c2
  have hcall2 : callM (callX F1 ro) ⟨h ++ [some blk] ++ [some C], h.length, h.length⟩ 72 [.p (some ⟨false, h.length, 0⟩), .fn 73 [] [.p (some ⟨false, h.length + 1, 0⟩)]] = some (.tup [], ⟨h', min h.length lw, min h.length lp⟩) :=
    callM_eq (call := callX F1 ro) (m := ⟨h ++ [some blk] ++ [some C], h.length, h.length⟩) c1
  have hl' : h.length ≤ h'.length := by simp at c4; omega
  have hk' : ∀ i, i < h.length → h'[i]? = h[i]? := fun i hi => by
    rw [c5 i (by simp; omega) (by show i ≠ h.length + 1; omega), List.append_assoc, List.getElem?_append_left hi]
  have e1 : ldM ro ⟨h', min h.length lw, min h.length lp⟩ true 1 (.p (some ⟨false, h.length + 1, 0⟩)) = some (cb.c.get 0) := ld_heap rfl d1 (by omega)
  cases hd : (trs x).head? with
  | none =>
    rw [hd] at d3
    obtain ⟨y, f1, -⟩ := fin_gen (v := .tup [.nsl, .i .i64 10]) (l := min h.length lw) (p := min h.length lp) hl' hk'
    refine ⟨.nsl, 10, y, min h.length lw, min h.length lp, g31_ok (meansX_ok F1 ro) rfl ?_, rfl, rfl⟩
    unfold g31
    simp only at d3
    simp only [meansX_call, hcall, bindP_some, evP, ev_ext, opd, lget, bindO_some, asI_i, eqI_eq, forceB_eq, beq_self_eq_true, Bool.not_true, cond_false, s1, hcall2, e1, d3, ev_nilcmp, Bool.not_false, asB_b, cond_true, tupA]
    exact f1
  | some z =>
    rw [hd] at d3
    obtain ⟨b, d4, d5, d6⟩ := d3
    have hnb : (AVal.tup [.sl ⟨false, b, 0⟩ z.length .grow, .i .i64 0]).bel h.length = false := by
      have : (AVal.sl ⟨false, b, 0⟩ z.length .grow).bel h.length = false := not_bel (by omega)
      simp only [AVal.bel, bels] at this ⊢
      rw [this]; rfl
    obtain ⟨y, f1, f2⟩ := fin_gen (v := .tup [.sl ⟨false, b, 0⟩ z.length .grow, .i .i64 0]) (l := min h.length lw) (p := min h.length lp) hl' hk'
    refine ⟨.sl ⟨false, b, 0⟩ z.length .grow, 0, y, min h.length lw, min h.length lp, g31_ok (meansX_ok F1 ro) rfl ?_, rfl, by rw [f2 hnb]; exact d6⟩
    unfold g31
    simp only [meansX_call, hcall, bindP_some, evP, ev_ext, opd, lget, bindO_some, asI_i, eqI_eq, forceB_eq, beq_self_eq_true, Bool.not_true, cond_false, s1, hcall2, e1, d4, ev_nilcmp, asB_b, tupA]
    exact f1

theorem transversal_not {ro : List ABlk} {h : Heap} {a : AVal} {x : List (List Int)} (ha : IsMat ro h a x) (hf : ¬ fullP x) : callX F1 ro 31 [a] h = some (.tup [.nsl, .i .i64 2], h, h.length, h.length) := by
  refine g31_ok (meansX_ok F1 ro) rfl ?_
  unfold g31
  have e2 : ((2 : Int) == 0) = false := rfl
  simp only [meansX_call, callM_pure (call := callX F1 ro) (l := h.length) (p := h.length) (readFull_not ha hf) (Nat.le_refl _) (Nat.le_refl _), bindP_some, evP, ev_ext, opd, lget, bindO_some, asI_i, eqI_eq, forceB_eq, e2, Bool.not_false, cond_true, tupA]
  exact fin_pure rfl
end Go.Proofs.Ytllmlonngnhbfaa.Bed

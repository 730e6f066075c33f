/- Contracts of the functions: what each of them answers. -/
import Derived.Test.YtfohppnelbbepaaVmK0
/- Parts, law 3 -/
open Go.Vm
set_option linter.unusedVariables false
set_option linter.unusedSectionVars false
namespace Go.Proofs.Ytfohppnelbbepaa.T
open Go
variable [Ovr]
section
variable {ro : List ABlk} {h hp : Heap}
def col (n : Nat) (f : Nat → Nat) : List (List Nat) := (List.range n).map fun p => [f p]
theorem col_get {n : Nat} (f : Nat → Nat) {p : Nat} (hp : p < n) : (col n f)[p]? = some [f p] := by simp [col, hp]
theorem dot_col {z : List (List UInt8)} {n p : Nat} (hn : n = z.length) (hp : p < n) (f : Nat → Nat) : ∀ k, k ≤ n → dot57 ((mat55 z).getD p []) (col n f) 0 k = sat (sumT (fun t => f t * (z.getD t []).count (lt p)) k)
 | 0, _ => rfl
 | k + 1, hk => by
  have e1 : ((mat55 z).getD p []).getD k 0 = (z.getD k []).count (lt p) := by
   rw [qku z (by omega)]
   simp [List.getD, show k < z.length by omega]
  have e2 : ((col n f).getD k []).getD 0 0 = f k := by rw [List.getD_eq_getElem?_getD (l := col n f), col_get f (by omega)]; rfl
  show sat (dot57 ((mat55 z).getD p []) (col n f) 0 k + sat (((mat55 z).getD p []).getD k 0 * ((col n f).getD k []).getD 0 0)) = _
  rw [dot_col hn hp f k (by omega), e1, e2, qkj, Nat.mul_comm]
  rfl
theorem prod_col {z : List (List UInt8)} {n : Nat} (hn : n = z.length) (h1 : 1 ≤ n) (f : Nat → Nat) : qgi (mat55 z) (col n f) = col n fun p => sat (sumT (fun t => f t * (z.getD t []).count (lt p)) n) := by
 have e0 : ((col n f).getD 0 []).length = 1 := by rw [List.getD_eq_getElem?_getD, col_get f (by omega)]; rfl
 have e1 : (col n f).length = n := by simp [col]
 unfold qgi
 rw [e0, e1]
 refine List.ext_getElem? fun p => ?_
 rcases Nat.lt_or_ge p n with hp | hp
 ·have hm : (mat55 z)[p]? = some ((mat55 z).getD p []) := by
   have : p < (mat55 z).length := by rw [qec]; omega
   simp [List.getD, this]
  rw [List.getElem?_map, hm, col_get _ hp]
  show some [dot57 ((mat55 z).getD p []) (col n f) 0 n] = _
  rw [dot_col hn hp f n (Nat.le_refl _)]
 ·rw [List.getElem?_eq_none (by simp [qec]; omega), List.getElem?_eq_none (by simp [col]; omega)]
set_option maxHeartbeats 2000000 in
theorem parts21 {v : AVal} {z : List (List UInt8)} {s : List UInt8} {y : Int} (a : IsS ro h v z) (hf : z.length ≤ 1000000 ∧ (∀ i, i < z.length → (z.getD i []).length ≤ 1000000) ∧ s.length ≤ 1000000) :
  ∃ w H, callX F1 ro 21 [v, .s s, .i .i64 y] h = some (.tup [w, .i .i64 (qjg z s y).2], H, h.length, h.length) ∧ Keep h H ∧ IsRow ro H w (qjg z s y).1 := by
 have c47 := cp0 (years47 (ro := ro) (h := h) (y := y) (s := s) a hf.1 hf.2.1 hf.2.2)
 by_cases h0 : errY z s y = 0
 rotate_left
 ·have e : qjg z s y = ([], errY z s y) := by unfold qjg; rw [if_pos h0]
  refine ⟨.nsl, h, g21_ok (qav F1 ro) (Ovr.no rfl) ?_, Keep.refl _, by rw [e]; exact .inl ⟨rfl, rfl⟩⟩
  rw [e]
  unfold g21
  simp only [mC, c47, pS, x0, x1, oS, iS, fB, qfa h0, nF, cT, tA2]
  exact qbe rfl
 obtain ⟨hS, k, rfl, hk⟩ := errY_ok h0
 have hz := VOk.of (qjm hS)
 have n6 := hz.h6
 have n1 := hz.h1
 obtain ⟨hs30, hsh⟩ := qiu hS
 obtain ⟨n, hn⟩ : ∃ n, n = z.length := ⟨_, rfl⟩
 have e : qjg z s (k : Int) = if cntOk z k s z.length then (cntL z k s z.length, 0) else ([], 4) := by unfold qjg; rw [if_neg (fun e => e h0), Int.toNat_natCast]
 obtain ⟨L, hL⟩ : ∃ L, L = h.length := ⟨_, rfl⟩
 -- the list of rows
 have hm1 := mk_ok (ro := ro) (hp := h) (e := 63) (es := 1) (bytes := 24) (z := [AVal.nsl]) (n := n) (l := L) (p := L) (by omega) (by omega)
 obtain ⟨H1, hH1⟩ : ∃ H1, H1 = h ++ [some (blkOf 63 (rep [AVal.nsl] n))] := ⟨_, rfl⟩
 have o1 : Holds H1 L (rep [AVal.nsl] n) := by rw [hH1, hL]; exact Holds.new _ _ _
 rw [← hH1, ← hL] at hm1
 have l1 : H1.length = L + 1 := by rw [hH1, hL]; simp
 have k1 : Keep h H1 := by rw [hH1]; exact Keep.app _
 obtain ⟨rows, hrows⟩ : ∃ rows : Nat → List AVal, rows = fun i => (List.range n).map fun r => if r < i then AVal.sl ⟨false, L + 1 + r, 0⟩ 1 (.known 1) else .nsl := ⟨_, rfl⟩
 have o1' : Holds H1 L (rows 0) := by
  have : rep [AVal.nsl] n = rows 0 := by
   rw [qdr, hrows]
   refine List.ext_getElem? fun i => ?_
   rcases Nat.lt_or_ge i n with hi | hi
   ·simp [hi]
   ·rw [List.getElem?_eq_none (by simpa using hi), List.getElem?_eq_none (by simpa using hi)]
  rwa [this] at o1
 have key0 : ∃ r, loopX (fun q : Int × Mm => g21_b0 (qbs F1 ro) ro s (k : Int) v (.sl ⟨false, L, 0⟩ n (.known n)) (n : Int) q.1 q.2) (0, ⟨H1, L, L⟩) = some r ∧ ∃ K, r = ⟨K, L, L⟩ ∧ Keep h K ∧ K.length = L + 1 + n ∧ Holds K L (rows n) ∧ ∀ r, r < n → Holds K (L + 1 + r) [eU 0] := by
  refine qbt n (fun i q => ∃ K, q = ((i : Int), ⟨K, L, L⟩) ∧ Keep h K ∧ K.length = L + 1 + i ∧ Holds K L (rows i) ∧ ∀ r, r < i → Holds K (L + 1 + r) [eU 0]) _ ?_ ?_ n 0 _ (by omega) ⟨H1, rfl, k1, by omega, o1', fun r hr => by omega⟩
  ·rintro i q hi ⟨K, rfl, kK, lK, g1, g2⟩
   have b1 := bsl1 (ro := ro) (hp := K) (e := 61) (l := L) (p := L) (z := AVal.i IntKind.u64 0) (w := .i .u64 0) rfl
   obtain ⟨K1, hK1⟩ : ∃ K1, K1 = K ++ [some (blkOf 61 [AVal.i .u64 0])] := ⟨_, rfl⟩
   rw [← hK1, lK] at b1
   have lK1 : K1.length = L + 1 + i + 1 := by rw [hK1]; simp [lK]
   have kK1 : Keep K K1 := by rw [hK1]; exact Keep.app _
   obtain ⟨K2, s1, f1, f2, f3⟩ := (g1.by kK1).put (ro := ro) (k := i) (w := .sl ⟨false, L + 1 + i, 0⟩ 1 (.known 1)) (by rw [hrows]; simp [hi]) rfl rfl
   have s1' := s1 L L
   rw [show nonp [AVal.sl ⟨false, L + 1 + i, 0⟩ 1 (.known 1)] = false from rfl, cond_false, Nat.min_self] at s1'
   refine ⟨_, (by simp only [g21_b0, fB, ltT (show (i : Int) < (n : Int) by omega), cT, b1, pS, qdd (show i < n from hi), oS, s1', fI', nx (show i ≤ 1000000 by omega)] <;> rfl), K2, rfl, ⟨by have := kK.1; omega, fun t ht => by rw [f3 t (by omega), (kK.trans kK1).2 t ht]⟩, by omega, ?_, fun r hr => ?_⟩
   ·have : (rows i).set i (.sl ⟨false, L + 1 + i, 0⟩ 1 (.known 1)) = rows (i + 1) := by
     rw [hrows]
     refine setF (fun t ht hne => ?_) fun _ => ?_
     ·by_cases e1 : t < i
      ·rw [if_pos e1, if_pos (by omega)]
      ·rw [if_neg e1, if_neg (by omega)]
     ·rw [if_pos (by omega)]
    rwa [this] at f1
   ·by_cases e1 : r = i
    ·subst e1
     have : Holds K1 (L + 1 + r) [eU 0] := by rw [hK1, ← lK]; exact Holds.new _ _ _
     exact this.keep (f3 _ (by omega))
    ·exact ((g2 r (by omega)).by kK1).keep (f3 _ (by omega))
  ·rintro q ⟨K, rfl, kK, lK, g1, g2⟩
   exact ⟨_, (by simp only [g21_b0, fB, ltF (Int.lt_irrefl _), cF] <;> rfl), K, rfl, kK, lK, g1, g2⟩
 obtain ⟨r0, q0, K0, rfl, kK0, lK0, gR, gC⟩ := key0
 -- the shoot's letters
 have rowld : ∀ (K : Heap), Holds K L (rows n) → ∀ r, r < n → ∀ l p, ldM ro ⟨K, l, p⟩ true 1 (.p (some ⟨false, L, 0 + r⟩)) = some (.sl ⟨false, L + 1 + r, 0⟩ 1 (.known 1)) := fun K g r hr l p => (g.ld (ro := ro) (k := r) (by rw [hrows]; simp [hr]) l p).1
 have key1 : ∃ r, loopX (fun q : Int × Mm => g21_b1 (qbs F1 ro) ro s (k : Int) v (.sl ⟨false, L, 0⟩ n (.known n)) (s.length : Int) q.1 q.2) (0, ⟨K0, L, L⟩) = some r ∧ ∃ K, r = ⟨K, L, L⟩ ∧ Keep h K ∧ K.length = L + 1 + n ∧ Holds K L (rows n) ∧ ∀ r, r < n → Holds K (L + 1 + r) [eU ((s.take s.length).count (lt r))] := by
  refine qbt s.length (fun j q => ∃ K, q = ((j : Int), ⟨K, L, L⟩) ∧ Keep h K ∧ K.length = L + 1 + n ∧ Holds K L (rows n) ∧ ∀ r, r < n → Holds K (L + 1 + r) [eU ((s.take j).count (lt r))]) _ ?_ ?_ s.length 0 _ (by omega) ⟨K0, rfl, kK0, lK0, gR, by simpa using gC⟩
  ·rintro j q hj ⟨K, rfl, kK, lK, g1, g2⟩
   have hb := hsh j hj
   rw [← hn] at hb
   have hx := ix_lt hb
   have hlK := kK.1
   have c54 := cp (l := L) (p := L) (qhf (ro := ro) (h := K) hb) (by omega) (by omega)
   obtain ⟨K', s1, f1, f2, f3⟩ := (g2 _ hx).put (ro := ro) (k := 0) (w := eU ((s.take j).count (lt (ix (s.getD j 0))) + 1)) (by simp) rfl rfl
   have s1' := s1 L L
   rw [show nonp [eU ((s.take j).count (lt (ix (s.getD j 0))) + 1)] = true from rfl, cond_true, show min L (L + 1 + ix (s.getD j 0)) = L by omega] at s1'
   have hcl : (s.take j).count (lt (ix (s.getD j 0))) ≤ 1000000 := by
    have := List.count_le_length (a := lt (ix (s.getD j 0))) (l := s.take j)
    rw [List.length_take] at this; omega
   have e3 : wr .u64 ((((s.take j).count (lt (ix (s.getD j 0))) : Nat) : Int) + 1) = (((s.take j).count (lt (ix (s.getD j 0))) + 1 : Nat) : Int) := by rw [wr_u64 (by omega) (by omega)]; omega
   have ld0 := ((g2 _ hx).ld (ro := ro) (k := 0) rfl L L).1
   have ix00 : evP .e (.ixS 1 (.c (.sl ⟨false, L + 1 + ix (s.getD j 0), 0⟩ 1 (.known 1))) (.c (.i .i64 0))) = some (.p (some ⟨false, L + 1 + ix (s.getD j 0), 0 + 0⟩)) := qdd (i := 0) (by omega)
   have s1'' : stepM ro ⟨K, L, L⟩ (.st 1 (.c (.p (some ⟨false, L + 1 + ix (s.getD j 0), 0 + 0⟩))) (.c (.i .u64 (((s.take j).count (lt (ix (s.getD j 0))) + 1 : Nat) : Int)))) = some (und, ⟨K', L, L⟩) := s1'
   refine ⟨_, (by simp only [g21_b1, fB, ltT (show (j : Int) < (s.length : Int) by omega), cT, qgl hj, oS, iS, mC, c54, pS, qdd hx, rowld K g1 _ hx, ix00, ld0, eU, fI', e3, s1'', nx (show j ≤ 1000000 by omega)] <;> rfl), K', rfl, ⟨by omega, fun t ht => by rw [f3 t (by omega), kK.2 t ht]⟩, by omega, g1.keep (f3 _ (by omega)), fun r hr => ?_⟩
   by_cases e1 : r = ix (s.getD j 0)
   ·subst e1
    rw [count_take hj (show n ≤ 100 by omega) hb hx, if_pos rfl]
    exact f1
   ·rw [count_take hj (show n ≤ 100 by omega) hb hr, if_neg e1, Nat.add_zero]
    exact (g2 r hr).keep (f3 _ (by omega))
  ·rintro q ⟨K, rfl, kK, lK, g1, g2⟩
   exact ⟨_, (by simp only [g21_b1, fB, ltF (Int.lt_irrefl _), cF] <;> rfl), K, rfl, kK, lK, g1, g2⟩
 obtain ⟨r1, q1, K1, rfl, kK1, lK1, g1, g2⟩ := key1
 rw [List.take_length] at g2
 have C0 : IsM eU ro K1 (.sl ⟨false, L, 0⟩ n (.known n)) (col n fun p => s.count (lt p)) := by
  have hl : (col n fun p => s.count (lt p)).length = n := by simp [col]
  have := rowsM (ro := ro) (enc := eU) (x := col n fun p => s.count (lt p)) (c := .known n) g1 (by rw [hl, hrows]; simp) fun i x hx => by
   have hi : i < n := by have := (List.getElem?_eq_some_iff.1 hx).1; rwa [hl] at this
   rw [col_get _ hi] at hx
   cases hx
   exact ⟨.sl ⟨false, L + 1 + i, 0⟩ 1 (.known 1), by rw [hrows]; simp [hi], Holds.R (c := .known 1) (z := [s.count (lt i)]) (g2 i hi) 1 rfl⟩
  rwa [hl] at this
 obtain ⟨w1, H2, c55, k2, m2⟩ := matrix55 (ro := ro) (S_by a kK1) hz.h1 hz.h6 hz.h8
 have M1 : IsM eU ro H2 w1 (mat55 z) := m2.isM
 have hlK1 := kK1.1
 have c55' := cM (l := L) (p := L) c55 (by omega) (by omega)
 have kh2 : Keep h H2 := kK1.trans k2
 have hlH2 := kh2.1
 -- year by year
 have key2 : ∃ r, loopX (fun q : AVal × Int × Mm => g21_b2 (qbs F1 ro) ro v w1 (k : Int) q.1 q.2.1 q.2.2) (.sl ⟨false, L, 0⟩ n (.known n), 0, ⟨H2, L, L⟩) = some r ∧ ∃ u J f, r = (u, ⟨J, L, L⟩) ∧ Keep H2 J ∧ IsM eU ro J u (col n f) ∧ ∀ p, p < n → sat (f p) = sat ((grw z k s).count (lt p)) ∧ f p ≤ 9223372036854775808 := by
  refine qbt k (fun i q => ∃ u J f, q = (u, (i : Int), ⟨J, L, L⟩) ∧ Keep H2 J ∧ IsM eU ro J u (col n f) ∧ ∀ p, p < n → sat (f p) = sat ((grw z i s).count (lt p)) ∧ f p ≤ 9223372036854775808) _ ?_ ?_ k 0 _ (by omega) ⟨_, H2, _, rfl, Keep.refl _, M_by C0 k2, fun p hp => ⟨rfl, ?_⟩⟩
  rotate_left
  ·rintro q ⟨u, J, f, rfl, kJ, mJ, hfp⟩
   exact ⟨_, (by simp only [g21_b2, fB, ltF (Int.lt_irrefl _), cF] <;> rfl), u, J, f, rfl, kJ, mJ, hfp⟩
  ·have := List.count_le_length (a := lt p) (l := s); omega
  ·rintro i q hi ⟨u, J, f, rfl, kJ, mJ, hfp⟩
   have hlJ := kJ.1
   have hcl : (col n f).length = n := by simp [col]
   have hgh : has n (grw z i s) := by rw [hn]; exact grw_has hz hsh
   obtain ⟨u', J', c57, kJ', m'⟩ := prod57_ok (ro := ro) (M_by M1 kJ) mJ (by rw [qec]; omega) (by omega) (by omega) (fun x hx => by rw [hcl, hn]; exact mat55_mem (r := z) hx) (m := 1) (by omega) (fun x hx => by
     obtain ⟨p, -, rfl⟩ := List.mem_map.1 hx
     rfl) (fun x hx => mat55_le hz.h8 hx) (fun x hx => by
     obtain ⟨p, hp, rfl⟩ := List.mem_map.1 hx
     intro y hy
     simp only [List.mem_singleton] at hy
     subst hy
     exact (hfp p (List.mem_range.1 hp)).2)
   rw [prod_col hn (by omega) f] at m'
   have c57' := cM (l := L) (p := L) c57 (by omega) (by omega)
   refine ⟨_, (by simp only [g21_b2, fB, ltT (show (i : Int) < (k : Int) by omega), cT, mC, c57', pS, fI', nx (show i ≤ 1000000 by omega)] <;> rfl), u', J', _, rfl, kJ.trans kJ', m'.isM, fun p hp => ⟨?_, sat_le _⟩⟩
   show sat (sat _) = _
   rw [sat_sat, grw_last, count_flat (show n ≤ 100 by omega) (lt p) hgh]
   exact sat_sum fun t ht => sat_mulC (hfp t ht).1
 obtain ⟨r2, q2, u, J, f, rfl, kJ, mJ, hfp⟩ := key2
 have hfe : ∀ p, p < n → f p = sat ((grw z k s).count (lt p)) := fun p hp => by
  obtain ⟨e1, e2⟩ := hfp p hp
  rw [← e1]; unfold sat; omega
 have hlJ := kJ.1
 have khJ : Keep h J := kh2.trans kJ
 have hcl : (col n f).length = n := by simp [col]
 have hlu := len_M mJ
 rw [hcl] at hlu
 -- the result
 have hm3 := mk_ok (ro := ro) (hp := J) (e := 3) (es := 1) (bytes := 8) (z := [AVal.i IntKind.i64 0]) (n := n) (l := L) (p := L) (by omega) (by omega)
 obtain ⟨B, hB⟩ : ∃ B, B = J.length := ⟨_, rfl⟩
 obtain ⟨J1, hJ1⟩ : ∃ J1, J1 = J ++ [some (blkOf 3 (rep [AVal.i IntKind.i64 0] n))] := ⟨_, rfl⟩
 have o3 : Holds J1 B (rep [AVal.i IntKind.i64 0] n) := by rw [hJ1, hB]; exact Holds.new _ _ _
 rw [← hJ1, ← hB] at hm3
 have lJ1 : J1.length = B + 1 := by rw [hJ1, hB]; simp
 have kJ1 : Keep J J1 := by rw [hJ1]; exact Keep.app _
 obtain ⟨out, hout⟩ : ∃ out : Nat → List AVal, out = fun i => (List.range n).map fun r => AVal.i .i64 (if r < i then (((grw z k s).count (lt r) : Nat) : Int) else 0) := ⟨_, rfl⟩
 have o3' : Holds J1 B (out 0) := by
  have : rep [AVal.i IntKind.i64 0] n = out 0 := by
   rw [qdr, hout]
   refine List.ext_getElem? fun i => ?_
   rcases Nat.lt_or_ge i n with hi | hi
   ·simp [hi]
   ·rw [List.getElem?_eq_none (by simpa using hi), List.getElem?_eq_none (by simpa using hi)]
  rwa [this] at o3
 have key3 : ∃ r, loopX (fun q : Int × Mm => g21_b3 (qbs F1 ro) ro (.sl ⟨false, B, 0⟩ n (.known n)) u (n : Int) q.1 q.2) (0, ⟨J1, L, L⟩) = some r ∧ ∃ K, Keep h K ∧ ((cntOk z k s n ∧ r = .inl ⟨K, L, L⟩ ∧ Holds K B (out n)) ∨ (¬ cntOk z k s n ∧ r = .inr (.nsl, 4, ⟨K, L, L⟩))) := by
  refine loop_exit n (fun i q => ∃ K, q = ((i : Int), ⟨K, L, L⟩) ∧ Keep J K ∧ K.length = B + 1 ∧ Holds K B (out i) ∧ cntOk z k s i) _ ?_ ?_ n 0 _ (by omega) ⟨J1, rfl, kJ1, lJ1, o3', fun p hp => by omega⟩
  ·rintro i q hi ⟨K, rfl, kK, lK, g, hok⟩
   obtain ⟨p1, u1, i1, i2, i3⟩ := at_M mJ (col_get f hi)
   obtain ⟨p2, j1, j2⟩ := at_R i2 (i := 0) (x := f i) rfl
   have j1' : evP .e (.ixS 1 (.c u1) (.c (.i .i64 0))) = some p2 := j1
   have hst := sat_lt (n := (grw z k s).count (lt i)) (m := 1152921504606846976) (by omega)
   have hfi := hfe i hi
   by_cases hc : 1152921504606846976 < (grw z k s).count (lt i)
   ·have := hst.2 hc
    exact .inr ⟨_, (by simp only [g21_b3, fB, ltT (show (i : Int) < (n : Int) by omega), cT, i1, oS, (i3 kK).1, j1', (j2 kK).1, eU, iS, hfi, ltT (show (1152921504606846976 : Int) < ((sat ((grw z k s).count (lt i)) : Nat) : Int) by omega)] <;> rfl), K, khJ.trans kK, .inr ⟨fun hall => by have := hall i hi; omega, rfl⟩⟩
   ·have hs1 : f i = (grw z k s).count (lt i) := by rw [hfi]; unfold sat; omega
    obtain ⟨K', s1, f1, f2, f3⟩ := g.put (ro := ro) (k := i) (w := .i .i64 (((grw z k s).count (lt i) : Nat) : Int)) (by rw [hout]; simp [hi]) rfl rfl
    have s1' := s1 L L
    rw [show nonp [AVal.i .i64 (((grw z k s).count (lt i) : Nat) : Int)] = true from rfl, cond_true, show min L B = L by omega] at s1'
    refine .inl ⟨_, (by simp only [g21_b3, fB, ltT (show (i : Int) < (n : Int) by omega), cT, i1, oS, (i3 kK).1, j1', (j2 kK).1, eU, iS, hs1, ltF (show ¬ (1152921504606846976 : Int) < (((grw z k s).count (lt i) : Nat) : Int) by omega), cF, fI', lt64 (show (grw z k s).count (lt i) ≤ 9223372036854775807 by omega), qdd (show i < n from hi), s1', pS, nx (show i ≤ 1000000 by omega)] <;> rfl), K', rfl, ⟨by omega, fun t ht => by rw [f3 t (by omega), kK.2 t ht]⟩, by omega, ?_, fun p hp => ?_⟩
    ·have : (out i).set i (.i .i64 (((grw z k s).count (lt i) : Nat) : Int)) = out (i + 1) := by
      rw [hout]
      refine setF (fun t ht hne => ?_) fun _ => ?_
      ·by_cases e1 : t < i
       ·rw [if_pos e1, if_pos (by omega)]
       ·rw [if_neg e1, if_neg (by omega)]
      ·rw [if_pos (by omega)]
     rwa [this] at f1
    ·rcases Nat.lt_or_ge p i with h1 | h1
     ·exact hok p h1
     ·obtain rfl : p = i := by omega
      omega
  ·rintro q ⟨K, rfl, kK, lK, g, hok⟩
   exact ⟨_, (by simp only [g21_b3, fB, ltF (Int.lt_irrefl _), cF] <;> rfl), K, khJ.trans kK, .inl ⟨hok, rfl, g⟩⟩
 obtain ⟨r3, q3, K, kK, q4⟩ := key3
 have e0 : eqI (errY z s (k : Int)) 0 = true := by rw [h0]; rfl
 rcases q4 with ⟨hok, rfl, g⟩ | ⟨hok, rfl⟩
 ·have eo : out n = (cntL z k s n).map (AVal.i .i64) := by
   rw [hout]
   unfold cntL
   rw [List.map_map]
   refine List.map_congr_left fun p hp => ?_
   rw [if_pos (List.mem_range.1 hp)]
   rfl
  rw [eo] at g
  rw [e, ← hn, if_pos hok]
  obtain ⟨H', f1, f2, f3⟩ := qft (w := .tup [.sl ⟨false, B, 0⟩ n (.known n), .i .i64 0]) kK
  have hbel : (AVal.tup [.sl ⟨false, B, 0⟩ n (.known n), .i .i64 0]).bel h.length = false := by
   have : Nat.blt B h.length = false := by rw [← Bool.not_eq_true, Nat.blt_eq]; omega
   simp [AVal.bel, bels, this]
  obtain rfl := f3 hbel
  refine ⟨_, H', g21_ok (qav F1 ro) (Ovr.no rfl) (?_ : _ = some (AVal.tup [.sl ⟨false, B, 0⟩ n (.known n), .i .i64 0], H', h.length, h.length)), kK, g.row (by simp [cntL])⟩
  unfold g21
  rw [← hL] at c47 f1 ⊢
  simp only [mC, c47, pS, x0, x1, oS, iS, fB, e0, nT, cF, if_pos h0, len_S a, ← hn, hm1, qha, qaw, q0, qcr, q1, c55', q2, hm3, hlu, q3, tA2]
  exact f1
 ·rw [e, ← hn, if_neg hok]
  refine ⟨.nsl, h, g21_ok (qav F1 ro) (Ovr.no rfl) ?_, Keep.refl _, .inl ⟨rfl, rfl⟩⟩
  unfold g21
  rw [← hL] at c47 ⊢
  simp only [mC, c47, pS, x0, x1, oS, iS, fB, e0, nT, cF, if_pos h0, len_S a, ← hn, hm1, qha, qaw, q0, qcr, q1, c55', q2, hm3, hlu, q3, tA2]
  subst hL
  exact qce kK rfl
end
end Go.Proofs.Ytfohppnelbbepaa.T
/- sorted of the reference -/
open Go.Vm
set_option linter.unusedVariables false
set_option linter.unusedSectionVars false
namespace Go.Proofs.Ytfohppnelbbepaa.T
open Go
variable [Ovr]
section
variable {ro : List ABlk} {h hp : Heap}
end
end Go.Proofs.Ytfohppnelbbepaa.T
/- Factors of the reference, law 8 -/
open Go.Vm
set_option linter.unusedVariables false
set_option linter.unusedSectionVars false
namespace Go.Proofs.Ytfohppnelbbepaa.T
open Go
variable [Ovr]
section
variable {ro : List ABlk} {h hp : Heap}
end
end Go.Proofs.Ytfohppnelbbepaa.T
/- The word of Fibonacci -/
open Go.Vm
set_option linter.unusedVariables false
set_option linter.unusedSectionVars false
namespace Go.Proofs.Ytfohppnelbbepaa.T
open Go
variable [Ovr]
/- the word of Fibonacci -/
/- how often each letter lies in the word of Thue and Morse -/
end Go.Proofs.Ytfohppnelbbepaa.T
/- Law 14 -/
open Go.Vm
set_option linter.unusedVariables false
set_option linter.unusedSectionVars false
namespace Go.Proofs.Ytfohppnelbbepaa.T
open Go
variable [Ovr]
section
variable {ro : List ABlk} {h hp : Heap}
end
end Go.Proofs.Ytfohppnelbbepaa.T
/- Law 13 -/
open Go.Vm
set_option linter.unusedVariables false
set_option linter.unusedSectionVars false
namespace Go.Proofs.Ytfohppnelbbepaa.T
open Go
variable [Ovr]
/- what a bud becomes is a beginning of the word -/
section
variable {ro : List ABlk} {h hp : Heap}
theorem u8_in {n : Int} (h : (Lit.int .u8 n).wf = true) : 0 ≤ n ∧ n ≤ 255 := by
 simp only [Lit.wf, Bool.and_eq_true, decide_eq_true_eq] at h
 exact h
end
end Go.Proofs.Ytfohppnelbbepaa.T
/- Law 10 -/
open Go.Vm
set_option linter.unusedVariables false
set_option linter.unusedSectionVars false
namespace Go.Proofs.Ytfohppnelbbepaa.T
open Go
variable [Ovr]
section
variable {ro : List ABlk} {h hp : Heap}
end
end Go.Proofs.Ytfohppnelbbepaa.T
/- Dies, both -/
open Go.Vm
set_option linter.unusedVariables false
set_option linter.unusedSectionVars false
namespace Go.Proofs.Ytfohppnelbbepaa.T
open Go
variable [Ovr]
section
variable {ro : List ABlk} {h hp : Heap}
noncomputable def deadV (z : List (List UInt8)) (s : List UInt8) : Int × Int := if errS z s ≠ 0 then (0, errS z s) else match dieY z s with
 | some y => ((y : Int), 0)
 | none => (0, 10)
theorem dies26 {v : AVal} {z : List (List UInt8)} {s : List UInt8} (a : IsS ro h v z) (hf : z.length ≤ 1000000 ∧ (∀ i, i < z.length → (z.getD i []).length ≤ 1000000) ∧ s.length ≤ 1000000) :
  callX F1 ro 26 [v, .s s] h = some (.tup [.i .i64 (deadV z s).1, .i .i64 (deadV z s).2], h, h.length, h.length) := by
 refine g26_ok (qav F1 ro) (Ovr.no rfl) ?_
 unfold g26
 simp only [mC, cp0 (read60 (s := s) a hf.1 hf.2.1 hf.2.2), pS, x0, x1, oS, iS, fB]
 by_cases hS : errS z s = 0
 rotate_left
 ·have e : deadV z s = (0, errS z s) := by unfold deadV; rw [if_pos hS]
  simp only [qfa hS, nF, cT, e, tA2]
  exact qbe rfl
 have e : deadV z s = match dieY z s with
  | some y => ((y : Int), 0)
  | none => (0, 10) := by unfold deadV; rw [if_neg (fun e => e hS)]
 have vok := VOk.of (qjm hS)
 obtain ⟨hs30, hsh⟩ := qiu hS
 have e0 : eqI (errS z s) 0 = true := by rw [hS]; rfl
 simp only [e0, nT, cF, if_pos hS, cp0 (dies61 a vok hf.2.2 hsh), pS]
 rw [e]
 unfold dieA
 cases hy : dieY z s with
 | some y =>
  simp only [x0, x1, oS, iS, bS, nT, cF, tA2]
  exact qbe rfl
 | none =>
  simp only [x0, x1, oS, iS, bS, nF, cT, tA2]
  exact qbe rfl
end
end Go.Proofs.Ytfohppnelbbepaa.T
/- A cell of a new matrix -/
open Go.Vm
set_option linter.unusedVariables false
set_option linter.unusedSectionVars false
namespace Go.Proofs.Ytfohppnelbbepaa.T
open Go
variable [Ovr]
section
variable {ro : List ABlk} {h hp : Heap} {α : Type} {enc : α → AVal}
def setM (x : List (List α)) (r c : Nat) (y : α) : List (List α) := x.set r ((x.getD r []).set c y)
theorem qhq (x : List (List α)) (r c : Nat) (y : α) : (setM x r c y).length = x.length := by simp [setM]
theorem setM_row {x : List (List α)} {r c : Nat} {y : α} (hr : r < x.length) (t : Nat) : (setM x r c y).getD t [] = if t = r then (x.getD r []).set c y else x.getD t [] := by
 unfold setM
 rw [List.getD_eq_getElem?_getD, List.getElem?_set]
 by_cases e : r = t
 ·subst e; simp [hr]
 ·rw [if_neg e, if_neg fun e2 => e e2.symm, List.getD_eq_getElem?_getD]
theorem setM_rlen {x : List (List α)} {r c : Nat} {y : α} (hr : r < x.length) (t : Nat) : ((setM x r c y).getD t []).length = (x.getD t []).length := by
 rw [setM_row hr]
 split
 ·rename_i e; rw [e, List.length_set]
 ·rfl
theorem NewM.put {H : Heap} {L : Nat} {w : AVal} {x : List (List α)} (a : NewM enc H L w x) {r c : Nat} {y0 y : α} (hr : r < x.length) (hc : (x.getD r [])[c]? = some y0) (h1 : (enc y).one = true) (h2 : (enc y).cells = [enc y]) (h3 : nonp [enc y] = true) :
  ∃ q u q2 H', evP .e (.ixS 1 (.c w) (.c (.i .i64 (r : Int)))) = some q ∧ (∀ l p, ldM ro ⟨H, l, p⟩ true 1 q = some u) ∧ evP .e (.ixS 1 (.c u) (.c (.i .i64 (c : Int)))) = some q2 ∧ (∀ l p, ldM ro ⟨H, l, p⟩ true 1 q2 = some (enc y0)) ∧
   (∀ l p, l ≤ L → stepM ro ⟨H, l, p⟩ (.st 1 (.c q2) (.c (enc y))) = some (und, ⟨H', l, p⟩)) ∧ NewM enc H' L w (setM x r c y) ∧ H'.length = H.length ∧ ∀ i, i ≤ L → H'[i]? = H[i]? := by
 obtain ⟨bs, cs, rfl, g1, g2, g3⟩ := a
 obtain ⟨hL, hb⟩ := g2 r hr
 have hcl : c < (x.getD r []).length := (List.getElem?_eq_some_iff.1 hc).1
 obtain ⟨H', s1, f1, f2, f3⟩ := hb.put (ro := ro) (k := c) (w := enc y) (by rw [List.length_map]; exact hcl) h1 h2
 refine ⟨_, _, _, H', qdd hr, fun l p => (g1.ld (ro := ro) (k := r) (w := .sl ⟨false, bs r, 0⟩ (x.getD r []).length (cs r)) (by simp [hr]) l p).1, qdd hcl, fun l p => (hb.ld (ro := ro) (k := c) (by rw [List.getElem?_map, hc]; rfl) l p).1, fun l p hl => ?_, ⟨bs, cs, by rw [qhq], ?_, fun t ht => ?_, fun t t' ht ht' => ?_⟩, f2, fun i hi => f3 i (by omega)⟩
 ·have := s1 l p
  rwa [h3, cond_true, show min l (bs r) = l by omega] at this
 ·rw [qhq]
  have e : ((List.range x.length).map fun t => AVal.sl ⟨false, bs t, 0⟩ ((setM x r c y).getD t []).length (cs t)) = (List.range x.length).map fun t => AVal.sl ⟨false, bs t, 0⟩ (x.getD t []).length (cs t) := List.map_congr_left fun t _ => by rw [setM_rlen hr]
  rw [e]
  exact g1.keep (f3 L (by omega))
 ·rw [qhq] at ht
  obtain ⟨u1, u2⟩ := g2 t ht
  refine ⟨u1, ?_⟩
  rw [setM_row hr]
  by_cases e : t = r
  ·subst e
   rw [if_pos rfl, List.map_set]
   exact f1
  ·rw [if_neg e]
   exact u2.keep (f3 _ fun e2 => e (g3 t r ht hr e2))
 ·rw [qhq] at ht ht'
  exact g3 t t' ht ht'
end
end Go.Proofs.Ytfohppnelbbepaa.T
/- descent -/
open Go.Vm
set_option linter.unusedVariables false
set_option linter.unusedSectionVars false
namespace Go.Proofs.Ytfohppnelbbepaa.T
open Go
variable [Ovr]
def stayK (z : List (List UInt8)) : Nat → List (List Bool)
 | 0 => mat93 z
 | i + 1 => setM (stayK z i) i i true
theorem qgj (z : List (List UInt8)) : (mat93 z).length = z.length ∧ ∀ t, t < z.length → ((mat93 z).getD t []).length = z.length := by
 refine ⟨by simp [mat93], fun t ht => ?_⟩
 simp [mat93, List.getD, ht]
theorem qet (z : List (List UInt8)) : ∀ i, i ≤ z.length → (stayK z i).length = z.length ∧ ∀ t, t < z.length → ((stayK z i).getD t []).length = z.length
 | 0, _ => qgj z
 | i + 1, h => by
  obtain ⟨h1, h2⟩ := qet z i (by omega)
  refine ⟨by show (setM _ _ _ _).length = _; rw [qhq, h1], fun t ht => ?_⟩
  show ((setM (stayK z i) i i true).getD t []).length = _
  rw [setM_rlen (by omega), h2 t ht]
def cellB (x : List (List Bool)) (p q : Nat) : Bool := (x.getD p []).getD q false
theorem qif (z : List (List UInt8)) : ∀ i, i ≤ z.length → ∀ p q, p < z.length → q < z.length → cellB (stayK z i) p q = (cellB (mat93 z) p q || decide (p = q ∧ p < i))
 | 0, _, p, q, _, _ => by simp [stayK]
 | i + 1, h, p, q, hp, hq => by
  obtain ⟨h1, h2⟩ := qet z i (by omega)
  have ih := qif z i (by omega) p q hp hq
  show ((setM (stayK z i) i i true).getD p []).getD q false = _
  rw [setM_row (by omega)]
  by_cases e : p = i
  ·subst e
   rw [if_pos rfl, List.getD_eq_getElem?_getD, List.getElem?_set]
   by_cases e2 : p = q
   ·subst e2
    rw [if_pos rfl, if_pos (by rw [h2 p hp]; exact hq)]
    simp
   ·rw [if_neg e2, ← List.getD_eq_getElem?_getD]
    show cellB (stayK z p) p q = _
    rw [ih]
    simp [e2]
  ·rw [if_neg e]
   show cellB (stayK z i) p q = _
   rw [ih]
   congr 1
   by_cases e2 : p = q
   ·simp only [e2, true_and]
    have : (q < i) = (q < i + 1) := propext ⟨fun h => by omega, fun h => by omega⟩
    simp only [this]
   ·simp [e2]
def descK (z : List (List UInt8)) : Nat → List (List Bool)
 | 0 => mat93 z
 | i + 1 => qgc (descK z i) (stayK z z.length)
theorem mem_rows {x : List (List Bool)} {n : Nat} (h : ∀ t, t < x.length → (x.getD t []).length = n) : ∀ r ∈ x, r.length = n := fun r hr => by
 obtain ⟨t, ht, rfl⟩ := List.getElem_of_mem hr
 have := h t ht
 simpa [List.getD, ht] using this
theorem qib (z : List (List UInt8)) (h1 : 1 ≤ z.length) : ∀ i, (descK z i).length = z.length ∧ ∀ r ∈ descK z i, r.length = z.length
 | 0 => ⟨(qgj z).1, mem_rows (x := mat93 z) (by rw [(qgj z).1]; exact (qgj z).2)⟩
 | i + 1 => by
  obtain ⟨g1, g2⟩ := qib z h1 i
  obtain ⟨d1, d2⟩ := qet z z.length (Nat.le_refl _)
  refine ⟨by show ((descK z i).map _).length = _; rw [List.length_map, g1], fun r hr => ?_⟩
  obtain ⟨row, -, rfl⟩ := List.mem_map.1 hr
  rw [List.length_map, List.length_range, d2 0 (by omega)]
section
variable {ro : List ABlk} {h hp : Heap}
set_option maxHeartbeats 1000000 in
theorem descent63 {v : AVal} {z : List (List UInt8)} (a : IsS ro h v z) (hz : VOk z) :
  ∃ w H, callX F1 ro 63 [v] h = some (w, H, h.length, h.length) ∧ Keep h H ∧ IsM eB ro H w (descK z z.length) := by
 have n1 := hz.h1
 have n6 := hz.h6
 obtain ⟨L, hL⟩ : ∃ L, L = h.length := ⟨_, rfl⟩
 obtain ⟨w1, H1, c1, k1, m1⟩ := matrix93 (ro := ro) a hz.h1 hz.h6 hz.h8
 obtain ⟨w2, H2, c2, k2, m2⟩ := matrix93 (ro := ro) (S_by a k1) hz.h1 hz.h6 hz.h8
 have q1 := k1.1
 have q2 := k2.1
 have c1' := cM (l := L) (p := L) c1 (by omega) (by omega)
 have c2' := cM (l := L) (p := L) c2 (by omega) (by omega)
 obtain ⟨n, hn⟩ : ∃ n, n = z.length := ⟨_, rfl⟩
 have hl2 := len_M (ro := ro) m2.isM
 rw [(qgj z).1, ← hn] at hl2
 have key1 : ∃ r, loopX (fun q : Int × Mm => g63_b0 (qbs F1 ro) ro v w1 w2 (n : Int) q.1 q.2) (0, ⟨H2, L, L⟩) = some r ∧ ∃ K, r = ⟨K, L, L⟩ ∧ K.length = H2.length ∧ (∀ i, i < H1.length → K[i]? = H2[i]?) ∧ NewM eB K H1.length w2 (stayK z n) := by
  refine qbt n (fun i q => ∃ K, q = ((i : Int), ⟨K, L, L⟩) ∧ K.length = H2.length ∧ (∀ i, i < H1.length → K[i]? = H2[i]?) ∧ NewM eB K H1.length w2 (stayK z i)) _ ?_ ?_ n 0 _ (by omega) ⟨H2, rfl, rfl, fun _ _ => rfl, m2⟩
  ·rintro i q hi ⟨K, rfl, lK, oK, mK⟩
   obtain ⟨d1, d2⟩ := qet z i (by omega)
   have hc : ((stayK z i).getD i [])[i]? = some (((stayK z i).getD i [])[i]'(by rw [d2 i (by omega)]; omega)) := List.getElem?_eq_getElem _
   obtain ⟨p1, u, p2, K', i1, i2, i3, i4, i5, i6, i7, i8⟩ := mK.put (ro := ro) (y := true) (show i < (stayK z i).length by omega) hc rfl rfl rfl
   exact ⟨_, (by simp only [g63_b0, fB, ltT (show (i : Int) < (n : Int) by omega), cT, i1, oS, i2, i3, i5 L L (by omega), pS, fI', nx (show i ≤ 1000000 by omega)] <;> rfl), K', rfl, by omega, fun t ht => by rw [i8 t (by omega), oK t ht], i6⟩
  ·rintro q ⟨K, rfl, lK, oK, mK⟩
   exact ⟨_, (by simp only [g63_b0, fB, ltF (Int.lt_irrefl _), cF] <;> rfl), K, rfl, lK, oK, mK⟩
 obtain ⟨r1, e1, K, rfl, lK, oK, mK⟩ := key1
 have kK : Keep H1 K := ⟨by omega, fun i hi => by rw [oK i hi, k2.2 i hi]⟩
 have khK := k1.trans kK
 have hqK := khK.1
 obtain ⟨d1, d2⟩ := qet z z.length (Nat.le_refl _)
 have key2 : ∃ r, loopX (fun q : AVal × Int × Mm => g63_b1 (qbs F1 ro) ro w2 (n : Int) q.1 q.2.1 q.2.2) (w1, 0, ⟨K, L, L⟩) = some r ∧ ∃ u J, r = (u, ⟨J, L, L⟩) ∧ Keep K J ∧ IsM eB ro J u (descK z n) ∧ (0 < n → u.bel h.length = false) := by
  refine qbt n (fun i q => ∃ u J, q = (u, (i : Int), ⟨J, L, L⟩) ∧ Keep K J ∧ IsM eB ro J u (descK z i) ∧ (0 < i → u.bel h.length = false)) _ ?_ ?_ n 0 _ (by omega) ⟨w1, K, rfl, Keep.refl _, M_by m1.isM kK, fun h => by omega⟩
  ·rintro i q hi ⟨u, J, rfl, kJ, mJ, -⟩
   have hqJ := kJ.1
   obtain ⟨g1, g2⟩ := qib z n1 i
   have mS := M_by (ro := ro) mK.isM kJ
   rw [hn] at mS
   obtain ⟨u', J', c3, k3, m3⟩ := prod95_ok (ro := ro) mJ mS (by omega) (by omega) (by omega) (fun r hr => by rw [d1]; exact g2 r hr) (m := n) (by omega) (mem_rows (by rw [d1, hn]; exact d2)) (fun _ _ _ _ => trivial) (fun _ _ _ _ => trivial)
   have c3' := cM (l := L) (p := L) c3 (by omega) (by omega)
   refine ⟨_, (by simp only [g63_b1, fB, ltT (show (i : Int) < (n : Int) by omega), cT, mC, c3', pS, fI', nx (show i ≤ 1000000 by omega)] <;> rfl), u', J', rfl, kJ.trans k3, m3.isM, fun _ => ?_⟩
   obtain ⟨bs, cs, rfl, -⟩ := m3
   have : Nat.blt J.length h.length = false := by rw [← Bool.not_eq_true, Nat.blt_eq]; omega
   simp [AVal.bel, this]
  ·rintro q ⟨u, J, rfl, kJ, mJ, hb⟩
   exact ⟨_, (by simp only [g63_b1, fB, ltF (Int.lt_irrefl _), cF] <;> rfl), u, J, rfl, kJ, mJ, hb⟩
 obtain ⟨r2, e2, u, J, rfl, kJ, mJ, hb⟩ := key2
 have khJ := khK.trans kJ
 obtain ⟨H, f1, f2, f3⟩ := qft (w := u) khJ
 obtain rfl := f3 (hb (by omega))
 refine ⟨u, H, g63_ok (qav F1 ro) (Ovr.no rfl) ?_, khJ, by rw [← hn]; exact mJ⟩
 unfold g63
 rw [← hL] at f1 ⊢
 simp only [mC, c1', c2', pS, hl2, oS, iS, qaw, e1, len_S a, ← hn, e2, tA]
 exact f1
end
end Go.Proofs.Ytfohppnelbbepaa.T
/- doubles -/
open Go.Vm
set_option linter.unusedVariables false
set_option linter.unusedSectionVars false
namespace Go.Proofs.Ytfohppnelbbepaa.T
open Go
variable [Ovr]
section
variable {ro : List ABlk} {h hp : Heap}
theorem box2 {e l p : Nat} {v w : AVal} : stepM ro ⟨hp, l, p⟩ (.bx e 2 (.c (.agg [v, w]))) = some (.p (some ⟨false, hp.length, 0⟩), ⟨hp ++ [some (blkOf e [v, w])], l, p⟩) := by
 have hbq : Nat.beq [v, w].length 2 = true := rfl
 simp only [stepM, stepK, opd, st_bx, AVal.cells, hbq, cond_true, newB, St.mm]
theorem fa0 {b : Nat} : evP .e (.faddr 0 (.c (.p (some ⟨false, b, 0⟩)))) = some (.p (some ⟨false, b, 0 + 0⟩)) := rfl
theorem fa1 {b : Nat} : evP .e (.faddr 1 (.c (.p (some ⟨false, b, 0⟩)))) = some (.p (some ⟨false, b, 0 + 1⟩)) := rfl
def cntD (z : List (List UInt8)) (x : List (List Bool)) (p j : Nat) : Nat := ((z.getD p []).take j).countP fun b => cellB x p (ix b)
def dblB (z : List (List UInt8)) (x : List (List Bool)) (p : Nat) : Bool := decide (2 ≤ cntD z x p (z.getD p []).length)
theorem qkd {x : List (List Bool)} {n p q : Nat} (hx : x.length = n) (hr : ∀ r ∈ x, r.length = n) (hp : p < n) (hq : q < n) : x[p]? = some (x.getD p []) ∧ (x.getD p [])[q]? = some (cellB x p q) := by
 have h1 : p < x.length := by omega
 have e : x.getD p [] = x[p] := by simp [List.getD, h1]
 have h2 : (x.getD p []).length = n := by rw [e]; exact hr _ (List.getElem_mem h1)
 refine ⟨by rw [List.getElem?_eq_getElem h1, e], ?_⟩
 unfold cellB
 have h3 : q < (x.getD p []).length := by omega
 rw [List.getElem?_eq_getElem h3, List.getD_eq_getElem?_getD (l := x.getD p []), List.getElem?_eq_getElem h3]
 rfl
theorem doubles96 {v w : AVal} {z : List (List UInt8)} {x : List (List Bool)} {p : Nat} (a : IsS ro h v z) (hz : VOk z) (M : IsM eB ro h w x) (hx : x.length = z.length) (hr : ∀ r ∈ x, r.length = z.length) (hp : p < z.length) :
  callX F1 ro 96 [.agg [v, w], .i .i64 (p : Int)] h = some (.b (dblB z x p), h, h.length, h.length) := by
 have n6 := hz.h6
 have h8 := hz.h8 p hp
 obtain ⟨L, hL⟩ : ∃ L, L = h.length := ⟨_, rfl⟩
 obtain ⟨H, hH⟩ : ∃ H, H = h ++ [some (blkOf 85 [v, w])] := ⟨_, rfl⟩
 have b1 := box2 (ro := ro) (hp := h) (e := 85) (l := L) (p := L) (v := v) (w := w)
 rw [← hH, ← hL] at b1
 have lH : H.length = L + 1 := by rw [hH, hL]; simp
 have kH : Keep h H := by rw [hH]; exact Keep.app _
 have gH : Holds H L [v, w] := by rw [hH, hL]; exact Holds.new _ _ _
 have d0 := fun l q => (gH.ld (ro := ro) (k := 0) rfl l q).1
 have d1A := (gH.ld (ro := ro) (k := 1) rfl 0 0).2
 obtain ⟨s, hs⟩ : ∃ s, s = z.getD p [] := ⟨_, rfl⟩
 have hsh : has z.length s := by rw [hs]; exact hz.hh p hp
 obtain ⟨p1, i1, i2⟩ := at_S a hp
 rw [← hs] at i2 h8
 obtain ⟨g1, -⟩ := qkd hx hr hp hp
 obtain ⟨p2, u, j1, j2, j3⟩ := at_M M g1
 have i2' := fun l q => (i2 (hp := H) (l := l) (q := q) kH).1
 have j3A := (j3 (hp := H) (l := 0) (q := 0) kH).2
 have key : ∃ r, loopX (fun q : Int × Int × Mm => g96_b0 (qbs F1 ro) ro (p : Int) (.p (some ⟨false, L, 0⟩)) (s.length : Int) q.1 q.2.1 q.2.2) (0, 0, ⟨H, L, L⟩) = some r ∧ r = (((cntD z x p s.length : Nat) : Int), ⟨H, L, L⟩) := by
  refine qbt s.length (fun j q => q = (((cntD z x p j : Nat) : Int), (j : Int), ⟨H, L, L⟩) ∧ cntD z x p j ≤ j) _ ?_ ?_ s.length 0 _ (by omega) ⟨by simp [cntD], Nat.zero_le _⟩
  ·rintro j q hj ⟨rfl, hle⟩
   have hb := hsh j hj
   have hxl := ix_lt hb
   obtain ⟨-, g2⟩ := qkd hx hr hp hxl
   obtain ⟨p3, k1, k2⟩ := at_R j2 g2
   have k2' := fun l q => (k2 (hp := H) (l := l) (q := q) kH).1
   have estep : cntD z x p (j + 1) = cntD z x p j + if cellB x p (ix (s.getD j 0)) = true then 1 else 0 := by
    unfold cntD
    rw [← hs, take_snoc 0 hj, List.countP_append]
    congr 1
    by_cases e : cellB x p (ix (s.getD j 0)) = true
    ·rw [if_pos e, List.countP_cons, if_pos e]; rfl
    ·rw [if_neg e, List.countP_cons, if_neg e]; rfl
   have c54 := cp0 (qhf (ro := ro) (h := H) hb)
   have hck := chkL (a := H.length) (b := H.length) (Nat.le_refl _)
   have hjn : Mm.join ⟨H, L, L⟩ ⟨H, H.length, H.length⟩ = ⟨H, L, L⟩ := joinL (by omega) (by omega)
   cases hcell : cellB x p (ix (s.getD j 0)) with
   | true =>
    rw [hcell, if_pos rfl] at estep
    rw [hcell] at k2'
    exact ⟨_, (by simp only [g96_b0, fB, ltT (show (j : Int) < (s.length : Int) by omega), cT, baseL, oS, fa1, d1A, j1, j3A, fa0, d0, i1, i2', sS, qgl hj, iS, mC, c54, pS, hck, ckT, k1, k2', bS, hjn, fI', nx (show cntD z x p j ≤ 1000000 by omega), nx (show j ≤ 1000000 by omega)] <;> rfl), by rw [estep], by omega⟩
   | false =>
    rw [hcell, if_neg (by decide)] at estep
    rw [hcell] at k2'
    exact ⟨_, (by simp only [g96_b0, fB, ltT (show (j : Int) < (s.length : Int) by omega), cT, baseL, oS, fa1, d1A, j1, j3A, fa0, d0, i1, i2', sS, qgl hj, iS, mC, c54, pS, hck, ckT, k1, k2', bS, cF, hjn, fI', nx (show j ≤ 1000000 by omega)] <;> rfl), by rw [estep]; rfl, by omega⟩
  ·rintro q ⟨rfl, hle⟩
   exact ⟨_, (by simp only [g96_b0, fB, ltF (Int.lt_irrefl _), cF] <;> rfl), rfl⟩
 obtain ⟨r, e1, rfl⟩ := key
 have efin : (!ltI ((cntD z x p s.length : Nat) : Int) 2) = dblB z x p := by
  unfold dblB
  rw [← hs]
  by_cases e : 2 ≤ cntD z x p s.length
  ·rw [dT e, ltF (show ¬ ((cntD z x p s.length : Nat) : Int) < 2 by omega)]; rfl
  ·rw [dF e, ltT (show ((cntD z x p s.length : Nat) : Int) < 2 by omega)]; rfl
 refine g96_ok (qav F1 ro) (Ovr.no rfl) ?_
 unfold g96
 simp only [← hL, b1, pS, fa0, d0, oS, i1, i2', sS, qcr, iS, qaw, e1, fB, efin, tA]
 subst hL
 exact qce kH rfl
end
end Go.Proofs.Ytfohppnelbbepaa.T
/- explodes -/
open Go.Vm
set_option linter.unusedVariables false
set_option linter.unusedSectionVars false
namespace Go.Proofs.Ytfohppnelbbepaa.T
open Go
variable [Ovr]
section
variable {ro : List ABlk} {h hp : Heap}
def expB (z : List (List UInt8)) (x : List (List Bool)) (p : Nat) : Bool := (List.range z.length).any fun q => (decide (q = p) || cellB x q p) && dblB z x q
theorem explodes64 {v w : AVal} {z : List (List UInt8)} {x : List (List Bool)} {p : Nat} (a : IsS ro h v z) (hz : VOk z) (M : IsM eB ro h w x) (hx : x.length = z.length) (hr : ∀ r ∈ x, r.length = z.length) (hp : p < z.length) :
  callX F1 ro 64 [.agg [v, w], .i .i64 (p : Int)] h = some (.b (expB z x p), h, h.length, h.length) := by
 have n6 := hz.h6
 obtain ⟨L, hL⟩ : ∃ L, L = h.length := ⟨_, rfl⟩
 obtain ⟨H, hH⟩ : ∃ H, H = h ++ [some (blkOf 85 [v, w])] := ⟨_, rfl⟩
 have b1 := box2 (ro := ro) (hp := h) (e := 85) (l := L) (p := L) (v := v) (w := w)
 rw [← hH, ← hL] at b1
 have lH : H.length = L + 1 := by rw [hH, hL]; simp
 have kH : Keep h H := by rw [hH]; exact Keep.app _
 have gH : Holds H L [v, w] := by rw [hH, hL]; exact Holds.new _ _ _
 have d0 := fun l q => (gH.ld (ro := ro) (k := 0) rfl l q).1
 have d1 := fun l q => (gH.ld (ro := ro) (k := 1) rfl l q).1
 have dA := gH.all (ro := ro) (l := L) (p := L) (n := 2) rfl
 have aH := S_by a kH
 have MH := M_by M kH
 have key : ∃ r, loopX (fun q : Int × Mm => g64_b0 (qbs F1 ro) ro (p : Int) (.p (some ⟨false, L, 0⟩)) (z.length : Int) q.1 q.2) (0, ⟨H, L, L⟩) = some r ∧ ((r = .inl ⟨H, L, L⟩ ∧ ∀ q, q < z.length → ((decide (q = p) || cellB x q p) && dblB z x q) = false) ∨ (r = .inr (true, ⟨H, L, L⟩) ∧ ∃ q, q < z.length ∧ ((decide (q = p) || cellB x q p) && dblB z x q) = true)) := by
  refine loop_exit z.length (fun i s => s = ((i : Int), ⟨H, L, L⟩) ∧ ∀ q, q < i → ((decide (q = p) || cellB x q p) && dblB z x q) = false) _ ?_ ?_ z.length 0 _ (by omega) ⟨rfl, fun q h => by omega⟩
  ·rintro i s hi ⟨rfl, hall⟩
   obtain ⟨g1, g2⟩ := qkd hx hr hi hp
   obtain ⟨p2, u, j1, j2, j3⟩ := at_M MH g1
   obtain ⟨p3, k1, k2⟩ := at_R j2 g2
   have j3' := fun l q => (j3 (hp := H) (l := l) (q := q) (Keep.refl H)).1
   have k2' := fun l q => (k2 (hp := H) (l := l) (q := q) (Keep.refl H)).1
   have c96 := cp (l := L) (p := L) (doubles96 (ro := ro) aH hz MH hx hr hi) (by omega) (by omega)
   have more : ((decide (i = p) || cellB x i p) && dblB z x i) = false → ∀ q, q < i + 1 → ((decide (q = p) || cellB x q p) && dblB z x q) = false := fun hf q hq => by
    rcases Nat.lt_or_ge q i with h | h
    ·exact hall q h
    ·obtain rfl : q = i := by omega
     exact hf
   cases hd : dblB z x i <;> rw [hd] at c96 <;> by_cases hip : i = p
   ·have e : eqI (i : Int) (p : Int) = true := by rw [hip]; exact qds _
    exact .inl ⟨_, (by simp only [g64_b0, fB, ltT (show (i : Int) < (z.length : Int) by omega), cT, e, oS, dA, mC, c96, pS, bS, cF, fI', nx (show i ≤ 1000000 by omega)] <;> rfl), rfl, more (by rw [hd, Bool.and_false])⟩
   ·have e : eqI (i : Int) (p : Int) = false := qfa (by omega)
    cases hc : cellB x i p <;> rw [hc] at k2'
    ·exact .inl ⟨_, (by simp only [g64_b0, fB, ltT (show (i : Int) < (z.length : Int) by omega), cT, e, cF, fa1, d1, j1, j3', k1, k2', bS, oS, fI', nx (show i ≤ 1000000 by omega)] <;> rfl), rfl, more (by rw [hd, Bool.and_false])⟩
    ·exact .inl ⟨_, (by simp only [g64_b0, fB, ltT (show (i : Int) < (z.length : Int) by omega), cT, e, cF, fa1, d1, j1, j3', k1, k2', bS, oS, dA, mC, c96, pS, fI', nx (show i ≤ 1000000 by omega)] <;> rfl), rfl, more (by rw [hd, Bool.and_false])⟩
   ·have e : eqI (i : Int) (p : Int) = true := by rw [hip]; exact qds _
    exact .inr ⟨_, (by simp only [g64_b0, fB, ltT (show (i : Int) < (z.length : Int) by omega), cT, e, oS, dA, mC, c96, pS, bS] <;> rfl), .inr ⟨rfl, i, hi, by rw [hd, hip]; simp⟩⟩
   ·have e : eqI (i : Int) (p : Int) = false := qfa (by omega)
    cases hc : cellB x i p <;> rw [hc] at k2'
    ·exact .inl ⟨_, (by simp only [g64_b0, fB, ltT (show (i : Int) < (z.length : Int) by omega), cT, e, cF, fa1, d1, j1, j3', k1, k2', bS, oS, fI', nx (show i ≤ 1000000 by omega)] <;> rfl), rfl, more (by rw [hc]; simp [hip])⟩
    ·exact .inr ⟨_, (by simp only [g64_b0, fB, ltT (show (i : Int) < (z.length : Int) by omega), cT, e, cF, fa1, d1, j1, j3', k1, k2', bS, oS, dA, mC, c96, pS] <;> rfl), .inr ⟨rfl, i, hi, by rw [hd, hc]; simp⟩⟩
  ·rintro s ⟨rfl, hall⟩
   exact ⟨_, (by simp only [g64_b0, fB, ltF (Int.lt_irrefl _), cF] <;> rfl), .inl ⟨rfl, hall⟩⟩
 obtain ⟨r, e1, e2⟩ := key
 refine g64_ok (qav F1 ro) (Ovr.no rfl) ?_
 unfold g64
 simp only [← hL, b1, pS, fa0, d0, oS, len_S aH, iS, qaw, e1]
 rcases e2 with ⟨rfl, hall⟩ | ⟨rfl, q, hq, hq2⟩
 ·have : expB z x p = false := by
   unfold expB
   rw [List.any_eq_false]
   intro q hq
   rw [hall q (List.mem_range.1 hq)]
   decide
  rw [this]
  simp only [tA]
  subst hL
  exact qce kH rfl
 ·have : expB z x p = true := by
   unfold expB
   rw [List.any_eq_true]
   exact ⟨q, List.mem_range.2 hq, hq2⟩
  rw [this]
  simp only [tA]
  subst hL
  exact qce kH rfl
end
end Go.Proofs.Ytfohppnelbbepaa.T
/- The closure -/
open Go.Vm
set_option linter.unusedVariables false
set_option linter.unusedSectionVars false
namespace Go.Proofs.Ytfohppnelbbepaa.T
open Go
variable [Ovr]
/- what comes of what: the closure -/
theorem dot95_iff {row : List Bool} {xb : List (List Bool)} {j : Nat} : ∀ k, dot95 row xb j k = true ↔ ∃ t, t < k ∧ row.getD t false = true ∧ cellB xb t j = true
 | 0 => ⟨fun h => (by cases h), fun ⟨t, h, _⟩ => (by omega)⟩
 | k + 1 => by
  have ih := dot95_iff (row := row) (xb := xb) (j := j) k
  have e : dot95 row xb j (k + 1) = (dot95 row xb j k || (row.getD k false && cellB xb k j)) := rfl
  rw [e, Bool.or_eq_true, Bool.and_eq_true, ih]
  constructor
  ·rintro (⟨t, h1, h2⟩ | h)
   ·exact ⟨t, by omega, h2⟩
   ·exact ⟨k, by omega, h⟩
  ·rintro ⟨t, h1, h2⟩
   by_cases e : t = k
   ·subst e; exact .inr h2
   ·exact .inl ⟨t, by omega, h2⟩
theorem prod95_cell {xa xb : List (List Bool)} {p q : Nat} (hp : p < xa.length) (hq : q < (xb.getD 0 []).length) : cellB (qgc xa xb) p q = dot95 (xa.getD p []) xb q xb.length := by
 have e : xa.getD p [] = xa[p] := by simp [List.getD, hp]
 have e1 : (qgc xa xb).getD p [] = (List.range (xb.getD 0 []).length).map fun j => dot95 xa[p] xb j xb.length := by
  unfold qgc
  rw [List.getD_eq_getElem?_getD, List.getElem?_map, List.getElem?_eq_getElem hp]
  rfl
 unfold cellB
 rw [e, e1, List.getD_eq_getElem?_getD, List.getElem?_map, List.getElem?_range hq]
 rfl
def RK (z : List (List UInt8)) (k p q : Nat) : Prop := cellB (descK z k) p q = true
theorem qga {z : List (List UInt8)} (h1 : 1 ≤ z.length) {k p q : Nat} (hp : p < z.length) (hq : q < z.length) : RK z (k + 1) p q ↔ ∃ t, t < z.length ∧ RK z k p t ∧ (RK z 0 t q ∨ t = q) := by
 obtain ⟨d1, d2⟩ := qet z z.length (Nat.le_refl _)
 obtain ⟨g1, -⟩ := qib z h1 k
 unfold RK
 show cellB (qgc (descK z k) (stayK z z.length)) p q = true ↔ _
 rw [prod95_cell (by omega) (by rw [d2 0 (by omega)]; exact hq), dot95_iff, d1]
 constructor
 ·rintro ⟨t, ht, r1, r2⟩
  rw [qif z z.length (Nat.le_refl _) t q ht hq, Bool.or_eq_true, decide_eq_true_eq] at r2
  refine ⟨t, ht, r1, ?_⟩
  rcases r2 with r2 | r2
  ·exact .inl r2
  ·exact .inr r2.1
 ·rintro ⟨t, ht, r1, r2⟩
  refine ⟨t, ht, r1, ?_⟩
  rw [qif z z.length (Nat.le_refl _) t q ht hq, Bool.or_eq_true, decide_eq_true_eq]
  rcases r2 with r2 | r2
  ·exact .inl r2
  ·exact .inr ⟨r2, ht⟩
theorem RK_up {z : List (List UInt8)} (h1 : 1 ≤ z.length) {k p q : Nat} (hp : p < z.length) (hq : q < z.length) (h : RK z k p q) : RK z (k + 1) p q := (qga h1 hp hq).2 ⟨q, hq, h, .inr rfl⟩
def cntR (z : List (List UInt8)) (k p : Nat) : Nat → Nat
 | 0 => 0
 | m + 1 => cntR z k p m + if cellB (descK z k) p m = true then 1 else 0
theorem cntR_le (z : List (List UInt8)) (k p : Nat) : ∀ m, cntR z k p m ≤ m
 | 0 => Nat.le_refl _
 | m + 1 => by have := cntR_le z k p m; unfold cntR; split <;> omega
theorem cntR_up {z : List (List UInt8)} (h1 : 1 ≤ z.length) {k p : Nat} (hp : p < z.length) : ∀ m, m ≤ z.length → cntR z k p m ≤ cntR z (k + 1) p m ∧ (cntR z k p m = cntR z (k + 1) p m → ∀ q, q < m → RK z (k + 1) p q → RK z k p q)
 | 0, _ => ⟨Nat.le_refl _, fun _ q hq => by omega⟩
 | m + 1, hm => by
  obtain ⟨g1, g2⟩ := cntR_up h1 (k := k) hp m (by omega)
  have hu := RK_up h1 (k := k) hp (show m < z.length by omega)
  unfold RK at hu g2 ⊢
  unfold cntR
  by_cases a : cellB (descK z k) p m = true
  ·rw [if_pos a, if_pos (hu a)]
   refine ⟨by omega, fun e q hq hd => ?_⟩
   rcases Nat.lt_or_ge q m with h | h
   ·exact g2 (by omega) q h hd
   ·obtain rfl : q = m := by omega
    exact a
  ·rw [if_neg a]
   by_cases b : cellB (descK z (k + 1)) p m = true
   ·rw [if_pos b]; exact ⟨by omega, fun e => by omega⟩
   ·rw [if_neg b]
    refine ⟨by omega, fun e q hq hd => ?_⟩
    rcases Nat.lt_or_ge q m with h | h
    ·exact g2 (by omega) q h hd
    ·obtain rfl : q = m := by omega
     exact absurd hd b
theorem RK_stop {z : List (List UInt8)} (h1 : 1 ≤ z.length) {p : Nat} (hp : p < z.length) : ∀ m, (∃ k, k < m ∧ ∀ q, q < z.length → RK z (k + 1) p q → RK z k p q) ∨ m ≤ cntR z m p z.length
 | 0 => .inr (Nat.zero_le _)
 | m + 1 => by
  rcases RK_stop h1 hp m with ⟨k, h2, h3⟩ | h
  ·exact .inl ⟨k, by omega, h3⟩
  ·obtain ⟨g1, g2⟩ := cntR_up h1 (k := m) hp z.length (Nat.le_refl _)
   by_cases e : cntR z m p z.length = cntR z (m + 1) p z.length
   ·exact .inl ⟨m, by omega, g2 e⟩
   ·exact .inr (by omega)
theorem RK_mono {z : List (List UInt8)} (h1 : 1 ≤ z.length) {k p q : Nat} (hp : p < z.length) (hq : q < z.length) (h : RK z k p q) : ∀ j, RK z (k + j) p q
 | 0 => h
 | j + 1 => RK_up h1 hp hq (RK_mono h1 hp hq h j)
theorem RK_all {z : List (List UInt8)} (h1 : 1 ≤ z.length) {p : Nat} (hp : p < z.length) (j : Nat) : ∀ q, q < z.length → RK z j p q → RK z z.length p q := by
 have hex : ∃ k, k ≤ z.length ∧ ∀ q, q < z.length → RK z (k + 1) p q → RK z k p q := by
  rcases RK_stop h1 hp (z.length + 1) with ⟨k, h2, h3⟩ | h
  ·exact ⟨k, by omega, h3⟩
  ·have := cntR_le z (z.length + 1) p z.length; omega
 obtain ⟨k, hk, hst⟩ := hex
 have hall : ∀ i q, q < z.length → RK z (k + i) p q → RK z k p q := by
  intro i
  induction i with
  | zero => exact fun q _ h => h
  | succ i ih =>
   intro q hq h
   refine hst q hq ?_
   have h' : RK z (k + i + 1) p q := h
   rw [qga h1 hp hq] at h' ⊢
   obtain ⟨t, ht, r1, r2⟩ := h'
   exact ⟨t, ht, ih t ht r1, r2⟩
 intro q hq h
 have h2 : RK z k p q := by
  rcases Nat.lt_or_ge j k with hlt | hge
  ·have := RK_mono h1 hp hq h (k - j)
   rw [show j + (k - j) = k by omega] at this
   exact hall 0 q hq this
  ·exact hall (j - k) q hq (by rw [show k + (j - k) = j by omega]; exact h)
 have := RK_mono h1 hp hq h2 (z.length - k)
 rwa [show k + (z.length - k) = z.length by omega] at this
theorem RK_trans {z : List (List UInt8)} (h1 : 1 ≤ z.length) {p t : Nat} (hp : p < z.length) (ht : t < z.length) (h : RK z z.length p t) : ∀ (j q : Nat), q < z.length → RK z j t q → RK z z.length p q
 | 0, q, hq, h2 => RK_all h1 hp (z.length + 1) q hq ((qga h1 hp hq).2 ⟨t, ht, h, .inl h2⟩)
 | j + 1, q, hq, h2 => by
  obtain ⟨u, hu, r1, r2⟩ := (qga h1 ht hq).1 h2
  have g := RK_trans h1 hp ht h j u hu r1
  rcases r2 with r2 | rfl
  ·exact RK_all h1 hp (z.length + 1) q hq ((qga h1 hp hq).2 ⟨u, hu, g, .inl r2⟩)
  ·exact g
end Go.Proofs.Ytfohppnelbbepaa.T
/- circles -/
open Go.Vm
set_option linter.unusedVariables false
set_option linter.unusedSectionVars false
namespace Go.Proofs.Ytfohppnelbbepaa.T
open Go
variable [Ovr]
def mxU (g : Nat → Nat) (c : Nat → Bool) : Nat → Nat
 | 0 => 0
 | j + 1 => if c j = true then max (mxU g c j) (g j) else mxU g c j
def circN (n : Nat) (x : List (List Bool)) : Nat → Nat → Nat
 | 0, _ => 0
 | f + 1, p => mxU (circN n x f) (fun q => cellB x q p && !cellB x p q) n + if cellB x p p = true then 1 else 0
theorem mxU_le {g : Nat → Nat} {c : Nat → Bool} {b : Nat} (h : ∀ q, g q ≤ b) : ∀ j, mxU g c j ≤ b
 | 0 => Nat.zero_le _
 | j + 1 => by
  have h1 := mxU_le (c := c) h j
  have h2 := h j
  unfold mxU
  split
  ·omega
  ·exact h1
theorem qkf (n : Nat) (x : List (List Bool)) : ∀ f p, circN n x f p ≤ f
 | 0, _ => Nat.le_refl _
 | f + 1, p => by
  have := mxU_le (c := fun q => cellB x q p && !cellB x p q) (qkf n x f) n
  unfold circN
  split <;> omega
def kids (x : List (List Bool)) (p : Nat) : Nat → Nat
 | 0 => 0
 | m + 1 => kids x p m + if (decide (m = p) || cellB x m p) = true then 1 else 0
theorem kids_le (x : List (List Bool)) (p : Nat) : ∀ m, kids x p m ≤ m
 | 0 => Nat.le_refl _
 | m + 1 => by have := kids_le x p m; unfold kids; split <;> omega
theorem kids_lt {x : List (List Bool)} {n p q : Nat} (htr : ∀ r s t, r < n → s < n → t < n → cellB x r s = true → cellB x s t = true → cellB x r t = true) (hp : p < n) (hq : q < n) (h1 : cellB x q p = true) (h2 : cellB x p q = false) : ∀ m, m ≤ n → kids x q m ≤ kids x p m ∧ (p < m → kids x q m < kids x p m)
 | 0, _ => ⟨Nat.le_refl _, fun h => by omega⟩
 | m + 1, hm => by
  obtain ⟨g1, g2⟩ := kids_lt htr hp hq h1 h2 m (by omega)
  have hne : p ≠ q := fun e => by subst e; rw [h1] at h2; cases h2
  have hsub : (decide (m = q) || cellB x m q) = true → (decide (m = p) || cellB x m p) = true := fun h => by
   rw [Bool.or_eq_true, decide_eq_true_eq] at h ⊢
   rcases h with rfl | h
   ·exact .inr h1
   ·exact .inr (htr m q p (by omega) hq hp h h1)
  unfold kids
  by_cases a : (decide (m = q) || cellB x m q) = true
  ·rw [if_pos a, if_pos (hsub a)]
   refine ⟨by omega, fun h => ?_⟩
   rcases Nat.lt_or_ge p m with h3 | h3
   ·have := g2 h3; omega
   ·obtain rfl : p = m := by omega
    rw [Bool.or_eq_true, decide_eq_true_eq] at a
    rcases a with a | a
    ·exact absurd a hne
    ·rw [a] at h2; cases h2
  ·rw [if_neg a]
   refine ⟨by split <;> omega, fun h => ?_⟩
   rcases Nat.lt_or_ge p m with h3 | h3
   ·have := g2 h3; split <;> omega
   ·obtain rfl : p = m := by omega
    have e : (decide (p = p) || cellB x p p) = true := by simp
    rw [if_pos e]; omega
section
variable {ro : List ABlk}
theorem mx_nat (a b : Nat) : mxV true (a : Int) (b : Int) = ((max a b : Nat) : Int) := by
 unfold mxV
 simp only [qji]
 by_cases h : a < b
 ·simp [h]; omega
 ·simp [h]; omega
theorem circles65 {z : List (List UInt8)} {x : List (List Bool)} (hz : VOk z) (hx : x.length = z.length) (hr : ∀ r ∈ x, r.length = z.length) (htr : ∀ r s t, r < z.length → s < z.length → t < z.length → cellB x r s = true → cellB x s t = true → cellB x r t = true) :
  ∀ (f : Nat), f ≤ 20 → ∀ {h : Heap} {v w : AVal} {p : Nat}, IsS ro h v z → IsM eB ro h w x → p < z.length → kids x p z.length ≤ f → callX F1 ro 65 [.agg [v, w], .i .i64 (p : Int)] h = some (.i .i64 ((circN z.length x f p : Nat) : Int), h, h.length, h.length)
 | 0, _, h, v, w, p, a, M, hp, hk => by
  have e : (decide (p = p) || cellB x p p) = true := by simp
  have : ∀ m, p < m → 1 ≤ kids x p m := fun m => by
   induction m with
   | zero => intro h; omega
   | succ m ih =>
    intro h
    unfold kids
    rcases Nat.lt_or_ge p m with h3 | h3
    ·have := ih h3; omega
    ·obtain rfl : p = m := by omega
     rw [if_pos e]; omega
  have := this _ hp
  omega
 | f + 1, hf, h, v, w, p, a, M, hp, hk => by
  have n6 := hz.h6
  obtain ⟨L, hL⟩ : ∃ L, L = h.length := ⟨_, rfl⟩
  obtain ⟨H, hH⟩ : ∃ H, H = h ++ [some (blkOf 85 [v, w])] := ⟨_, rfl⟩
  have b1 := box2 (ro := ro) (hp := h) (e := 85) (l := L) (p := L) (v := v) (w := w)
  rw [← hH, ← hL] at b1
  have lH : H.length = L + 1 := by rw [hH, hL]; simp
  have kH : Keep h H := by rw [hH]; exact Keep.app _
  have gH : Holds H L [v, w] := by rw [hH, hL]; exact Holds.new _ _ _
  have d0 := fun l q => (gH.ld (ro := ro) (k := 0) rfl l q).1
  have d1 := fun l q => (gH.ld (ro := ro) (k := 1) rfl l q).1
  have dA := gH.all (ro := ro) (l := L) (p := L) (n := 2) rfl
  have aH := S_by a kH
  have MH := M_by M kH
  have cell : ∀ i j, i < z.length → j < z.length → ∃ p2 u p3, evP .e (.ixS 1 (.c w) (.c (.i .i64 (i : Int)))) = some p2 ∧ (∀ l q, ldM ro ⟨H, l, q⟩ true 1 p2 = some u) ∧ evP .e (.ixS 1 (.c u) (.c (.i .i64 (j : Int)))) = some p3 ∧ ∀ l q, ldM ro ⟨H, l, q⟩ true 1 p3 = some (.b (cellB x i j)) := fun i j hi hj => by
   obtain ⟨g1, g2⟩ := qkd hx hr hi hj
   obtain ⟨p2, u, j1, j2, j3⟩ := at_M MH g1
   obtain ⟨p3, k1, k2⟩ := at_R j2 g2
   exact ⟨p2, u, p3, j1, fun l q => (j3 (hp := H) (l := l) (q := q) (Keep.refl H)).1, k1, fun l q => (k2 (hp := H) (l := l) (q := q) (Keep.refl H)).1⟩
  obtain ⟨c, hc⟩ : ∃ c : Nat → Bool, c = fun q => cellB x q p && !cellB x p q := ⟨_, rfl⟩
  have key : ∃ r, loopX (fun q : Int × Int × Mm => g65_b0 (qbs F1 ro) ro (p : Int) (.p (some ⟨false, L, 0⟩)) (z.length : Int) q.1 q.2.1 q.2.2) (0, 0, ⟨H, L, L⟩) = some r ∧ r = (((mxU (circN z.length x f) c z.length : Nat) : Int), ⟨H, L, L⟩) := by
   refine qbt z.length (fun i s => s = (((mxU (circN z.length x f) c i : Nat) : Int), (i : Int), ⟨H, L, L⟩)) _ ?_ ?_ z.length 0 _ (by omega) rfl
   ·rintro i s hi rfl
    obtain ⟨p2, u, p3, i1, i2, i3, i4⟩ := cell i p hi hp
    obtain ⟨p4, u', p5, j1, j2, j3, j4⟩ := cell p i hp hi
    have e : mxU (circN z.length x f) c (i + 1) = if c i = true then max (mxU (circN z.length x f) c i) (circN z.length x f i) else mxU (circN z.length x f) c i := rfl
    rw [e, hc]
    cases h1 : cellB x i p with
    | false =>
     rw [h1] at i4
     refine ⟨_, (by simp only [g65_b0, fB, ltT (show (i : Int) < (z.length : Int) by omega), cT, fa1, oS, d1, i1, i2, i3, i4, bS, cF, fI', nx (show i ≤ 1000000 by omega)] <;> rfl), by simp [h1]⟩
    | true =>
     rw [h1] at i4
     cases h2 : cellB x p i with
     | true =>
      rw [h2] at j4
      refine ⟨_, (by simp only [g65_b0, fB, ltT (show (i : Int) < (z.length : Int) by omega), cT, fa1, oS, d1, i1, i2, i3, i4, bS, j1, j2, j3, j4, nT, cF, fI', nx (show i ≤ 1000000 by omega)] <;> rfl), by simp [h1, h2]⟩
     | false =>
      rw [h2] at j4
      have hlt := (kids_lt htr hp hi h1 h2 z.length (Nat.le_refl _)).2 hp
      have crec := cp (l := L) (p := L) (circles65 hz hx hr htr f (by omega) (p := i) aH MH hi (by omega)) (by omega) (by omega)
      refine ⟨_, (by simp only [g65_b0, fB, ltT (show (i : Int) < (z.length : Int) by omega), cT, fa1, oS, d1, i1, i2, i3, i4, bS, j1, j2, j3, j4, nF, dA, mC, crec, pS, iS, fI', mx_nat, nx (show i ≤ 1000000 by omega)] <;> rfl), by simp [h1, h2]⟩
   ·rintro s rfl
    exact ⟨_, (by simp only [g65_b0, fB, ltF (Int.lt_irrefl _), cF] <;> rfl), rfl⟩
  obtain ⟨r, e1, rfl⟩ := key
  obtain ⟨p2, u, p3, i1, i2, i3, i4⟩ := cell p p hp hp
  have hle := mxU_le (c := c) (qkf z.length x f) z.length
  have ecirc : circN z.length x (f + 1) p = mxU (circN z.length x f) c z.length + if cellB x p p = true then 1 else 0 := by rw [hc]; rfl
  refine g65_ok (qav F1 ro) (Ovr.no rfl) ?_
  unfold g65
  rw [ecirc]
  cases hpp : cellB x p p with
  | true =>
   rw [hpp] at i4
   simp only [← hL, b1, pS, fa0, d0, oS, len_S aH, iS, qaw, e1, fa1, d1, i1, i2, i3, i4, bS, cT, fI', nx (show mxU (circN z.length x f) c z.length ≤ 1000000 by omega), if_true, tA]
   subst hL
   exact qce kH rfl
  | false =>
   rw [hpp] at i4
   simp only [← hL, b1, pS, fa0, d0, oS, len_S aH, iS, qaw, e1, fa1, d1, i1, i2, i3, i4, bS, cF, tA]
   subst hL
   exact qce kH rfl
end
end Go.Proofs.Ytfohppnelbbepaa.T
/- Kind -/
open Go.Vm
set_option linter.unusedVariables false
set_option linter.unusedSectionVars false
namespace Go.Proofs.Ytfohppnelbbepaa.T
open Go
variable [Ovr]
noncomputable def kindV (z : List (List UInt8)) (s : List UInt8) : Int × Int × Int :=
 if errS z s ≠ 0 then (0, 0, errS z s) else
 if (s.any fun b => expB z (descK z z.length) (ix b)) = true then (3, 0, 0) else
 if mxU (fun i => circN z.length (descK z z.length) z.length (ix (s.getD i 0))) (fun _ => true) s.length < 2 then (((mxU (fun i => circN z.length (descK z z.length) z.length (ix (s.getD i 0))) (fun _ => true) s.length : Nat) : Int), 0, 0) else
 (2, ((mxU (fun i => circN z.length (descK z z.length) z.length (ix (s.getD i 0))) (fun _ => true) s.length : Nat) : Int) - 1, 0)
theorem desc_tr {z : List (List UInt8)} (hz : VOk z) : ∀ r s t, r < z.length → s < z.length → t < z.length → cellB (descK z z.length) r s = true → cellB (descK z z.length) s t = true → cellB (descK z z.length) r t = true :=
 fun r s t hr hs ht h1 h2 => RK_trans hz.h1 hr hs h1 z.length t ht h2
section
variable {ro : List ABlk} {h hp : Heap}
set_option maxHeartbeats 1000000 in
theorem kind28 {v : AVal} {z : List (List UInt8)} {s : List UInt8} (a : IsS ro h v z) (hf : z.length ≤ 1000000 ∧ (∀ i, i < z.length → (z.getD i []).length ≤ 1000000) ∧ s.length ≤ 1000000) :
  callX F1 ro 28 [v, .s s] h = some (.tup [.i .i64 (kindV z s).1, .i .i64 (kindV z s).2.1, .i .i64 (kindV z s).2.2], h, h.length, h.length) := by
 refine g28_ok (qav F1 ro) (Ovr.no rfl) ?_
 unfold g28
 simp only [mC, cp0 (read60 (s := s) a hf.1 hf.2.1 hf.2.2), pS, x0, x1, oS, iS, fB]
 by_cases hS : errS z s = 0
 rotate_left
 ·have e : kindV z s = (0, 0, errS z s) := by unfold kindV; rw [if_pos hS]
  simp only [qfa hS, nF, cT, e, tA3]
  exact qbe rfl
 have e0 : eqI (errS z s) 0 = true := by rw [hS]; rfl
 have vok := VOk.of (qjm hS)
 have n6 := vok.h6
 obtain ⟨hs30, hsh⟩ := qiu hS
 obtain ⟨x, hx⟩ : ∃ x, x = descK z z.length := ⟨_, rfl⟩
 obtain ⟨xl, xr⟩ := qib z vok.h1 z.length
 have htr := desc_tr vok
 obtain ⟨w, H1, c63, k1, M1⟩ := descent63 (ro := ro) a vok
 rw [← hx] at xl xr htr M1
 obtain ⟨m, hm⟩ : ∃ m : Nat → Nat, m = fun i => circN z.length x z.length (ix (s.getD i 0)) := ⟨_, rfl⟩
 have hml : ∀ j, mxU m (fun _ => true) j ≤ z.length := mxU_le fun i => by rw [hm]; exact qkf _ _ _ _
 have e : kindV z s = if (s.any fun b => expB z x (ix b)) = true then ((3 : Int), (0 : Int), (0 : Int)) else if mxU m (fun _ => true) s.length < 2 then (((mxU m (fun _ => true) s.length : Nat) : Int), (0 : Int), (0 : Int)) else ((2 : Int), ((mxU m (fun _ => true) s.length : Nat) : Int) - 1, (0 : Int)) := by unfold kindV; rw [if_neg (fun e => e hS), hm, hx]
 obtain ⟨L, hL⟩ : ∃ L, L = h.length := ⟨_, rfl⟩
 have q1 := k1.1
 have c63' := cM (l := L) (p := L) c63 (by omega) (by omega)
 have b2 := al_ok (ro := ro) (hp := H1) (l := L) (p := L) 85 [AVal.nsl, AVal.nsl]
 obtain ⟨B, hB⟩ : ∃ B, B = H1.length := ⟨_, rfl⟩
 obtain ⟨H2, hH2⟩ : ∃ H2, H2 = H1 ++ [some (blkOf 85 [AVal.nsl, AVal.nsl])] := ⟨_, rfl⟩
 rw [← hH2, ← hB] at b2
 have k2 : Keep H1 H2 := by rw [hH2]; exact Keep.app _
 have g2 : Holds H2 B [AVal.nsl, AVal.nsl] := by rw [hH2, hB]; exact Holds.new _ _ _
 have hag : ones [v, w] = true := by
  have h1 : v.one = true := by rcases a with ⟨rfl, -⟩ | ⟨q, cap, blk, rfl, -⟩ <;> rfl
  have h2 : w.one = true := by rcases M1 with ⟨rfl, -⟩ | ⟨q, cap, blk, rfl, -⟩ <;> rfl
  simp [ones, h1, h2]
 obtain ⟨H3, s1, g3, l3, o3, kh3⟩ := g2.st (ro := ro) (h := h) (n := 2) (v := .agg [v, w]) (vs' := [v, w]) rfl rfl rfl hag (by omega) (k1.trans k2)
 rw [← hL] at s1
 have k3 : Keep H1 H3 := ⟨by have := k2.1; omega, fun i hi => by rw [o3 i (by omega), k2.2 i hi]⟩
 have dA := fun l p => g3.all (ro := ro) (l := l) (p := p) (n := 2) rfl
 have aH := S_by a kh3
 have MH := M_by M1 k3
 have hq3 := kh3.1
 have key : ∃ r, loopX (fun q : Int × Int × Mm => g28_b0 (qbs F1 ro) ro s (.p (some ⟨false, B, 0⟩)) (s.length : Int) q.1 q.2.1 q.2.2) (0, 0, ⟨H3, L, L⟩) = some r ∧ ((r = .inl (((mxU m (fun _ => true) s.length : Nat) : Int), ⟨H3, L, L⟩) ∧ ∀ i, i < s.length → expB z x (ix (s.getD i 0)) = false) ∨ (r = .inr (3, 0, 0, ⟨H3, L, L⟩) ∧ ∃ i, i < s.length ∧ expB z x (ix (s.getD i 0)) = true)) := by
  refine loop_exit s.length (fun i q => q = (((mxU m (fun _ => true) i : Nat) : Int), (i : Int), ⟨H3, L, L⟩) ∧ ∀ t, t < i → expB z x (ix (s.getD t 0)) = false) _ ?_ ?_ s.length 0 _ (by omega) ⟨rfl, fun t h => by omega⟩
  ·rintro i q hi ⟨rfl, hall⟩
   have hb := hsh i hi
   have hxl := ix_lt hb
   have c54 := cp (l := L) (p := L) (qhf (ro := ro) (h := H3) hb) (by omega) (by omega)
   have c64 := cp (l := L) (p := L) (explodes64 (ro := ro) aH vok MH xl xr hxl) (by omega) (by omega)
   have c65 := cp (l := L) (p := L) (circles65 (ro := ro) vok xl xr htr z.length (by omega) aH MH hxl (kids_le x _ _)) (by omega) (by omega)
   cases he : expB z x (ix (s.getD i 0)) with
   | true =>
    rw [he] at c64
    exact .inr ⟨_, (by simp only [g28_b0, fB, ltT (show (i : Int) < (s.length : Int) by omega), cT, qgl hi, oS, iS, mC, c54, pS, dA, c64, bS] <;> rfl), .inr ⟨rfl, i, hi, he⟩⟩
   | false =>
    rw [he] at c64
    have em : mxU m (fun _ => true) (i + 1) = max (mxU m (fun _ => true) i) (circN z.length x z.length (ix (s.getD i 0))) := by
     show (if (true : Bool) = true then max (mxU m (fun _ => true) i) (m i) else _) = _
     rw [if_pos rfl, hm]
    exact .inl ⟨_, (by simp only [g28_b0, fB, ltT (show (i : Int) < (s.length : Int) by omega), cT, qgl hi, oS, iS, mC, c54, pS, dA, c64, bS, cF, c65, fI', mx_nat, nx (show i ≤ 1000000 by omega)] <;> rfl), by rw [em], fun t ht => by
     rcases Nat.lt_or_ge t i with h | h
     ·exact hall t h
     ·obtain rfl : t = i := by omega
      exact he⟩
  ·rintro q ⟨rfl, hall⟩
   exact ⟨_, (by simp only [g28_b0, fB, ltF (Int.lt_irrefl _), cF] <;> rfl), .inl ⟨rfl, hall⟩⟩
 obtain ⟨r, e1, e2⟩ := key
 have fa : (fillA [AVal.nsl, AVal.nsl] [((0, 1), v), ((1, 1), w)]).map AVal.agg = some (.agg [v, w]) := by
  simp [fillA, cells_S a, (M_cells M1).1, splice]
 rw [e]
 simp only [← hL, e0, nT, cF, if_pos hS, c63', pS, fa, oS, b2, s1, qcr, iS, qaw, e1]
 rcases e2 with ⟨rfl, hall⟩ | ⟨rfl, i, hi, he⟩
 ·have hany : ¬ (s.any fun b => expB z x (ix b)) = true := fun h => by
   rw [List.any_eq_true] at h
   obtain ⟨b, hb, h2⟩ := h
   obtain ⟨i, hi, rfl⟩ := List.getElem_of_mem hb
   have := hall i hi
   rw [show s.getD i 0 = s[i] by simp [List.getD, hi], h2] at this
   cases this
  have := hml s.length
  rw [if_neg hany]
  by_cases h2 : mxU m (fun _ => true) s.length < 2
  ·rw [if_pos h2]
   simp only [ltT (show ((mxU m (fun _ => true) s.length : Nat) : Int) < 2 by omega), cT, tA3]
   subst hL
   exact qce kh3 rfl
  ·rw [if_neg h2]
   have w1 : wr .i64 (((mxU m (fun _ => true) s.length : Nat) : Int) - 1) = ((mxU m (fun _ => true) s.length : Nat) : Int) - 1 := wr_id' (by omega) (by omega)
   simp only [ltF (show ¬ ((mxU m (fun _ => true) s.length : Nat) : Int) < 2 by omega), cF, fI', w1, tA3]
   subst hL
   exact qce kh3 rfl
 ·have hany : (s.any fun b => expB z x (ix b)) = true := by
   rw [List.any_eq_true]
   exact ⟨s[i], List.getElem_mem hi, by rw [show s.getD i 0 = s[i] by simp [List.getD, hi]] at he; exact he⟩
  rw [if_pos hany]
  simp only [tA3]
  subst hL
  exact qce kh3 rfl
end
end Go.Proofs.Ytfohppnelbbepaa.T
/- circles and doubles of the reference -/
open Go.Vm
set_option linter.unusedVariables false
set_option linter.unusedSectionVars false
namespace Go.Proofs.Ytfohppnelbbepaa.T
open Go
variable [Ovr]
section
variable {ro : List ABlk}
end
end Go.Proofs.Ytfohppnelbbepaa.T
/- Warshall -/
open Go.Vm
set_option linter.unusedVariables false
set_option linter.unusedSectionVars false
namespace Go.Proofs.Ytfohppnelbbepaa.T
open Go
variable [Ovr]
/- Warshall: ways whose places between are below a number -/
end Go.Proofs.Ytfohppnelbbepaa.T
/- Matrices made by append -/
open Go.Vm
set_option linter.unusedVariables false
set_option linter.unusedSectionVars false
namespace Go.Proofs.Ytfohppnelbbepaa.T
open Go
variable [Ovr]
section
variable {ro : List ABlk} {h hp : Heap} {α : Type} {enc : α → AVal}
theorem Holds.wr {b k : Nat} {vs : List AVal} {w : AVal} (a : Holds hp b vs) (hk : k < vs.length) (h1 : w.one = true) (hc : w.cells = [w]) (hn : nonp [w] = true) : ∃ hp', (∀ l p, writesM ro [] [(⟨false, b, 0 + k⟩, AVal.cells w)] ⟨hp, l, p⟩ = some ⟨hp', min l b, p⟩) ∧ Holds hp' b (vs.set k w) ∧ hp'.length = hp.length ∧ ∀ i, i ≠ b → hp'[i]? = hp[i]? := by
 obtain ⟨blk, g1, g2, g3⟩ := a
 refine ⟨hp.set b (some { blk with c := blk.c.set k w }), fun l p => ?_, ⟨_, qfs g1 _, by simpa using g2, fun j hj => ?_⟩, by simp, fun i hi => List.getElem?_set_ne (Ne.symm hi)⟩
 ·have hw := wrH_heap (off := k) g1 (by omega : k < blk.n) h1
  have e : 0 + k = k := by omega
  rw [hc, e]
  simp only [writesM, writes, hw, hn, ckOk, if_true, St.mm]
 ·show (blk.c.set k w).get j = _
  rw [qdj]
  simp only [List.length_set] at hj
  by_cases e : k = j
  ·subst e; simp [List.getD, hj]
  ·rw [if_neg e, g3 j hj]
   simp [List.getD, List.getElem?_set_ne e]
end
end Go.Proofs.Ytfohppnelbbepaa.T
/- reach -/
open Go.Vm
set_option linter.unusedVariables false
set_option linter.unusedSectionVars false
namespace Go.Proofs.Ytfohppnelbbepaa.T
open Go
variable [Ovr]
section
variable {ro : List ABlk} {h hp : Heap}
def rowE (z : List (List UInt8)) (p : Nat) : List Bool := (List.range z.length).map fun q => (z.getD p []).any fun b => decide (ix b = q)
def matE (z : List (List UInt8)) (i : Nat) : List (List Bool) := (List.range i).map (rowE z)
theorem matE_cell {z : List (List UInt8)} (hz : VOk z) {p q : Nat} (hp : p < z.length) (hq : q < z.length) : cellB (matE z z.length) p q = true ↔ RK z 0 q p := by
 have h6 := hz.h6
 have e1 : cellB (matE z z.length) p q = (z.getD p []).any fun b => decide (ix b = q) := by simp [cellB, matE, List.getD, hp, rowE, hq]
 have e2 : cellB (mat93 z) q p = cB ((z.getD p []).count (UInt8.ofNat (97 + q))) := by simp [cellB, mat93, List.getD, hp, hq]
 unfold RK
 show _ ↔ cellB (mat93 z) q p = true
 rw [e1, e2, List.any_eq_true]
 simp only [cB, decide_eq_true_eq, List.count_pos_iff]
 constructor
 ·rintro ⟨b, hb, rfl⟩
  obtain ⟨i, hi, rfl⟩ := List.getElem_of_mem hb
  have := hz.hh p hp i hi
  have e3 : (z.getD p []).getD i 0 = (z.getD p [])[i] := by rw [List.getD_eq_getElem?_getD (l := z.getD p []), List.getElem?_eq_getElem hi]; rfl
  rw [e3] at this
  have e4 : UInt8.ofNat (97 + ix (z.getD p [])[i]) = (z.getD p [])[i] := by
   refine UInt8.toNat_inj.1 ?_
   rw [UInt8.toNat_ofNat']
   have h1 := this.1
   have h2 := ((z.getD p [])[i]).toNat_lt
   unfold ix
   omega
  rw [e4]; exact hb
 ·exact fun hb => ⟨_, hb, ix_ofNat (by omega)⟩
end
end Go.Proofs.Ytfohppnelbbepaa.T
/- Kind of the reference, law 5 -/
open Go.Vm
set_option linter.unusedVariables false
set_option linter.unusedSectionVars false
namespace Go.Proofs.Ytfohppnelbbepaa.T
open Go
variable [Ovr]
section
variable {ro : List ABlk} {h hp : Heap}
end
end Go.Proofs.Ytfohppnelbbepaa.T

/- Contracts of the functions: what each of them answers. -/
import Derived.Test.YtfohppnelbbepaaVmK0
/- Counts of the reference -/
open Go.Vm
set_option linter.unusedVariables false
set_option linter.unusedSectionVars false
namespace Go.Proofs.Ytfohppnelbbepaa.T
open Go
variable [Ovr]
section
variable {ro : List ABlk} {h hp : Heap}
theorem grw_first (z : List (List UInt8)) (y : Nat) : ∀ s, grw z (y + 1) s = grw z y (grw z 1 s)
 | [] => by cases y <;> rfl
 | b :: s => by
  have e : grw z 1 (b :: s) = z.getD (ix b) [] ++ grw z 1 s := rfl
  have e2 : grw z (y + 1) (b :: s) = grw z y (z.getD (ix b) []) ++ grw z (y + 1) s := rfl
  rw [e, grw_app, e2, grw_first z y s]
theorem grw_last (z : List (List UInt8)) : ∀ y s, grw z (y + 1) s = grw z 1 (grw z y s)
 | 0, s => rfl
 | y + 1, s => by rw [grw_first z (y + 1) s, grw_last z y (grw z 1 s), ← grw_first z y s]
theorem grw_has {z : List (List UInt8)} (hz : VOk z) : ∀ {y : Nat} {s : List UInt8}, has z.length s → has z.length (grw z y s)
 | 0, s, h => h
 | y + 1, s, h => by
  rw [qcu]
  intro c hc
  have hc' : c ∈ s.flatMap fun b => grw z y (z.getD (ix b) []) := hc
  rw [List.mem_flatMap] at hc'
  obtain ⟨b, hb, hcb⟩ := hc'
  exact qcu.1 (grw_has hz (hz.hh _ (ix_lt (qcu.1 h b hb)))) c hcb
theorem count_one {n : Nat} (hn : n ≤ 100) {b : UInt8} (hb : isL n b) {q : Nat} (hq : q < n) : (if b == lt q then 1 else 0) = if q = ix b then 1 else 0 := by
 by_cases e : q = ix b
 ·subst e
  rw [lt_ix hb hn]; simp
 ·rw [if_neg e, if_neg]
  intro e2
  have e3 : b = lt q := by simpa using e2
  rw [e3, ix_lt' (by omega)] at e
  exact e rfl
theorem count_flat {z : List (List UInt8)} {n : Nat} (hn : n ≤ 100) (c : UInt8) : ∀ {w : List UInt8}, has n w → (grw z 1 w).count c = sumT (fun q => w.count (lt q) * (z.getD q []).count c) n
 | [], _ => by
  rw [qes (g := fun _ => 0) fun t _ => by simp, sumT_zero]; rfl
 | b :: w, h => by
  have hb : isL n b := qcu.1 h b List.mem_cons_self
  have hw : has n w := qcu.2 fun x hx => qcu.1 h x (List.mem_cons_of_mem _ hx)
  have e : grw z 1 (b :: w) = z.getD (ix b) [] ++ grw z 1 w := rfl
  rw [e, List.count_append, count_flat hn c hw]
  have e2 : sumT (fun q => (b :: w).count (lt q) * (z.getD q []).count c) n = sumT (fun q => w.count (lt q) * (z.getD q []).count c + if q = ix b then (z.getD q []).count c else 0) n := by
   refine qes fun q hq => ?_
   rw [List.count_cons, count_one hn hb hq, Nat.add_mul]
   congr 1
   split <;> simp
  rw [e2, sumT_add, sumT_one (f := fun q => (z.getD q []).count c) (ix_lt hb)]
  omega
def cRow (z : List (List UInt8)) (y : Nat) (s : List UInt8) : List Nat := (List.range z.length).map fun p => sat ((grw z y s).count (lt p))
theorem cRow_get (z : List (List UInt8)) (y : Nat) (s : List UInt8) {p : Nat} (hp : p < z.length) : (cRow z y s)[p]? = some (sat ((grw z y s).count (lt p))) := by simp [cRow, hp]
def rowU (n : Nat) (f : Nat → Nat) : List AVal := (List.range n).map fun p => eU (f p)
theorem rowU_new {H : Heap} {e n : Nat} : Holds (H ++ [some (blkOf e (rep [AVal.i IntKind.u64 0] n))]) H.length (rowU n fun _ => 0) := by
 have h0 := Holds.new H e (rep [AVal.i IntKind.u64 0] n)
 have e : rowU n (fun _ => 0) = List.replicate n (AVal.i IntKind.u64 0) := by
  refine List.ext_getElem? fun i => ?_
  rcases Nat.lt_or_ge i n with hi | hi
  ·simp [rowU, hi]
  ·rw [List.getElem?_eq_none (by simpa [rowU] using hi), List.getElem?_eq_none (by simpa using hi)]
 rw [e, ← qdu]; exact h0
theorem rowU_ld {K : Heap} {b n p : Nat} {f : Nat → Nat} (a : Holds K b (rowU n f)) (hp : p < n) (l q : Nat) : ldM ro ⟨K, l, q⟩ true 1 (.p (some ⟨false, b, 0 + p⟩)) = some (.i .u64 ((f p : Nat) : Int)) :=
 (a.ld (ro := ro) (k := p) (w := eU (f p)) (by simp [rowU, hp]) l q).1
theorem rowU_put {K : Heap} {b n p x : Nat} {f g : Nat → Nat} (a : Holds K b (rowU n f)) (hp : p < n) (hg : ∀ t, t < n → t ≠ p → g t = f t) (hx : g p = x) : ∃ K', (∀ l q, stepM ro ⟨K, l, q⟩ (.st 1 (.c (.p (some ⟨false, b, 0 + p⟩))) (.c (.i .u64 (x : Int)))) = some (und, ⟨K', min l b, q⟩)) ∧ Holds K' b (rowU n g) ∧ K'.length = K.length ∧ ∀ i, i ≠ b → K'[i]? = K[i]? := by
 obtain ⟨K', s1, g1, n1, o1⟩ := a.put (ro := ro) (k := p) (w := eU x) (by simp [rowU, hp]) rfl rfl
 refine ⟨K', fun l q => ?_, ?_, n1, o1⟩
 ·have := s1 l q
  rwa [show nonp [eU x] = true from rfl, cond_true] at this
 ·unfold rowU at g1
  rw [setF (g := fun t => eU (g t))] at g1
  ·exact g1
  ·intro t ht hne; simp only [hg t ht hne]
  ·intro _; simp only [hx]
theorem count_take {s : List UInt8} {j p : Nat} (hj : j < s.length) {n : Nat} (hn : n ≤ 100) (hb : isL n (s.getD j 0)) (hp : p < n) : (s.take (j + 1)).count (lt p) = (s.take j).count (lt p) + if p = ix (s.getD j 0) then 1 else 0 := by
 rw [take_snoc 0 hj, List.count_append]
 congr 1
 rw [← count_one hn hb hp]
 simp [List.count_cons]
theorem sat_mulC {a b x : Nat} (h : sat a = sat b) : sat (a * x) = sat (b * x) := by
 rcases Nat.eq_zero_or_pos x with rfl | hx
 ·rw [Nat.mul_zero, Nat.mul_zero]
 ·have h1 : a ≤ a * x := Nat.le_mul_of_pos_right a hx
  have h2 : b ≤ b * x := Nat.le_mul_of_pos_right b hx
  by_cases e : a = b
  ·rw [e]
  ·unfold sat at *; omega
theorem sat_sum {f g : Nat → Nat} : ∀ {n : Nat}, (∀ t, t < n → sat (f t) = sat (g t)) → sat (sumT f n) = sat (sumT g n)
 | 0, _ => rfl
 | n + 1, h => by
  have h1 := sat_sum (f := f) (g := g) (n := n) fun t ht => h t (by omega)
  have h2 := h n (by omega)
  show sat (sumT f n + f n) = sat (sumT g n + g n)
  rw [← sat_add, h1, h2, sat_add]
set_option maxHeartbeats 2000000 in
theorem counts58 {v : AVal} {z : List (List UInt8)} {s : List UInt8} {y : Nat} (a : IsS ro h v z) (hz : VOk z) (hs : has z.length s) (hsl : s.length ≤ 1000000) (hy : y ≤ 1000) :
  ∃ w H, callX F1 ro 58 [v, .s s, .i .i64 (y : Int)] h = some (w, H, h.length, h.length) ∧ Keep h H ∧ IsR eU ro H w (cRow z y s) := by
 obtain ⟨n, hn⟩ : ∃ n, n = z.length := ⟨_, rfl⟩
 have n1 := hz.h1
 have n6 := hz.h6
 obtain ⟨L, hL⟩ : ∃ L, L = h.length := ⟨_, rfl⟩
 have hm := mk_ok (ro := ro) (hp := h) (e := 60) (es := 1) (bytes := 8) (z := [AVal.i IntKind.u64 0]) (n := n) (l := L) (p := L) (by omega) (by omega)
 obtain ⟨H1, hH1⟩ : ∃ H1, H1 = h ++ [some (blkOf 60 (rep [AVal.i IntKind.u64 0] n))] := ⟨_, rfl⟩
 have hnew : Holds H1 L (rowU n fun _ => 0) := by rw [hH1, hL]; exact rowU_new
 rw [← hH1, ← hL] at hm
 have l1 : H1.length = L + 1 := by rw [hH1, hL]; simp
 have k1 : Keep h H1 := by rw [hH1]; exact Keep.app _
 -- the first year
 have key0 : ∃ r, loopX (fun q : Int × Mm => g58_b0 (qbn F1 ro) ro v s (y : Int) (.sl ⟨false, L, 0⟩ n (.known n)) q.1 q.2) (0, ⟨H1, L, L⟩) = some r ∧ ∃ K, r = ⟨K, L, L⟩ ∧ K.length = H1.length ∧ (∀ t, t ≠ L → K[t]? = H1[t]?) ∧ Holds K L (rowU n fun p => (s.take s.length).count (lt p)) := by
  refine qbo s.length (fun j q => ∃ K, q = ((j : Int), ⟨K, L, L⟩) ∧ K.length = H1.length ∧ (∀ t, t ≠ L → K[t]? = H1[t]?) ∧ Holds K L (rowU n fun p => (s.take j).count (lt p))) _ ?_ ?_ s.length 0 _ (by omega) ⟨H1, rfl, rfl, fun _ _ => rfl, by simpa using hnew⟩
  ·rintro j q hj ⟨K, rfl, lK, oK, hK⟩
   have hb := hs j hj
   rw [← hn] at hb
   have hx := ix_lt hb
   have e2 : ix (s.getD j 0) ≤ 255 := by unfold ix; have := (s.getD j 0).toNat_lt; omega
   have m1 := rowU_ld (ro := ro) hK hx L L
   have hcl : (s.take j).count (lt (ix (s.getD j 0))) ≤ 1000000 := by
    have := List.count_le_length (a := lt (ix (s.getD j 0))) (l := s.take j)
    rw [List.length_take] at this; omega
   obtain ⟨K', s1, g1, n1', o1⟩ := rowU_put (ro := ro) (g := fun p => (s.take (j + 1)).count (lt p)) (x := (s.take j).count (lt (ix (s.getD j 0))) + 1) hK hx (fun t ht hne => by simp only [count_take hj (by omega : n ≤ 100) hb ht, if_neg hne]; omega) (by simp only [count_take hj (by omega : n ≤ 100) hb hx, if_true])
   have s1' := s1 L L
   rw [Nat.min_self] at s1'
   have e3 : wr .u64 ((((s.take j).count (lt (ix (s.getD j 0))) : Nat) : Int) + 1) = (((s.take j).count (lt (ix (s.getD j 0))) + 1 : Nat) : Int) := by rw [wr_u64 (by omega) (by omega)]; omega
   exact ⟨_, (by simp only [g58_b0, qbr, oS, iS, fB, ltT (show (j : Int) < (s.length : Int) by omega), cT, qde hj, fI', sub97 hb.1, lt64 (show ix (s.getD j 0) ≤ 9223372036854775807 by omega), qcx hx, m1, e3, s1', pS, nx (show j ≤ 1000000 by omega)] <;> rfl), K', rfl, by omega, fun t ht => by rw [o1 t ht, oK t ht], g1⟩
  ·rintro q ⟨K, rfl, lK, oK, hK⟩
   exact ⟨_, (by simp only [g58_b0, qbr, oS, iS, fB, ltF (Int.lt_irrefl _), cF] <;> rfl), K, rfl, lK, oK, hK⟩
 obtain ⟨r0, q0, K0, rfl, lK0, oK0, hK0⟩ := key0
 have kK0 : Keep h K0 := ⟨by omega, fun i hi => by rw [oK0 i (by omega), k1.2 i hi]⟩
 rw [List.take_length] at hK0
 -- year by year
 have key1 : ∃ r, loopX (fun q : AVal × Int × Mm => g58_b1 (qbn F1 ro) ro v (y : Int) q.1 q.2.1 q.2.2) (.sl ⟨false, L, 0⟩ n (.known n), 0, ⟨K0, L, L⟩) = some r ∧ ∃ b J, r = (.sl ⟨false, b, 0⟩ n (.known n), ⟨J, L, L⟩) ∧ L ≤ b ∧ Keep h J ∧ ∃ f, Holds J b (rowU n f) ∧ ∀ p, p < n → sat (f p) = sat ((grw z y s).count (lt p)) ∧ f p ≤ 9223372036854775808 := by
  refine qbo y (fun i q => ∃ b J, q = (.sl ⟨false, b, 0⟩ n (.known n), (i : Int), ⟨J, L, L⟩) ∧ L ≤ b ∧ Keep h J ∧ ∃ f, Holds J b (rowU n f) ∧ ∀ p, p < n → sat (f p) = sat ((grw z i s).count (lt p)) ∧ f p ≤ 9223372036854775808) _ ?_ ?_ y 0 _ (by omega) ⟨L, K0, rfl, Nat.le_refl _, kK0, _, hK0, fun p hp => ⟨rfl, ?_⟩⟩
  rotate_left
  ·rintro q ⟨b, J, rfl, hb, kJ, f, hJ, hfp⟩
   exact ⟨_, (by simp only [g58_b1, fB, ltF (Int.lt_irrefl _), cF] <;> rfl), b, J, rfl, hb, kJ, f, hJ, hfp⟩
  ·have := List.count_le_length (a := lt p) (l := s); omega
  ·rintro i q hi ⟨b, J, rfl, hb, kJ, f, hJ, hfp⟩
   have hJl := kJ.1
   have hbJ := hJ.lt
   have hm2 := mk_ok (ro := ro) (hp := J) (e := 60) (es := 1) (bytes := 8) (z := [AVal.i IntKind.u64 0]) (n := n) (l := L) (p := L) (by omega) (by omega)
   obtain ⟨B, hB⟩ : ∃ B, B = J.length := ⟨_, rfl⟩
   obtain ⟨J1, hJ1⟩ : ∃ J1, J1 = J ++ [some (blkOf 60 (rep [AVal.i IntKind.u64 0] n))] := ⟨_, rfl⟩
   have hnew2 : Holds J1 B (rowU n fun _ => 0) := by rw [hJ1, hB]; exact rowU_new
   rw [← hJ1, ← hB] at hm2
   have lJ1 : J1.length = B + 1 := by rw [hJ1, hB]; simp
   have kJ1 : Keep J J1 := by rw [hJ1]; exact Keep.app _
   have hgh : has n (grw z i s) := by rw [hn]; exact grw_has hz hs
   -- the cells while the part q is under way
   obtain ⟨A, hA⟩ : ∃ A : Nat → Nat → Nat → Nat, A = fun q j p => sumT (fun t => f t * (z.getD t []).count (lt p)) q + f q * ((z.getD q []).take j).count (lt p) := ⟨_, rfl⟩
   have key2 : ∃ r, loopX (fun q : Int × Mm => g58_b2 (qbn F1 ro) ro v (y : Int) (.sl ⟨false, b, 0⟩ n (.known n)) (i : Int) (.sl ⟨false, B, 0⟩ n (.known n)) q.1 q.2) (0, ⟨J1, L, L⟩) = some r ∧ ∃ K, r = ⟨K, L, L⟩ ∧ K.length = J1.length ∧ (∀ t, t ≠ B → K[t]? = J1[t]?) ∧ Holds K B (rowU n fun p => sat (A n 0 p)) := by
    refine qbo n (fun q u => ∃ K, u = ((q : Int), ⟨K, L, L⟩) ∧ K.length = J1.length ∧ (∀ t, t ≠ B → K[t]? = J1[t]?) ∧ Holds K B (rowU n fun p => sat (A q 0 p))) _ ?_ ?_ n 0 _ (by omega) ⟨J1, rfl, rfl, fun _ _ => rfl, ?_⟩
    rotate_left
    ·rintro u ⟨K, rfl, lK, oK, hK⟩
     have khK : Keep h K := kJ.trans ⟨by omega, fun t ht => by rw [oK t (by omega), kJ1.2 t ht]⟩
     exact ⟨_, (by simp only [g58_b2, len_S (S_by a khK), oS, iS, fB, ← hn, ltF (Int.lt_irrefl _), cF] <;> rfl), K, rfl, lK, oK, hK⟩
    ·have : (fun p => sat (A 0 0 p)) = fun _ => 0 := by funext p; simp [hA, sumT, sat]
     rw [this]; exact hnew2
    ·rintro q u hq ⟨K, rfl, lK, oK, hK⟩
     have kJK : Keep J K := ⟨by omega, fun t ht => by rw [oK t (by omega), kJ1.2 t ht]⟩
     have khK : Keep h K := kJ.trans kJK
     obtain ⟨t, ht⟩ : ∃ t, t = z.getD q [] := ⟨_, rfl⟩
     have htl : t.length ≤ 8 := by rw [ht]; exact hz.h8 q (by omega)
     have hth : has n t := by rw [ht, hn]; exact hz.hh q (by omega)
     have key3 : ∃ r, loopX (fun u : Int × Mm => g58_b3 (qbn F1 ro) ro v (y : Int) (.sl ⟨false, b, 0⟩ n (.known n)) (i : Int) (.sl ⟨false, B, 0⟩ n (.known n)) (q : Int) u.1 u.2) (0, ⟨K, L, L⟩) = some r ∧ ∃ Q, r = ⟨Q, L, L⟩ ∧ Q.length = J1.length ∧ (∀ t, t ≠ B → Q[t]? = J1[t]?) ∧ Holds Q B (rowU n fun p => sat (A q t.length p)) := by
      refine qbo t.length (fun j u => ∃ Q, u = ((j : Int), ⟨Q, L, L⟩) ∧ Q.length = J1.length ∧ (∀ t, t ≠ B → Q[t]? = J1[t]?) ∧ Holds Q B (rowU n fun p => sat (A q j p))) _ ?_ ?_ t.length 0 _ (by omega) ⟨K, rfl, lK, oK, hK⟩
      ·rintro j u hj ⟨Q, rfl, lQ, oQ, hQ⟩
       have kQ : Keep J Q := ⟨by omega, fun t ht => by rw [oQ t (by omega), kJ1.2 t ht]⟩
       obtain ⟨p1, i1, i2⟩ := at_S a (show q < z.length by omega)
       rw [← ht] at i2
       have i2' := fun l r => (i2 (hp := Q) (l := l) (q := r) (kJ.trans kQ)).1
       have hbj := hth j hj
       have hx := ix_lt hbj
       have e2 : ix (t.getD j 0) ≤ 255 := by unfold ix; have := (t.getD j 0).toNat_lt; omega
       have m1 := rowU_ld (ro := ro) hQ hx Q.length Q.length
       have m2 := rowU_ld (ro := ro) (hJ.by kQ) hq Q.length Q.length
       have e1 := plus87 (ro := ro) (h := Q) (sat_le (A q j (ix (t.getD j 0)))) (hfp q hq).2
       rw [sat_addL] at e1
       have hAj : ∀ p, p < n → A q (j + 1) p = A q j p + if p = ix (t.getD j 0) then f q else 0 := fun p hp => by
        simp only [hA, ← ht, count_take hj (show n ≤ 100 by omega) hbj hp, Nat.mul_add]
        split <;> omega
       obtain ⟨Q2, s1, g1, n1', o1⟩ := rowU_put (ro := ro) (g := fun p => sat (A q (j + 1) p)) (x := sat (A q j (ix (t.getD j 0)) + f q)) hQ hx (fun p hp hne => by simp only [hAj p hp, if_neg hne, Nat.add_zero]) (by simp only [hAj _ hx, if_true])
       have s1' := s1 Q.length Q.length
       refine ⟨_, (by simp only [g58_b3, i1, oS, i2', sS, qbr, iS, fB, ltT (show (j : Int) < (t.length : Int) by omega), cT, qde hj, fI', sub97 hbj.1, lt64 (show ix (t.getD j 0) ≤ 9223372036854775807 by omega), baseL, qcx hx, m1, qcx (show q < n from hq), m2, mC, cp0 e1, pS, s1', joinL (show L ≤ min Q.length B by omega) (show L ≤ Q.length by omega), nx (show j ≤ 1000000 by omega)] <;> rfl), Q2, rfl, by omega, fun r hr => by rw [o1 r hr, oQ r hr], g1⟩
      ·rintro u ⟨Q, rfl, lQ, oQ, hQ⟩
       have kQ : Keep J Q := ⟨by omega, fun t ht => by rw [oQ t (by omega), kJ1.2 t ht]⟩
       obtain ⟨p1, i1, i2⟩ := at_S a (show q < z.length by omega)
       rw [← ht] at i2
       have i2' := fun l r => (i2 (hp := Q) (l := l) (q := r) (kJ.trans kQ)).1
       exact ⟨_, (by simp only [g58_b3, i1, oS, i2', sS, qbr, iS, fB, ltF (Int.lt_irrefl _), cF] <;> rfl), Q, rfl, lQ, oQ, hQ⟩
     obtain ⟨r, q3, Q, rfl, lQ, oQ, hQ⟩ := key3
     refine ⟨_, (by simp only [g58_b2, len_S (S_by a khK), oS, iS, fB, ← hn, ltT (show (q : Int) < (n : Int) by omega), cT, qat, q3, fI', nx (show q ≤ 1000000 by omega)] <;> rfl), Q, rfl, lQ, oQ, ?_⟩
     have : (fun p => sat (A q t.length p)) = fun p => sat (A (q + 1) 0 p) := by
      funext p
      simp only [hA, ← ht, List.take_length, List.take_zero, List.count_nil, Nat.mul_zero, Nat.add_zero]
      rw [ht]; rfl
     rw [this] at hQ
     exact hQ
   obtain ⟨r, q2, K, rfl, lK, oK, hK⟩ := key2
   have kJK : Keep J K := ⟨by omega, fun t ht => by rw [oK t (by omega), kJ1.2 t ht]⟩
   refine ⟨_, (by simp only [g58_b1, fB, ltT (show (i : Int) < (y : Int) by omega), cT, len_S (S_by a kJ), oS, iS, ← hn, hm2, pS, qat, q2, fI', nx (show i ≤ 1000000 by omega)] <;> rfl), B, K, rfl, by omega, kJ.trans kJK, _, hK, fun p hp => ⟨?_, sat_le _⟩⟩
   have hAn : A n 0 p = sumT (fun t => f t * (z.getD t []).count (lt p)) n := by simp [hA]
   show sat (sat (A n 0 p)) = _
   rw [sat_sat, hAn, grw_last, count_flat (show n ≤ 100 by omega) (lt p) hgh]
   exact sat_sum fun t ht => sat_mulC (hfp t ht).1
 obtain ⟨r1, q1, b, J, rfl, hb, kJ, f, hJ, hfp⟩ := key1
 have hbel : (AVal.sl ⟨false, b, 0⟩ n (.known n)).bel h.length = false := by
  have : Nat.blt b h.length = false := by rw [← Bool.not_eq_true, Nat.blt_eq]; omega
  simp [AVal.bel, this]
 obtain ⟨H, f1, f2, f3⟩ := fin_any (w := .sl ⟨false, b, 0⟩ n (.known n)) kJ
 obtain rfl := f3 hbel
 refine ⟨_, H, g58_ok (qax F1 ro) (Ovr.no rfl) (?_ : _ = some (AVal.sl ⟨false, b, 0⟩ n (.known n), H, h.length, h.length)), kJ, ?_⟩
 ·unfold g58
  rw [← hL] at f1 ⊢
  simp only [len_S a, oS, iS, ← hn, hm, pS, qat, q0, q1, tA]
  exact f1
 ·have e : rowU n f = (cRow z y s).map eU := by
   unfold rowU cRow
   rw [List.map_map, hn]
   refine List.map_congr_left fun p hp => ?_
   have hp' : p < n := by rw [hn]; exact List.mem_range.1 hp
   obtain ⟨g1, g2⟩ := hfp p hp'
   have : sat (f p) = f p := by unfold sat; omega
   show eU (f p) = eU (sat _)
   rw [← g1, this]
  rw [e] at hJ
  have hl : (cRow z y s).length = n := by simp [cRow, hn]
  exact hJ.R _ hl.symm
end
end Go.Proofs.Ytfohppnelbbepaa.T
/- Buds of the reference, Endless -/
open Go.Vm
set_option linter.unusedVariables false
set_option linter.unusedSectionVars false
namespace Go.Proofs.Ytfohppnelbbepaa.T
open Go
variable [Ovr]
section
variable {ro : List ABlk} {h hp : Heap}
theorem RowG.row {L e : Nat} {v : AVal} {z : List Int} (g : RowG hp L e v (z.map (AVal.i .i64))) : IsRow ro hp v z := by
 rcases g with ⟨rfl, h⟩ | ⟨b, blk, rfl, h2, h3, h4, h5, h6, h7⟩
 ·exact .inl ⟨rfl, by simpa using h⟩
 ·rw [List.length_map] at h6 h7 ⊢
  refine .inr ⟨_, _, blk, rfl, qdj h4 0, by show 0 + z.length ≤ _; omega, fun j hj => ?_⟩
  rw [Nat.zero_add, h7 j hj]
  simp [List.getD, hj]
theorem count_zero {n : Nat} (hn : n ≤ 100) {w : List UInt8} (h : has n w) : (∃ p, p < n ∧ w.count (lt p) ≠ 0) ↔ w.length ≠ 0 := by
 constructor
 ·rintro ⟨p, -, h2⟩ h0
  rw [List.length_eq_zero_iff.1 h0] at h2
  exact h2 rfl
 ·intro h0
  cases w with
  | nil => exact absurd rfl h0
  | cons b w =>
   have hb : isL n b := qcu.1 h b List.mem_cons_self
   refine ⟨ix b, ix_lt hb, ?_⟩
   rw [lt_ix hb hn]
   have := List.count_pos_iff.2 (List.mem_cons_self (a := b) (l := w))
   omega
def dieR (z : List (List UInt8)) (s : List UInt8) : Int := match dieY z s with
 | some y => (y : Int)
 | none => -1
theorem dies62 {v : AVal} {z : List (List UInt8)} {s : List UInt8} (a : IsS ro h v z) (hz : VOk z) (hs : s.length ≤ 1000000) (hh : has z.length s) : callX F1 ro 62 [v, .s s] h = some (.i .i64 (dieR z s), h, h.length, h.length) := by
 have n6 := hz.h6
 obtain ⟨n, hn⟩ : ∃ n, n = z.length := ⟨_, rfl⟩
 obtain ⟨L, hL⟩ : ∃ L, L = h.length := ⟨_, rfl⟩
 have key : ∃ r, loopX (fun q : Int × Mm => g62_b0 (qbn F1 ro) ro v s q.1 q.2) (0, ⟨h, L, L⟩) = some r ∧ ∃ J, Keep h J ∧ ((r = .inl ⟨J, L, L⟩ ∧ ∀ y, y < z.length + 1 → lenS z y s ≠ 0) ∨ ∃ y : Nat, r = .inr ((y : Int), ⟨J, L, L⟩) ∧ y ≤ z.length ∧ lenS z y s = 0 ∧ ∀ y', y' < y → lenS z y' s ≠ 0) := by
  refine loop_exit (z.length + 1) (fun y q => ∃ J, q = ((y : Int), ⟨J, L, L⟩) ∧ Keep h J ∧ ∀ y', y' < y → lenS z y' s ≠ 0) _ ?_ ?_ (z.length + 1) 0 _ (by omega) ⟨h, rfl, Keep.refl _, fun y' h => by omega⟩
  ·rintro y q hy ⟨J, rfl, kJ, hall⟩
   have hlJ := kJ.1
   obtain ⟨w, H, c1, k1, R⟩ := counts58 (ro := ro) (S_by a kJ) hz hh hs (y := y) (by omega)
   have hH := k1.1
   have c1' := cM (l := L) (p := L) c1 (by omega) (by omega)
   have hg := grw_has hz (y := y) hh
   rw [← hn] at hg
   have hlen : (grw z y s).length = lenS z y s := grw_len z y s
   have inner : ∃ r, loopX (fun q : Bool × Int => g62_b1 (qbn F1 ro) ro v s (y : Int) w ⟨H, L, L⟩ q.1 q.2) (false, 0) = some r ∧ (r = true ↔ ∃ p, p < n ∧ (grw z y s).count (lt p) ≠ 0) := by
    have hlw := len_R R
    have hcl : (cRow z y s).length = n := by simp [cRow, hn]
    rw [hcl] at hlw
    refine qbo n (fun j q => ∃ c, q = (c, (j : Int)) ∧ (c = true ↔ ∃ p, p < j ∧ (grw z y s).count (lt p) ≠ 0)) _ ?_ ?_ n 0 _ (by omega) ⟨false, rfl, by simp⟩
    ·rintro j q hj ⟨c, rfl, hc⟩
     obtain ⟨p1, i1, i2⟩ := at_R R (cRow_get z y s (show j < z.length by omega))
     have step : g62_b1 (qbn F1 ro) ro v s (y : Int) w ⟨H, L, L⟩ c (j : Int) = some (.inl (c || decide ((grw z y s).count (lt j) ≠ 0), ((j + 1 : Nat) : Int))) := by
      cases c with
      | true => simp only [g62_b1, hlw, oS, iS, fB, ltT (show (j : Int) < (n : Int) by omega), cT, fI', nx (show j ≤ 1000000 by omega), Bool.true_or]
      | false =>
       have e : ltI 0 ((sat ((grw z y s).count (lt j)) : Nat) : Int) = decide ((grw z y s).count (lt j) ≠ 0) := by
        rw [ltI_eq]
        by_cases h0 : (grw z y s).count (lt j) = 0
        ·rw [dF (show ¬ (grw z y s).count (lt j) ≠ 0 from fun e => e h0), dF (by rw [h0]; decide)]
        ·rw [dT h0, dT (by unfold sat; omega)]
       simp only [g62_b1, hlw, oS, iS, fB, ltT (show (j : Int) < (n : Int) by omega), cT, cF, i1, (i2 (Keep.refl H)).1, eU, e, fI', nx (show j ≤ 1000000 by omega), Bool.false_or]
     refine ⟨_, step, _, rfl, ?_⟩
     rw [Bool.or_eq_true, hc, decide_eq_true_eq]
     constructor
     ·rintro (⟨p, h1, h2⟩ | h)
      ·exact ⟨p, by omega, h2⟩
      ·exact ⟨j, by omega, h⟩
     ·rintro ⟨p, h1, h2⟩
      by_cases e : p = j
      ·subst e; exact .inr h2
      ·exact .inl ⟨p, by omega, h2⟩
    ·rintro q ⟨c, rfl, hc⟩
     exact ⟨_, (by simp only [g62_b1, hlw, oS, iS, fB, ltF (Int.lt_irrefl _), cF] <;> rfl), hc⟩
   obtain ⟨c, q1, q2⟩ := inner
   rw [count_zero (show n ≤ 100 by omega) hg, hlen] at q2
   cases c with
   | true =>
    have h0 := q2.1 rfl
    refine .inl ⟨_, (by simp only [g62_b0, len_S (S_by a kJ), oS, iS, fB, ltF (show ¬ (z.length : Int) < (y : Int) by omega), nF, cT, mC, c1', pS, qat, q1, nT, cF, fI', nx (show y ≤ 1000000 by omega)] <;> rfl), H, rfl, kJ.trans k1, fun y' hy' => ?_⟩
    rcases Nat.lt_or_ge y' y with h | h
    ·exact hall y' h
    ·obtain rfl : y' = y := by omega
     exact h0
   | false =>
    have h0 : lenS z y s = 0 := by
     rcases Nat.eq_zero_or_pos (lenS z y s) with h | h
     ·exact h
     ·have := q2.2 (by omega); cases this
    exact .inr ⟨_, (by simp only [g62_b0, len_S (S_by a kJ), oS, iS, fB, ltF (show ¬ (z.length : Int) < (y : Int) by omega), nF, cT, mC, c1', pS, qat, q1] <;> rfl), H, kJ.trans k1, .inr ⟨y, rfl, by omega, h0, hall⟩⟩
  ·rintro q ⟨J, rfl, kJ, hall⟩
   exact ⟨_, (by simp only [g62_b0, len_S (S_by a kJ), oS, iS, fB, ltT (show (z.length : Int) < ((z.length + 1 : Nat) : Int) by omega), nT, cF] <;> rfl), J, kJ, .inl ⟨rfl, hall⟩⟩
 obtain ⟨r, q1, J, kJ, q2⟩ := key
 refine g62_ok (qax F1 ro) (Ovr.no rfl) ?_
 unfold g62
 rw [hL] at q1 q2
 simp only [qat, q1]
 rcases q2 with ⟨rfl, hall⟩ | ⟨y, rfl, hy, h0, hall⟩
 ·have : dieR z s = -1 := by unfold dieR; rw [dieY_none hall]
  rw [this]
  simp only [oS, tA]
  exact qcg kJ rfl
 ·have : dieR z s = (y : Int) := by unfold dieR; rw [dieY_some hy h0 hall]
  rw [this]
  simp only [oS, tA]
  exact qcg kJ rfl
end
end Go.Proofs.Ytfohppnelbbepaa.T
/- Letter -/
open Go.Vm
set_option linter.unusedVariables false
set_option linter.unusedSectionVars false
namespace Go.Proofs.Ytfohppnelbbepaa.T
open Go
variable [Ovr]
section
variable {ro : List ABlk} {h hp : Heap}
end
end Go.Proofs.Ytfohppnelbbepaa.T
/- Letter of the reference, law 7 -/
open Go.Vm
set_option linter.unusedVariables false
set_option linter.unusedSectionVars false
namespace Go.Proofs.Ytfohppnelbbepaa.T
open Go
variable [Ovr]
section
variable {ro : List ABlk} {h hp : Heap}
end
end Go.Proofs.Ytfohppnelbbepaa.T
/- Parts of the reference -/
open Go.Vm
set_option linter.unusedVariables false
set_option linter.unusedSectionVars false
namespace Go.Proofs.Ytfohppnelbbepaa.T
open Go
variable [Ovr]
section
variable {ro : List ABlk} {h hp : Heap}
theorem Holds.row {K : Heap} {b n : Nat} {c : Cap} {x : List Int} (a : Holds K b (x.map (AVal.i .i64))) (hn : n = x.length) : IsRow ro K (.sl ⟨false, b, 0⟩ n c) x := by
 subst hn
 obtain ⟨blk, h1, h2, h3⟩ := a
 rw [List.length_map] at h2 h3
 refine .inr ⟨_, _, blk, rfl, qdj h1 0, by show 0 + x.length ≤ _; omega, fun j hj => ?_⟩
 rw [Nat.zero_add, h3 j hj]
 simp [List.getD, hj]
def cntOk (z : List (List UInt8)) (y : Nat) (s : List UInt8) (k : Nat) : Prop := ∀ p, p < k → (grw z y s).count (lt p) ≤ 1152921504606846976
noncomputable instance {z : List (List UInt8)} {y : Nat} {s : List UInt8} {k : Nat} : Decidable (cntOk z y s k) := Classical.propDecidable _
end
end Go.Proofs.Ytfohppnelbbepaa.T
/- Parts, law 3 -/
open Go.Vm
set_option linter.unusedVariables false
set_option linter.unusedSectionVars false
namespace Go.Proofs.Ytfohppnelbbepaa.T
open Go
variable [Ovr]
section
variable {ro : List ABlk} {h hp : Heap}
end
end Go.Proofs.Ytfohppnelbbepaa.T
/- sorted of the reference -/
open Go.Vm
set_option linter.unusedVariables false
set_option linter.unusedSectionVars false
namespace Go.Proofs.Ytfohppnelbbepaa.T
open Go
variable [Ovr]
section
variable {ro : List ABlk} {h hp : Heap}
end
end Go.Proofs.Ytfohppnelbbepaa.T
/- Factors of the reference, law 8 -/
open Go.Vm
set_option linter.unusedVariables false
set_option linter.unusedSectionVars false
namespace Go.Proofs.Ytfohppnelbbepaa.T
open Go
variable [Ovr]
section
variable {ro : List ABlk} {h hp : Heap}
end
end Go.Proofs.Ytfohppnelbbepaa.T
/- The word of Fibonacci -/
open Go.Vm
set_option linter.unusedVariables false
set_option linter.unusedSectionVars false
namespace Go.Proofs.Ytfohppnelbbepaa.T
open Go
variable [Ovr]
/- the word of Fibonacci -/
/- how often each letter lies in the word of Thue and Morse -/
end Go.Proofs.Ytfohppnelbbepaa.T
/- Law 14 -/
open Go.Vm
set_option linter.unusedVariables false
set_option linter.unusedSectionVars false
namespace Go.Proofs.Ytfohppnelbbepaa.T
open Go
variable [Ovr]
section
variable {ro : List ABlk} {h hp : Heap}
end
end Go.Proofs.Ytfohppnelbbepaa.T
/- Law 13 -/
open Go.Vm
set_option linter.unusedVariables false
set_option linter.unusedSectionVars false
namespace Go.Proofs.Ytfohppnelbbepaa.T
open Go
variable [Ovr]
/- what a bud becomes is a beginning of the word -/
section
variable {ro : List ABlk} {h hp : Heap}
end
end Go.Proofs.Ytfohppnelbbepaa.T
/- Law 10 -/
open Go.Vm
set_option linter.unusedVariables false
set_option linter.unusedSectionVars false
namespace Go.Proofs.Ytfohppnelbbepaa.T
open Go
variable [Ovr]
section
variable {ro : List ABlk} {h hp : Heap}
end
end Go.Proofs.Ytfohppnelbbepaa.T
/- Dies, both -/
open Go.Vm
set_option linter.unusedVariables false
set_option linter.unusedSectionVars false
namespace Go.Proofs.Ytfohppnelbbepaa.T
open Go
variable [Ovr]
section
variable {ro : List ABlk} {h hp : Heap}
noncomputable def deadV (z : List (List UInt8)) (s : List UInt8) : Int × Int := if errS z s ≠ 0 then (0, errS z s) else match dieY z s with
 | some y => ((y : Int), 0)
 | none => (0, 10)
theorem dies26 {v : AVal} {z : List (List UInt8)} {s : List UInt8} (a : IsS ro h v z) (hf : z.length ≤ 1000000 ∧ (∀ i, i < z.length → (z.getD i []).length ≤ 1000000) ∧ s.length ≤ 1000000) :
  callX F1 ro 26 [v, .s s] h = some (.tup [.i .i64 (deadV z s).1, .i .i64 (deadV z s).2], h, h.length, h.length) := by
 refine g26_ok (qax F1 ro) (Ovr.no rfl) ?_
 unfold g26
 simp only [mC, cp0 (read60 (s := s) a hf.1 hf.2.1 hf.2.2), pS, x0, x1, oS, iS, fB]
 by_cases hS : errS z s = 0
 rotate_left
 ·have e : deadV z s = (0, errS z s) := by unfold deadV; rw [if_pos hS]
  simp only [qdn hS, nF, cT, e, tA2]
  exact qay rfl
 have e : deadV z s = match dieY z s with
  | some y => ((y : Int), 0)
  | none => (0, 10) := by unfold deadV; rw [if_neg (fun e => e hS)]
 have vok := VOk.of (errS_V hS)
 obtain ⟨hs30, hsh⟩ := errS_ok hS
 have e0 : eqI (errS z s) 0 = true := by rw [hS]; rfl
 simp only [e0, nT, cF, if_pos hS, cp0 (dies61 a vok hf.2.2 hsh), pS]
 rw [e]
 unfold dieA
 cases hy : dieY z s with
 | some y =>
  simp only [x0, x1, oS, iS, bS, nT, cF, tA2]
  exact qay rfl
 | none =>
  simp only [x0, x1, oS, iS, bS, nF, cT, tA2]
  exact qay rfl
theorem dies27 {v : AVal} {z : List (List UInt8)} {s : List UInt8} (a : IsS ro h v z) (hf : z.length ≤ 1000000 ∧ (∀ i, i < z.length → (z.getD i []).length ≤ 1000000) ∧ s.length ≤ 1000000) :
  callX F1 ro 27 [v, .s s] h = some (.tup [.i .i64 (deadV z s).1, .i .i64 (deadV z s).2], h, h.length, h.length) := by
 refine g27_ok (qax F1 ro) (Ovr.no rfl) ?_
 unfold g27
 simp only [mC, cp0 (shoot42 (s := s) a hf.1 hf.2.1 hf.2.2), pS, iS, fB]
 by_cases hS : errS z s = 0
 rotate_left
 ·have e : deadV z s = (0, errS z s) := by unfold deadV; rw [if_pos hS]
  simp only [qdn hS, nF, cT, e, tA2]
  exact qay rfl
 have e : deadV z s = match dieY z s with
  | some y => ((y : Int), 0)
  | none => (0, 10) := by unfold deadV; rw [if_neg (fun e => e hS)]
 have vok := VOk.of (errS_V hS)
 obtain ⟨hs30, hsh⟩ := errS_ok hS
 have e0 : eqI (errS z s) 0 = true := by rw [hS]; rfl
 simp only [e0, nT, cF, cp0 (dies62 a vok hf.2.2 hsh), pS, iS]
 rw [e]
 unfold dieR
 cases hy : dieY z s with
 | some y =>
  simp only [ltF (show ¬ ((y : Nat) : Int) < 0 by omega), cF, tA2]
  exact qay rfl
 | none =>
  simp only [ltT (show (-1 : Int) < 0 by decide), cT, tA2]
  exact qay rfl
end
end Go.Proofs.Ytfohppnelbbepaa.T
/- A cell of a new matrix -/
open Go.Vm
set_option linter.unusedVariables false
set_option linter.unusedSectionVars false
namespace Go.Proofs.Ytfohppnelbbepaa.T
open Go
variable [Ovr]
section
variable {ro : List ABlk} {h hp : Heap} {α : Type} {enc : α → AVal}
def setM (x : List (List α)) (r c : Nat) (y : α) : List (List α) := x.set r ((x.getD r []).set c y)
theorem qea (x : List (List α)) (r c : Nat) (y : α) : (setM x r c y).length = x.length := by simp [setM]
theorem setM_row {x : List (List α)} {r c : Nat} {y : α} (hr : r < x.length) (t : Nat) : (setM x r c y).getD t [] = if t = r then (x.getD r []).set c y else x.getD t [] := by
 unfold setM
 rw [List.getD_eq_getElem?_getD, List.getElem?_set]
 by_cases e : r = t
 ·subst e; simp [hr]
 ·rw [if_neg e, if_neg fun e2 => e e2.symm, List.getD_eq_getElem?_getD]
theorem setM_rlen {x : List (List α)} {r c : Nat} {y : α} (hr : r < x.length) (t : Nat) : ((setM x r c y).getD t []).length = (x.getD t []).length := by
 rw [setM_row hr]
 split
 ·rename_i e; rw [e, List.length_set]
 ·rfl
theorem NewM.put {H : Heap} {L : Nat} {w : AVal} {x : List (List α)} (a : NewM enc H L w x) {r c : Nat} {y0 y : α} (hr : r < x.length) (hc : (x.getD r [])[c]? = some y0) (h1 : (enc y).one = true) (h2 : (enc y).cells = [enc y]) (h3 : nonp [enc y] = true) :
  ∃ q u q2 H', evP .e (.ixS 1 (.c w) (.c (.i .i64 (r : Int)))) = some q ∧ (∀ l p, ldM ro ⟨H, l, p⟩ true 1 q = some u) ∧ evP .e (.ixS 1 (.c u) (.c (.i .i64 (c : Int)))) = some q2 ∧ (∀ l p, ldM ro ⟨H, l, p⟩ true 1 q2 = some (enc y0)) ∧
   (∀ l p, l ≤ L → stepM ro ⟨H, l, p⟩ (.st 1 (.c q2) (.c (enc y))) = some (und, ⟨H', l, p⟩)) ∧ NewM enc H' L w (setM x r c y) ∧ H'.length = H.length ∧ ∀ i, i ≤ L → H'[i]? = H[i]? := by
 obtain ⟨bs, cs, rfl, g1, g2, g3⟩ := a
 obtain ⟨hL, hb⟩ := g2 r hr
 have hcl : c < (x.getD r []).length := (List.getElem?_eq_some_iff.1 hc).1
 obtain ⟨H', s1, f1, f2, f3⟩ := hb.put (ro := ro) (k := c) (w := enc y) (by rw [List.length_map]; exact hcl) h1 h2
 refine ⟨_, _, _, H', qcx hr, fun l p => (g1.ld (ro := ro) (k := r) (w := .sl ⟨false, bs r, 0⟩ (x.getD r []).length (cs r)) (by simp [hr]) l p).1, qcx hcl, fun l p => (hb.ld (ro := ro) (k := c) (by rw [List.getElem?_map, hc]; rfl) l p).1, fun l p hl => ?_, ⟨bs, cs, by rw [qea], ?_, fun t ht => ?_, fun t t' ht ht' => ?_⟩, f2, fun i hi => f3 i (by omega)⟩
 ·have := s1 l p
  rwa [h3, cond_true, show min l (bs r) = l by omega] at this
 ·rw [qea]
  have e : ((List.range x.length).map fun t => AVal.sl ⟨false, bs t, 0⟩ ((setM x r c y).getD t []).length (cs t)) = (List.range x.length).map fun t => AVal.sl ⟨false, bs t, 0⟩ (x.getD t []).length (cs t) := List.map_congr_left fun t _ => by rw [setM_rlen hr]
  rw [e]
  exact g1.keep (f3 L (by omega))
 ·rw [qea] at ht
  obtain ⟨u1, u2⟩ := g2 t ht
  refine ⟨u1, ?_⟩
  rw [setM_row hr]
  by_cases e : t = r
  ·subst e
   rw [if_pos rfl, List.map_set]
   exact f1
  ·rw [if_neg e]
   exact u2.keep (f3 _ fun e2 => e (g3 t r ht hr e2))
 ·rw [qea] at ht ht'
  exact g3 t t' ht ht'
end
end Go.Proofs.Ytfohppnelbbepaa.T
/- descent -/
open Go.Vm
set_option linter.unusedVariables false
set_option linter.unusedSectionVars false
namespace Go.Proofs.Ytfohppnelbbepaa.T
open Go
variable [Ovr]
def stayK (z : List (List UInt8)) : Nat → List (List Bool)
 | 0 => mat93 z
 | i + 1 => setM (stayK z i) i i true
theorem mat93_dim (z : List (List UInt8)) : (mat93 z).length = z.length ∧ ∀ t, t < z.length → ((mat93 z).getD t []).length = z.length := by
 refine ⟨by simp [mat93], fun t ht => ?_⟩
 simp [mat93, List.getD, ht]
theorem qev (z : List (List UInt8)) : ∀ i, i ≤ z.length → (stayK z i).length = z.length ∧ ∀ t, t < z.length → ((stayK z i).getD t []).length = z.length
 | 0, _ => mat93_dim z
 | i + 1, h => by
  obtain ⟨h1, h2⟩ := qev z i (by omega)
  refine ⟨by show (setM _ _ _ _).length = _; rw [qea, h1], fun t ht => ?_⟩
  show ((setM (stayK z i) i i true).getD t []).length = _
  rw [setM_rlen (by omega), h2 t ht]
def cellB (x : List (List Bool)) (p q : Nat) : Bool := (x.getD p []).getD q false
theorem stayK_cell (z : List (List UInt8)) : ∀ i, i ≤ z.length → ∀ p q, p < z.length → q < z.length → cellB (stayK z i) p q = (cellB (mat93 z) p q || decide (p = q ∧ p < i))
 | 0, _, p, q, _, _ => by simp [stayK]
 | i + 1, h, p, q, hp, hq => by
  obtain ⟨h1, h2⟩ := qev z i (by omega)
  have ih := stayK_cell z i (by omega) p q hp hq
  show ((setM (stayK z i) i i true).getD p []).getD q false = _
  rw [setM_row (by omega)]
  by_cases e : p = i
  ·subst e
   rw [if_pos rfl, List.getD_eq_getElem?_getD, List.getElem?_set]
   by_cases e2 : p = q
   ·subst e2
    rw [if_pos rfl, if_pos (by rw [h2 p hp]; exact hq)]
    simp
   ·rw [if_neg e2, ← List.getD_eq_getElem?_getD]
    show cellB (stayK z p) p q = _
    rw [ih]
    simp [e2]
  ·rw [if_neg e]
   show cellB (stayK z i) p q = _
   rw [ih]
   congr 1
   by_cases e2 : p = q
   ·simp only [e2, true_and]
    have : (q < i) = (q < i + 1) := propext ⟨fun h => by omega, fun h => by omega⟩
    simp only [this]
   ·simp [e2]
def descK (z : List (List UInt8)) : Nat → List (List Bool)
 | 0 => mat93 z
 | i + 1 => prod95 (descK z i) (stayK z z.length)
theorem mem_rows {x : List (List Bool)} {n : Nat} (h : ∀ t, t < x.length → (x.getD t []).length = n) : ∀ r ∈ x, r.length = n := fun r hr => by
 obtain ⟨t, ht, rfl⟩ := List.getElem_of_mem hr
 have := h t ht
 simpa [List.getD, ht] using this
theorem descK_dim (z : List (List UInt8)) (h1 : 1 ≤ z.length) : ∀ i, (descK z i).length = z.length ∧ ∀ r ∈ descK z i, r.length = z.length
 | 0 => ⟨(mat93_dim z).1, mem_rows (x := mat93 z) (by rw [(mat93_dim z).1]; exact (mat93_dim z).2)⟩
 | i + 1 => by
  obtain ⟨g1, g2⟩ := descK_dim z h1 i
  obtain ⟨d1, d2⟩ := qev z z.length (Nat.le_refl _)
  refine ⟨by show ((descK z i).map _).length = _; rw [List.length_map, g1], fun r hr => ?_⟩
  obtain ⟨row, -, rfl⟩ := List.mem_map.1 hr
  rw [List.length_map, List.length_range, d2 0 (by omega)]
section
variable {ro : List ABlk} {h hp : Heap}
set_option maxHeartbeats 1000000 in
theorem descent63 {v : AVal} {z : List (List UInt8)} (a : IsS ro h v z) (hz : VOk z) :
  ∃ w H, callX F1 ro 63 [v] h = some (w, H, h.length, h.length) ∧ Keep h H ∧ IsM eB ro H w (descK z z.length) := by
 have n1 := hz.h1
 have n6 := hz.h6
 obtain ⟨L, hL⟩ : ∃ L, L = h.length := ⟨_, rfl⟩
 obtain ⟨w1, H1, c1, k1, m1⟩ := matrix93 (ro := ro) a hz.h1 hz.h6 hz.h8
 obtain ⟨w2, H2, c2, k2, m2⟩ := matrix93 (ro := ro) (S_by a k1) hz.h1 hz.h6 hz.h8
 have q1 := k1.1
 have q2 := k2.1
 have c1' := cM (l := L) (p := L) c1 (by omega) (by omega)
 have c2' := cM (l := L) (p := L) c2 (by omega) (by omega)
 obtain ⟨n, hn⟩ : ∃ n, n = z.length := ⟨_, rfl⟩
 have hl2 := len_M (ro := ro) m2.isM
 rw [(mat93_dim z).1, ← hn] at hl2
 have key1 : ∃ r, loopX (fun q : Int × Mm => g63_b0 (qbn F1 ro) ro v w1 w2 (n : Int) q.1 q.2) (0, ⟨H2, L, L⟩) = some r ∧ ∃ K, r = ⟨K, L, L⟩ ∧ K.length = H2.length ∧ (∀ i, i < H1.length → K[i]? = H2[i]?) ∧ NewM eB K H1.length w2 (stayK z n) := by
  refine qbo n (fun i q => ∃ K, q = ((i : Int), ⟨K, L, L⟩) ∧ K.length = H2.length ∧ (∀ i, i < H1.length → K[i]? = H2[i]?) ∧ NewM eB K H1.length w2 (stayK z i)) _ ?_ ?_ n 0 _ (by omega) ⟨H2, rfl, rfl, fun _ _ => rfl, m2⟩
  ·rintro i q hi ⟨K, rfl, lK, oK, mK⟩
   obtain ⟨d1, d2⟩ := qev z i (by omega)
   have hc : ((stayK z i).getD i [])[i]? = some (((stayK z i).getD i [])[i]'(by rw [d2 i (by omega)]; omega)) := List.getElem?_eq_getElem _
   obtain ⟨p1, u, p2, K', i1, i2, i3, i4, i5, i6, i7, i8⟩ := mK.put (ro := ro) (y := true) (show i < (stayK z i).length by omega) hc rfl rfl rfl
   exact ⟨_, (by simp only [g63_b0, fB, ltT (show (i : Int) < (n : Int) by omega), cT, i1, oS, i2, i3, i5 L L (by omega), pS, fI', nx (show i ≤ 1000000 by omega)] <;> rfl), K', rfl, by omega, fun t ht => by rw [i8 t (by omega), oK t ht], i6⟩
  ·rintro q ⟨K, rfl, lK, oK, mK⟩
   exact ⟨_, (by simp only [g63_b0, fB, ltF (Int.lt_irrefl _), cF] <;> rfl), K, rfl, lK, oK, mK⟩
 obtain ⟨r1, e1, K, rfl, lK, oK, mK⟩ := key1
 have kK : Keep H1 K := ⟨by omega, fun i hi => by rw [oK i hi, k2.2 i hi]⟩
 have khK := k1.trans kK
 have hqK := khK.1
 obtain ⟨d1, d2⟩ := qev z z.length (Nat.le_refl _)
 have key2 : ∃ r, loopX (fun q : AVal × Int × Mm => g63_b1 (qbn F1 ro) ro w2 (n : Int) q.1 q.2.1 q.2.2) (w1, 0, ⟨K, L, L⟩) = some r ∧ ∃ u J, r = (u, ⟨J, L, L⟩) ∧ Keep K J ∧ IsM eB ro J u (descK z n) ∧ (0 < n → u.bel h.length = false) := by
  refine qbo n (fun i q => ∃ u J, q = (u, (i : Int), ⟨J, L, L⟩) ∧ Keep K J ∧ IsM eB ro J u (descK z i) ∧ (0 < i → u.bel h.length = false)) _ ?_ ?_ n 0 _ (by omega) ⟨w1, K, rfl, Keep.refl _, M_by m1.isM kK, fun h => by omega⟩
  ·rintro i q hi ⟨u, J, rfl, kJ, mJ, -⟩
   have hqJ := kJ.1
   obtain ⟨g1, g2⟩ := descK_dim z n1 i
   have mS := M_by (ro := ro) mK.isM kJ
   rw [hn] at mS
   obtain ⟨u', J', c3, k3, m3⟩ := prod95_ok (ro := ro) mJ mS (by omega) (by omega) (by omega) (fun r hr => by rw [d1]; exact g2 r hr) (m := n) (by omega) (mem_rows (by rw [d1, hn]; exact d2)) (fun _ _ _ _ => trivial) (fun _ _ _ _ => trivial)
   have c3' := cM (l := L) (p := L) c3 (by omega) (by omega)
   refine ⟨_, (by simp only [g63_b1, fB, ltT (show (i : Int) < (n : Int) by omega), cT, mC, c3', pS, fI', nx (show i ≤ 1000000 by omega)] <;> rfl), u', J', rfl, kJ.trans k3, m3.isM, fun _ => ?_⟩
   obtain ⟨bs, cs, rfl, -⟩ := m3
   have : Nat.blt J.length h.length = false := by rw [← Bool.not_eq_true, Nat.blt_eq]; omega
   simp [AVal.bel, this]
  ·rintro q ⟨u, J, rfl, kJ, mJ, hb⟩
   exact ⟨_, (by simp only [g63_b1, fB, ltF (Int.lt_irrefl _), cF] <;> rfl), u, J, rfl, kJ, mJ, hb⟩
 obtain ⟨r2, e2, u, J, rfl, kJ, mJ, hb⟩ := key2
 have khJ := khK.trans kJ
 obtain ⟨H, f1, f2, f3⟩ := fin_any (w := u) khJ
 obtain rfl := f3 (hb (by omega))
 refine ⟨u, H, g63_ok (qax F1 ro) (Ovr.no rfl) ?_, khJ, by rw [← hn]; exact mJ⟩
 unfold g63
 rw [← hL] at f1 ⊢
 simp only [mC, c1', c2', pS, hl2, oS, iS, qat, e1, len_S a, ← hn, e2, tA]
 exact f1
end
end Go.Proofs.Ytfohppnelbbepaa.T
/- doubles -/
open Go.Vm
set_option linter.unusedVariables false
set_option linter.unusedSectionVars false
namespace Go.Proofs.Ytfohppnelbbepaa.T
open Go
variable [Ovr]
section
variable {ro : List ABlk} {h hp : Heap}
theorem box2 {e l p : Nat} {v w : AVal} : stepM ro ⟨hp, l, p⟩ (.bx e 2 (.c (.agg [v, w]))) = some (.p (some ⟨false, hp.length, 0⟩), ⟨hp ++ [some (blkOf e [v, w])], l, p⟩) := by
 have hbq : Nat.beq [v, w].length 2 = true := rfl
 simp only [stepM, stepK, opd, st_bx, AVal.cells, hbq, cond_true, newB, St.mm]
theorem fa0 {b : Nat} : evP .e (.faddr 0 (.c (.p (some ⟨false, b, 0⟩)))) = some (.p (some ⟨false, b, 0 + 0⟩)) := rfl
theorem fa1 {b : Nat} : evP .e (.faddr 1 (.c (.p (some ⟨false, b, 0⟩)))) = some (.p (some ⟨false, b, 0 + 1⟩)) := rfl
def cntD (z : List (List UInt8)) (x : List (List Bool)) (p j : Nat) : Nat := ((z.getD p []).take j).countP fun b => cellB x p (ix b)
def dblB (z : List (List UInt8)) (x : List (List Bool)) (p : Nat) : Bool := decide (2 ≤ cntD z x p (z.getD p []).length)
theorem dims_get {x : List (List Bool)} {n p q : Nat} (hx : x.length = n) (hr : ∀ r ∈ x, r.length = n) (hp : p < n) (hq : q < n) : x[p]? = some (x.getD p []) ∧ (x.getD p [])[q]? = some (cellB x p q) := by
 have h1 : p < x.length := by omega
 have e : x.getD p [] = x[p] := by simp [List.getD, h1]
 have h2 : (x.getD p []).length = n := by rw [e]; exact hr _ (List.getElem_mem h1)
 refine ⟨by rw [List.getElem?_eq_getElem h1, e], ?_⟩
 unfold cellB
 have h3 : q < (x.getD p []).length := by omega
 rw [List.getElem?_eq_getElem h3, List.getD_eq_getElem?_getD (l := x.getD p []), List.getElem?_eq_getElem h3]
 rfl
theorem doubles96 {v w : AVal} {z : List (List UInt8)} {x : List (List Bool)} {p : Nat} (a : IsS ro h v z) (hz : VOk z) (M : IsM eB ro h w x) (hx : x.length = z.length) (hr : ∀ r ∈ x, r.length = z.length) (hp : p < z.length) :
  callX F1 ro 96 [.agg [v, w], .i .i64 (p : Int)] h = some (.b (dblB z x p), h, h.length, h.length) := by
 have n6 := hz.h6
 have h8 := hz.h8 p hp
 obtain ⟨L, hL⟩ : ∃ L, L = h.length := ⟨_, rfl⟩
 obtain ⟨H, hH⟩ : ∃ H, H = h ++ [some (blkOf 85 [v, w])] := ⟨_, rfl⟩
 have b1 := box2 (ro := ro) (hp := h) (e := 85) (l := L) (p := L) (v := v) (w := w)
 rw [← hH, ← hL] at b1
 have lH : H.length = L + 1 := by rw [hH, hL]; simp
 have kH : Keep h H := by rw [hH]; exact Keep.app _
 have gH : Holds H L [v, w] := by rw [hH, hL]; exact Holds.new _ _ _
 have d0 := fun l q => (gH.ld (ro := ro) (k := 0) rfl l q).1
 have d1A := (gH.ld (ro := ro) (k := 1) rfl 0 0).2
 obtain ⟨s, hs⟩ : ∃ s, s = z.getD p [] := ⟨_, rfl⟩
 have hsh : has z.length s := by rw [hs]; exact hz.hh p hp
 obtain ⟨p1, i1, i2⟩ := at_S a hp
 rw [← hs] at i2 h8
 obtain ⟨g1, -⟩ := dims_get hx hr hp hp
 obtain ⟨p2, u, j1, j2, j3⟩ := at_M M g1
 have i2' := fun l q => (i2 (hp := H) (l := l) (q := q) kH).1
 have j3A := (j3 (hp := H) (l := 0) (q := 0) kH).2
 have key : ∃ r, loopX (fun q : Int × Int × Mm => g96_b0 (qbn F1 ro) ro (p : Int) (.p (some ⟨false, L, 0⟩)) (s.length : Int) q.1 q.2.1 q.2.2) (0, 0, ⟨H, L, L⟩) = some r ∧ r = (((cntD z x p s.length : Nat) : Int), ⟨H, L, L⟩) := by
  refine qbo s.length (fun j q => q = (((cntD z x p j : Nat) : Int), (j : Int), ⟨H, L, L⟩) ∧ cntD z x p j ≤ j) _ ?_ ?_ s.length 0 _ (by omega) ⟨by simp [cntD], Nat.zero_le _⟩
  ·rintro j q hj ⟨rfl, hle⟩
   have hb := hsh j hj
   have hxl := ix_lt hb
   obtain ⟨-, g2⟩ := dims_get hx hr hp hxl
   obtain ⟨p3, k1, k2⟩ := at_R j2 g2
   have k2' := fun l q => (k2 (hp := H) (l := l) (q := q) kH).1
   have estep : cntD z x p (j + 1) = cntD z x p j + if cellB x p (ix (s.getD j 0)) = true then 1 else 0 := by
    unfold cntD
    rw [← hs, take_snoc 0 hj, List.countP_append]
    congr 1
    by_cases e : cellB x p (ix (s.getD j 0)) = true
    ·rw [if_pos e, List.countP_cons, if_pos e]; rfl
    ·rw [if_neg e, List.countP_cons, if_neg e]; rfl
   have c54 := cp0 (part_of (ro := ro) (h := H) hb)
   have hck := chkL (a := H.length) (b := H.length) (Nat.le_refl _)
   have hjn : Mm.join ⟨H, L, L⟩ ⟨H, H.length, H.length⟩ = ⟨H, L, L⟩ := joinL (by omega) (by omega)
   cases hcell : cellB x p (ix (s.getD j 0)) with
   | true =>
    rw [hcell, if_pos rfl] at estep
    rw [hcell] at k2'
    exact ⟨_, (by simp only [g96_b0, fB, ltT (show (j : Int) < (s.length : Int) by omega), cT, baseL, oS, fa1, d1A, j1, j3A, fa0, d0, i1, i2', sS, qde hj, iS, mC, c54, pS, hck, ckT, k1, k2', bS, hjn, fI', nx (show cntD z x p j ≤ 1000000 by omega), nx (show j ≤ 1000000 by omega)] <;> rfl), by rw [estep], by omega⟩
   | false =>
    rw [hcell, if_neg (by decide)] at estep
    rw [hcell] at k2'
    exact ⟨_, (by simp only [g96_b0, fB, ltT (show (j : Int) < (s.length : Int) by omega), cT, baseL, oS, fa1, d1A, j1, j3A, fa0, d0, i1, i2', sS, qde hj, iS, mC, c54, pS, hck, ckT, k1, k2', bS, cF, hjn, fI', nx (show j ≤ 1000000 by omega)] <;> rfl), by rw [estep]; rfl, by omega⟩
  ·rintro q ⟨rfl, hle⟩
   exact ⟨_, (by simp only [g96_b0, fB, ltF (Int.lt_irrefl _), cF] <;> rfl), rfl⟩
 obtain ⟨r, e1, rfl⟩ := key
 have efin : (!ltI ((cntD z x p s.length : Nat) : Int) 2) = dblB z x p := by
  unfold dblB
  rw [← hs]
  by_cases e : 2 ≤ cntD z x p s.length
  ·rw [dT e, ltF (show ¬ ((cntD z x p s.length : Nat) : Int) < 2 by omega)]; rfl
  ·rw [dF e, ltT (show ((cntD z x p s.length : Nat) : Int) < 2 by omega)]; rfl
 refine g96_ok (qax F1 ro) (Ovr.no rfl) ?_
 unfold g96
 simp only [← hL, b1, pS, fa0, d0, oS, i1, i2', sS, qbr, iS, qat, e1, fB, efin, tA]
 subst hL
 exact qcg kH rfl
end
end Go.Proofs.Ytfohppnelbbepaa.T
/- explodes -/
open Go.Vm
set_option linter.unusedVariables false
set_option linter.unusedSectionVars false
namespace Go.Proofs.Ytfohppnelbbepaa.T
open Go
variable [Ovr]
section
variable {ro : List ABlk} {h hp : Heap}
def expB (z : List (List UInt8)) (x : List (List Bool)) (p : Nat) : Bool := (List.range z.length).any fun q => (decide (q = p) || cellB x q p) && dblB z x q
theorem explodes64 {v w : AVal} {z : List (List UInt8)} {x : List (List Bool)} {p : Nat} (a : IsS ro h v z) (hz : VOk z) (M : IsM eB ro h w x) (hx : x.length = z.length) (hr : ∀ r ∈ x, r.length = z.length) (hp : p < z.length) :
  callX F1 ro 64 [.agg [v, w], .i .i64 (p : Int)] h = some (.b (expB z x p), h, h.length, h.length) := by
 have n6 := hz.h6
 obtain ⟨L, hL⟩ : ∃ L, L = h.length := ⟨_, rfl⟩
 obtain ⟨H, hH⟩ : ∃ H, H = h ++ [some (blkOf 85 [v, w])] := ⟨_, rfl⟩
 have b1 := box2 (ro := ro) (hp := h) (e := 85) (l := L) (p := L) (v := v) (w := w)
 rw [← hH, ← hL] at b1
 have lH : H.length = L + 1 := by rw [hH, hL]; simp
 have kH : Keep h H := by rw [hH]; exact Keep.app _
 have gH : Holds H L [v, w] := by rw [hH, hL]; exact Holds.new _ _ _
 have d0 := fun l q => (gH.ld (ro := ro) (k := 0) rfl l q).1
 have d1 := fun l q => (gH.ld (ro := ro) (k := 1) rfl l q).1
 have dA := gH.all (ro := ro) (l := L) (p := L) (n := 2) rfl
 have aH := S_by a kH
 have MH := M_by M kH
 have key : ∃ r, loopX (fun q : Int × Mm => g64_b0 (qbn F1 ro) ro (p : Int) (.p (some ⟨false, L, 0⟩)) (z.length : Int) q.1 q.2) (0, ⟨H, L, L⟩) = some r ∧ ((r = .inl ⟨H, L, L⟩ ∧ ∀ q, q < z.length → ((decide (q = p) || cellB x q p) && dblB z x q) = false) ∨ (r = .inr (true, ⟨H, L, L⟩) ∧ ∃ q, q < z.length ∧ ((decide (q = p) || cellB x q p) && dblB z x q) = true)) := by
  refine loop_exit z.length (fun i s => s = ((i : Int), ⟨H, L, L⟩) ∧ ∀ q, q < i → ((decide (q = p) || cellB x q p) && dblB z x q) = false) _ ?_ ?_ z.length 0 _ (by omega) ⟨rfl, fun q h => by omega⟩
  ·rintro i s hi ⟨rfl, hall⟩
   obtain ⟨g1, g2⟩ := dims_get hx hr hi hp
   obtain ⟨p2, u, j1, j2, j3⟩ := at_M MH g1
   obtain ⟨p3, k1, k2⟩ := at_R j2 g2
   have j3' := fun l q => (j3 (hp := H) (l := l) (q := q) (Keep.refl H)).1
   have k2' := fun l q => (k2 (hp := H) (l := l) (q := q) (Keep.refl H)).1
   have c96 := cp (l := L) (p := L) (doubles96 (ro := ro) aH hz MH hx hr hi) (by omega) (by omega)
   have more : ((decide (i = p) || cellB x i p) && dblB z x i) = false → ∀ q, q < i + 1 → ((decide (q = p) || cellB x q p) && dblB z x q) = false := fun hf q hq => by
    rcases Nat.lt_or_ge q i with h | h
    ·exact hall q h
    ·obtain rfl : q = i := by omega
     exact hf
   cases hd : dblB z x i <;> rw [hd] at c96 <;> by_cases hip : i = p
   ·have e : eqI (i : Int) (p : Int) = true := by rw [hip]; exact qed _
    exact .inl ⟨_, (by simp only [g64_b0, fB, ltT (show (i : Int) < (z.length : Int) by omega), cT, e, oS, dA, mC, c96, pS, bS, cF, fI', nx (show i ≤ 1000000 by omega)] <;> rfl), rfl, more (by rw [hd, Bool.and_false])⟩
   ·have e : eqI (i : Int) (p : Int) = false := qdn (by omega)
    cases hc : cellB x i p <;> rw [hc] at k2'
    ·exact .inl ⟨_, (by simp only [g64_b0, fB, ltT (show (i : Int) < (z.length : Int) by omega), cT, e, cF, fa1, d1, j1, j3', k1, k2', bS, oS, fI', nx (show i ≤ 1000000 by omega)] <;> rfl), rfl, more (by rw [hd, Bool.and_false])⟩
    ·exact .inl ⟨_, (by simp only [g64_b0, fB, ltT (show (i : Int) < (z.length : Int) by omega), cT, e, cF, fa1, d1, j1, j3', k1, k2', bS, oS, dA, mC, c96, pS, fI', nx (show i ≤ 1000000 by omega)] <;> rfl), rfl, more (by rw [hd, Bool.and_false])⟩
   ·have e : eqI (i : Int) (p : Int) = true := by rw [hip]; exact qed _
    exact .inr ⟨_, (by simp only [g64_b0, fB, ltT (show (i : Int) < (z.length : Int) by omega), cT, e, oS, dA, mC, c96, pS, bS] <;> rfl), .inr ⟨rfl, i, hi, by rw [hd, hip]; simp⟩⟩
   ·have e : eqI (i : Int) (p : Int) = false := qdn (by omega)
    cases hc : cellB x i p <;> rw [hc] at k2'
    ·exact .inl ⟨_, (by simp only [g64_b0, fB, ltT (show (i : Int) < (z.length : Int) by omega), cT, e, cF, fa1, d1, j1, j3', k1, k2', bS, oS, fI', nx (show i ≤ 1000000 by omega)] <;> rfl), rfl, more (by rw [hc]; simp [hip])⟩
    ·exact .inr ⟨_, (by simp only [g64_b0, fB, ltT (show (i : Int) < (z.length : Int) by omega), cT, e, cF, fa1, d1, j1, j3', k1, k2', bS, oS, dA, mC, c96, pS] <;> rfl), .inr ⟨rfl, i, hi, by rw [hd, hc]; simp⟩⟩
  ·rintro s ⟨rfl, hall⟩
   exact ⟨_, (by simp only [g64_b0, fB, ltF (Int.lt_irrefl _), cF] <;> rfl), .inl ⟨rfl, hall⟩⟩
 obtain ⟨r, e1, e2⟩ := key
 refine g64_ok (qax F1 ro) (Ovr.no rfl) ?_
 unfold g64
 simp only [← hL, b1, pS, fa0, d0, oS, len_S aH, iS, qat, e1]
 rcases e2 with ⟨rfl, hall⟩ | ⟨rfl, q, hq, hq2⟩
 ·have : expB z x p = false := by
   unfold expB
   rw [List.any_eq_false]
   intro q hq
   rw [hall q (List.mem_range.1 hq)]
   decide
  rw [this]
  simp only [tA]
  subst hL
  exact qcg kH rfl
 ·have : expB z x p = true := by
   unfold expB
   rw [List.any_eq_true]
   exact ⟨q, List.mem_range.2 hq, hq2⟩
  rw [this]
  simp only [tA]
  subst hL
  exact qcg kH rfl
end
end Go.Proofs.Ytfohppnelbbepaa.T
/- The closure -/
open Go.Vm
set_option linter.unusedVariables false
set_option linter.unusedSectionVars false
namespace Go.Proofs.Ytfohppnelbbepaa.T
open Go
variable [Ovr]
/- what comes of what: the closure -/
theorem dot95_iff {row : List Bool} {xb : List (List Bool)} {j : Nat} : ∀ k, dot95 row xb j k = true ↔ ∃ t, t < k ∧ row.getD t false = true ∧ cellB xb t j = true
 | 0 => ⟨fun h => (by cases h), fun ⟨t, h, _⟩ => (by omega)⟩
 | k + 1 => by
  have ih := dot95_iff (row := row) (xb := xb) (j := j) k
  have e : dot95 row xb j (k + 1) = (dot95 row xb j k || (row.getD k false && cellB xb k j)) := rfl
  rw [e, Bool.or_eq_true, Bool.and_eq_true, ih]
  constructor
  ·rintro (⟨t, h1, h2⟩ | h)
   ·exact ⟨t, by omega, h2⟩
   ·exact ⟨k, by omega, h⟩
  ·rintro ⟨t, h1, h2⟩
   by_cases e : t = k
   ·subst e; exact .inr h2
   ·exact .inl ⟨t, by omega, h2⟩
theorem prod95_cell {xa xb : List (List Bool)} {p q : Nat} (hp : p < xa.length) (hq : q < (xb.getD 0 []).length) : cellB (prod95 xa xb) p q = dot95 (xa.getD p []) xb q xb.length := by
 have e : xa.getD p [] = xa[p] := by simp [List.getD, hp]
 have e1 : (prod95 xa xb).getD p [] = (List.range (xb.getD 0 []).length).map fun j => dot95 xa[p] xb j xb.length := by
  unfold prod95
  rw [List.getD_eq_getElem?_getD, List.getElem?_map, List.getElem?_eq_getElem hp]
  rfl
 unfold cellB
 rw [e, e1, List.getD_eq_getElem?_getD, List.getElem?_map, List.getElem?_range hq]
 rfl
def RK (z : List (List UInt8)) (k p q : Nat) : Prop := cellB (descK z k) p q = true
theorem RK_succ {z : List (List UInt8)} (h1 : 1 ≤ z.length) {k p q : Nat} (hp : p < z.length) (hq : q < z.length) : RK z (k + 1) p q ↔ ∃ t, t < z.length ∧ RK z k p t ∧ (RK z 0 t q ∨ t = q) := by
 obtain ⟨d1, d2⟩ := qev z z.length (Nat.le_refl _)
 obtain ⟨g1, -⟩ := descK_dim z h1 k
 unfold RK
 show cellB (prod95 (descK z k) (stayK z z.length)) p q = true ↔ _
 rw [prod95_cell (by omega) (by rw [d2 0 (by omega)]; exact hq), dot95_iff, d1]
 constructor
 ·rintro ⟨t, ht, r1, r2⟩
  rw [stayK_cell z z.length (Nat.le_refl _) t q ht hq, Bool.or_eq_true, decide_eq_true_eq] at r2
  refine ⟨t, ht, r1, ?_⟩
  rcases r2 with r2 | r2
  ·exact .inl r2
  ·exact .inr r2.1
 ·rintro ⟨t, ht, r1, r2⟩
  refine ⟨t, ht, r1, ?_⟩
  rw [stayK_cell z z.length (Nat.le_refl _) t q ht hq, Bool.or_eq_true, decide_eq_true_eq]
  rcases r2 with r2 | r2
  ·exact .inl r2
  ·exact .inr ⟨r2, ht⟩
theorem RK_up {z : List (List UInt8)} (h1 : 1 ≤ z.length) {k p q : Nat} (hp : p < z.length) (hq : q < z.length) (h : RK z k p q) : RK z (k + 1) p q := (RK_succ h1 hp hq).2 ⟨q, hq, h, .inr rfl⟩
def cntR (z : List (List UInt8)) (k p : Nat) : Nat → Nat
 | 0 => 0
 | m + 1 => cntR z k p m + if cellB (descK z k) p m = true then 1 else 0
theorem cntR_le (z : List (List UInt8)) (k p : Nat) : ∀ m, cntR z k p m ≤ m
 | 0 => Nat.le_refl _
 | m + 1 => by have := cntR_le z k p m; unfold cntR; split <;> omega
theorem cntR_up {z : List (List UInt8)} (h1 : 1 ≤ z.length) {k p : Nat} (hp : p < z.length) : ∀ m, m ≤ z.length → cntR z k p m ≤ cntR z (k + 1) p m ∧ (cntR z k p m = cntR z (k + 1) p m → ∀ q, q < m → RK z (k + 1) p q → RK z k p q)
 | 0, _ => ⟨Nat.le_refl _, fun _ q hq => by omega⟩
 | m + 1, hm => by
  obtain ⟨g1, g2⟩ := cntR_up h1 (k := k) hp m (by omega)
  have hu := RK_up h1 (k := k) hp (show m < z.length by omega)
  unfold RK at hu g2 ⊢
  unfold cntR
  by_cases a : cellB (descK z k) p m = true
  ·rw [if_pos a, if_pos (hu a)]
   refine ⟨by omega, fun e q hq hd => ?_⟩
   rcases Nat.lt_or_ge q m with h | h
   ·exact g2 (by omega) q h hd
   ·obtain rfl : q = m := by omega
    exact a
  ·rw [if_neg a]
   by_cases b : cellB (descK z (k + 1)) p m = true
   ·rw [if_pos b]; exact ⟨by omega, fun e => by omega⟩
   ·rw [if_neg b]
    refine ⟨by omega, fun e q hq hd => ?_⟩
    rcases Nat.lt_or_ge q m with h | h
    ·exact g2 (by omega) q h hd
    ·obtain rfl : q = m := by omega
     exact absurd hd b
theorem RK_stop {z : List (List UInt8)} (h1 : 1 ≤ z.length) {p : Nat} (hp : p < z.length) : ∀ m, (∃ k, k < m ∧ ∀ q, q < z.length → RK z (k + 1) p q → RK z k p q) ∨ m ≤ cntR z m p z.length
 | 0 => .inr (Nat.zero_le _)
 | m + 1 => by
  rcases RK_stop h1 hp m with ⟨k, h2, h3⟩ | h
  ·exact .inl ⟨k, by omega, h3⟩
  ·obtain ⟨g1, g2⟩ := cntR_up h1 (k := m) hp z.length (Nat.le_refl _)
   by_cases e : cntR z m p z.length = cntR z (m + 1) p z.length
   ·exact .inl ⟨m, by omega, g2 e⟩
   ·exact .inr (by omega)
theorem RK_mono {z : List (List UInt8)} (h1 : 1 ≤ z.length) {k p q : Nat} (hp : p < z.length) (hq : q < z.length) (h : RK z k p q) : ∀ j, RK z (k + j) p q
 | 0 => h
 | j + 1 => RK_up h1 hp hq (RK_mono h1 hp hq h j)
theorem RK_all {z : List (List UInt8)} (h1 : 1 ≤ z.length) {p : Nat} (hp : p < z.length) (j : Nat) : ∀ q, q < z.length → RK z j p q → RK z z.length p q := by
 have hex : ∃ k, k ≤ z.length ∧ ∀ q, q < z.length → RK z (k + 1) p q → RK z k p q := by
  rcases RK_stop h1 hp (z.length + 1) with ⟨k, h2, h3⟩ | h
  ·exact ⟨k, by omega, h3⟩
  ·have := cntR_le z (z.length + 1) p z.length; omega
 obtain ⟨k, hk, hst⟩ := hex
 have hall : ∀ i q, q < z.length → RK z (k + i) p q → RK z k p q := by
  intro i
  induction i with
  | zero => exact fun q _ h => h
  | succ i ih =>
   intro q hq h
   refine hst q hq ?_
   have h' : RK z (k + i + 1) p q := h
   rw [RK_succ h1 hp hq] at h' ⊢
   obtain ⟨t, ht, r1, r2⟩ := h'
   exact ⟨t, ht, ih t ht r1, r2⟩
 intro q hq h
 have h2 : RK z k p q := by
  rcases Nat.lt_or_ge j k with hlt | hge
  ·have := RK_mono h1 hp hq h (k - j)
   rw [show j + (k - j) = k by omega] at this
   exact hall 0 q hq this
  ·exact hall (j - k) q hq (by rw [show k + (j - k) = j by omega]; exact h)
 have := RK_mono h1 hp hq h2 (z.length - k)
 rwa [show k + (z.length - k) = z.length by omega] at this
theorem RK_trans {z : List (List UInt8)} (h1 : 1 ≤ z.length) {p t : Nat} (hp : p < z.length) (ht : t < z.length) (h : RK z z.length p t) : ∀ (j q : Nat), q < z.length → RK z j t q → RK z z.length p q
 | 0, q, hq, h2 => RK_all h1 hp (z.length + 1) q hq ((RK_succ h1 hp hq).2 ⟨t, ht, h, .inl h2⟩)
 | j + 1, q, hq, h2 => by
  obtain ⟨u, hu, r1, r2⟩ := (RK_succ h1 ht hq).1 h2
  have g := RK_trans h1 hp ht h j u hu r1
  rcases r2 with r2 | rfl
  ·exact RK_all h1 hp (z.length + 1) q hq ((RK_succ h1 hp hq).2 ⟨u, hu, g, .inl r2⟩)
  ·exact g
end Go.Proofs.Ytfohppnelbbepaa.T
/- circles -/
open Go.Vm
set_option linter.unusedVariables false
set_option linter.unusedSectionVars false
namespace Go.Proofs.Ytfohppnelbbepaa.T
open Go
variable [Ovr]
def mxU (g : Nat → Nat) (c : Nat → Bool) : Nat → Nat
 | 0 => 0
 | j + 1 => if c j = true then max (mxU g c j) (g j) else mxU g c j
def circN (n : Nat) (x : List (List Bool)) : Nat → Nat → Nat
 | 0, _ => 0
 | f + 1, p => mxU (circN n x f) (fun q => cellB x q p && !cellB x p q) n + if cellB x p p = true then 1 else 0
theorem mxU_le {g : Nat → Nat} {c : Nat → Bool} {b : Nat} (h : ∀ q, g q ≤ b) : ∀ j, mxU g c j ≤ b
 | 0 => Nat.zero_le _
 | j + 1 => by
  have h1 := mxU_le (c := c) h j
  have h2 := h j
  unfold mxU
  split
  ·omega
  ·exact h1
theorem circN_le (n : Nat) (x : List (List Bool)) : ∀ f p, circN n x f p ≤ f
 | 0, _ => Nat.le_refl _
 | f + 1, p => by
  have := mxU_le (c := fun q => cellB x q p && !cellB x p q) (circN_le n x f) n
  unfold circN
  split <;> omega
def kids (x : List (List Bool)) (p : Nat) : Nat → Nat
 | 0 => 0
 | m + 1 => kids x p m + if (decide (m = p) || cellB x m p) = true then 1 else 0
theorem kids_le (x : List (List Bool)) (p : Nat) : ∀ m, kids x p m ≤ m
 | 0 => Nat.le_refl _
 | m + 1 => by have := kids_le x p m; unfold kids; split <;> omega
theorem kids_lt {x : List (List Bool)} {n p q : Nat} (htr : ∀ r s t, r < n → s < n → t < n → cellB x r s = true → cellB x s t = true → cellB x r t = true) (hp : p < n) (hq : q < n) (h1 : cellB x q p = true) (h2 : cellB x p q = false) : ∀ m, m ≤ n → kids x q m ≤ kids x p m ∧ (p < m → kids x q m < kids x p m)
 | 0, _ => ⟨Nat.le_refl _, fun h => by omega⟩
 | m + 1, hm => by
  obtain ⟨g1, g2⟩ := kids_lt htr hp hq h1 h2 m (by omega)
  have hne : p ≠ q := fun e => by subst e; rw [h1] at h2; cases h2
  have hsub : (decide (m = q) || cellB x m q) = true → (decide (m = p) || cellB x m p) = true := fun h => by
   rw [Bool.or_eq_true, decide_eq_true_eq] at h ⊢
   rcases h with rfl | h
   ·exact .inr h1
   ·exact .inr (htr m q p (by omega) hq hp h h1)
  unfold kids
  by_cases a : (decide (m = q) || cellB x m q) = true
  ·rw [if_pos a, if_pos (hsub a)]
   refine ⟨by omega, fun h => ?_⟩
   rcases Nat.lt_or_ge p m with h3 | h3
   ·have := g2 h3; omega
   ·obtain rfl : p = m := by omega
    rw [Bool.or_eq_true, decide_eq_true_eq] at a
    rcases a with a | a
    ·exact absurd a hne
    ·rw [a] at h2; cases h2
  ·rw [if_neg a]
   refine ⟨by split <;> omega, fun h => ?_⟩
   rcases Nat.lt_or_ge p m with h3 | h3
   ·have := g2 h3; split <;> omega
   ·obtain rfl : p = m := by omega
    have e : (decide (p = p) || cellB x p p) = true := by simp
    rw [if_pos e]; omega
section
variable {ro : List ABlk}
theorem mx_nat (a b : Nat) : mxV true (a : Int) (b : Int) = ((max a b : Nat) : Int) := by
 unfold mxV
 simp only [ltI_eq]
 by_cases h : a < b
 ·simp [h]; omega
 ·simp [h]; omega
theorem circles65 {z : List (List UInt8)} {x : List (List Bool)} (hz : VOk z) (hx : x.length = z.length) (hr : ∀ r ∈ x, r.length = z.length) (htr : ∀ r s t, r < z.length → s < z.length → t < z.length → cellB x r s = true → cellB x s t = true → cellB x r t = true) :
  ∀ (f : Nat), f ≤ 20 → ∀ {h : Heap} {v w : AVal} {p : Nat}, IsS ro h v z → IsM eB ro h w x → p < z.length → kids x p z.length ≤ f → callX F1 ro 65 [.agg [v, w], .i .i64 (p : Int)] h = some (.i .i64 ((circN z.length x f p : Nat) : Int), h, h.length, h.length)
 | 0, _, h, v, w, p, a, M, hp, hk => by
  have e : (decide (p = p) || cellB x p p) = true := by simp
  have : ∀ m, p < m → 1 ≤ kids x p m := fun m => by
   induction m with
   | zero => intro h; omega
   | succ m ih =>
    intro h
    unfold kids
    rcases Nat.lt_or_ge p m with h3 | h3
    ·have := ih h3; omega
    ·obtain rfl : p = m := by omega
     rw [if_pos e]; omega
  have := this _ hp
  omega
 | f + 1, hf, h, v, w, p, a, M, hp, hk => by
  have n6 := hz.h6
  obtain ⟨L, hL⟩ : ∃ L, L = h.length := ⟨_, rfl⟩
  obtain ⟨H, hH⟩ : ∃ H, H = h ++ [some (blkOf 85 [v, w])] := ⟨_, rfl⟩
  have b1 := box2 (ro := ro) (hp := h) (e := 85) (l := L) (p := L) (v := v) (w := w)
  rw [← hH, ← hL] at b1
  have lH : H.length = L + 1 := by rw [hH, hL]; simp
  have kH : Keep h H := by rw [hH]; exact Keep.app _
  have gH : Holds H L [v, w] := by rw [hH, hL]; exact Holds.new _ _ _
  have d0 := fun l q => (gH.ld (ro := ro) (k := 0) rfl l q).1
  have d1 := fun l q => (gH.ld (ro := ro) (k := 1) rfl l q).1
  have dA := gH.all (ro := ro) (l := L) (p := L) (n := 2) rfl
  have aH := S_by a kH
  have MH := M_by M kH
  have cell : ∀ i j, i < z.length → j < z.length → ∃ p2 u p3, evP .e (.ixS 1 (.c w) (.c (.i .i64 (i : Int)))) = some p2 ∧ (∀ l q, ldM ro ⟨H, l, q⟩ true 1 p2 = some u) ∧ evP .e (.ixS 1 (.c u) (.c (.i .i64 (j : Int)))) = some p3 ∧ ∀ l q, ldM ro ⟨H, l, q⟩ true 1 p3 = some (.b (cellB x i j)) := fun i j hi hj => by
   obtain ⟨g1, g2⟩ := dims_get hx hr hi hj
   obtain ⟨p2, u, j1, j2, j3⟩ := at_M MH g1
   obtain ⟨p3, k1, k2⟩ := at_R j2 g2
   exact ⟨p2, u, p3, j1, fun l q => (j3 (hp := H) (l := l) (q := q) (Keep.refl H)).1, k1, fun l q => (k2 (hp := H) (l := l) (q := q) (Keep.refl H)).1⟩
  obtain ⟨c, hc⟩ : ∃ c : Nat → Bool, c = fun q => cellB x q p && !cellB x p q := ⟨_, rfl⟩
  have key : ∃ r, loopX (fun q : Int × Int × Mm => g65_b0 (qbn F1 ro) ro (p : Int) (.p (some ⟨false, L, 0⟩)) (z.length : Int) q.1 q.2.1 q.2.2) (0, 0, ⟨H, L, L⟩) = some r ∧ r = (((mxU (circN z.length x f) c z.length : Nat) : Int), ⟨H, L, L⟩) := by
   refine qbo z.length (fun i s => s = (((mxU (circN z.length x f) c i : Nat) : Int), (i : Int), ⟨H, L, L⟩)) _ ?_ ?_ z.length 0 _ (by omega) rfl
   ·rintro i s hi rfl
    obtain ⟨p2, u, p3, i1, i2, i3, i4⟩ := cell i p hi hp
    obtain ⟨p4, u', p5, j1, j2, j3, j4⟩ := cell p i hp hi
    have e : mxU (circN z.length x f) c (i + 1) = if c i = true then max (mxU (circN z.length x f) c i) (circN z.length x f i) else mxU (circN z.length x f) c i := rfl
    rw [e, hc]
    cases h1 : cellB x i p with
    | false =>
     rw [h1] at i4
     refine ⟨_, (by simp only [g65_b0, fB, ltT (show (i : Int) < (z.length : Int) by omega), cT, fa1, oS, d1, i1, i2, i3, i4, bS, cF, fI', nx (show i ≤ 1000000 by omega)] <;> rfl), by simp [h1]⟩
    | true =>
     rw [h1] at i4
     cases h2 : cellB x p i with
     | true =>
      rw [h2] at j4
      refine ⟨_, (by simp only [g65_b0, fB, ltT (show (i : Int) < (z.length : Int) by omega), cT, fa1, oS, d1, i1, i2, i3, i4, bS, j1, j2, j3, j4, nT, cF, fI', nx (show i ≤ 1000000 by omega)] <;> rfl), by simp [h1, h2]⟩
     | false =>
      rw [h2] at j4
      have hlt := (kids_lt htr hp hi h1 h2 z.length (Nat.le_refl _)).2 hp
      have crec := cp (l := L) (p := L) (circles65 hz hx hr htr f (by omega) (p := i) aH MH hi (by omega)) (by omega) (by omega)
      refine ⟨_, (by simp only [g65_b0, fB, ltT (show (i : Int) < (z.length : Int) by omega), cT, fa1, oS, d1, i1, i2, i3, i4, bS, j1, j2, j3, j4, nF, dA, mC, crec, pS, iS, fI', mx_nat, nx (show i ≤ 1000000 by omega)] <;> rfl), by simp [h1, h2]⟩
   ·rintro s rfl
    exact ⟨_, (by simp only [g65_b0, fB, ltF (Int.lt_irrefl _), cF] <;> rfl), rfl⟩
  obtain ⟨r, e1, rfl⟩ := key
  obtain ⟨p2, u, p3, i1, i2, i3, i4⟩ := cell p p hp hp
  have hle := mxU_le (c := c) (circN_le z.length x f) z.length
  have ecirc : circN z.length x (f + 1) p = mxU (circN z.length x f) c z.length + if cellB x p p = true then 1 else 0 := by rw [hc]; rfl
  refine g65_ok (qax F1 ro) (Ovr.no rfl) ?_
  unfold g65
  rw [ecirc]
  cases hpp : cellB x p p with
  | true =>
   rw [hpp] at i4
   simp only [← hL, b1, pS, fa0, d0, oS, len_S aH, iS, qat, e1, fa1, d1, i1, i2, i3, i4, bS, cT, fI', nx (show mxU (circN z.length x f) c z.length ≤ 1000000 by omega), if_true, tA]
   subst hL
   exact qcg kH rfl
  | false =>
   rw [hpp] at i4
   simp only [← hL, b1, pS, fa0, d0, oS, len_S aH, iS, qat, e1, fa1, d1, i1, i2, i3, i4, bS, cF, tA]
   subst hL
   exact qcg kH rfl
end
end Go.Proofs.Ytfohppnelbbepaa.T
/- Kind -/
open Go.Vm
set_option linter.unusedVariables false
set_option linter.unusedSectionVars false
namespace Go.Proofs.Ytfohppnelbbepaa.T
open Go
variable [Ovr]
noncomputable def kindV (z : List (List UInt8)) (s : List UInt8) : Int × Int × Int :=
 if errS z s ≠ 0 then (0, 0, errS z s) else
 if (s.any fun b => expB z (descK z z.length) (ix b)) = true then (3, 0, 0) else
 if mxU (fun i => circN z.length (descK z z.length) z.length (ix (s.getD i 0))) (fun _ => true) s.length < 2 then (((mxU (fun i => circN z.length (descK z z.length) z.length (ix (s.getD i 0))) (fun _ => true) s.length : Nat) : Int), 0, 0) else
 (2, ((mxU (fun i => circN z.length (descK z z.length) z.length (ix (s.getD i 0))) (fun _ => true) s.length : Nat) : Int) - 1, 0)
theorem desc_tr {z : List (List UInt8)} (hz : VOk z) : ∀ r s t, r < z.length → s < z.length → t < z.length → cellB (descK z z.length) r s = true → cellB (descK z z.length) s t = true → cellB (descK z z.length) r t = true :=
 fun r s t hr hs ht h1 h2 => RK_trans hz.h1 hr hs h1 z.length t ht h2
section
variable {ro : List ABlk} {h hp : Heap}
set_option maxHeartbeats 1000000 in
theorem kind28 {v : AVal} {z : List (List UInt8)} {s : List UInt8} (a : IsS ro h v z) (hf : z.length ≤ 1000000 ∧ (∀ i, i < z.length → (z.getD i []).length ≤ 1000000) ∧ s.length ≤ 1000000) :
  callX F1 ro 28 [v, .s s] h = some (.tup [.i .i64 (kindV z s).1, .i .i64 (kindV z s).2.1, .i .i64 (kindV z s).2.2], h, h.length, h.length) := by
 refine g28_ok (qax F1 ro) (Ovr.no rfl) ?_
 unfold g28
 simp only [mC, cp0 (read60 (s := s) a hf.1 hf.2.1 hf.2.2), pS, x0, x1, oS, iS, fB]
 by_cases hS : errS z s = 0
 rotate_left
 ·have e : kindV z s = (0, 0, errS z s) := by unfold kindV; rw [if_pos hS]
  simp only [qdn hS, nF, cT, e, tA3]
  exact qay rfl
 have e0 : eqI (errS z s) 0 = true := by rw [hS]; rfl
 have vok := VOk.of (errS_V hS)
 have n6 := vok.h6
 obtain ⟨hs30, hsh⟩ := errS_ok hS
 obtain ⟨x, hx⟩ : ∃ x, x = descK z z.length := ⟨_, rfl⟩
 obtain ⟨xl, xr⟩ := descK_dim z vok.h1 z.length
 have htr := desc_tr vok
 obtain ⟨w, H1, c63, k1, M1⟩ := descent63 (ro := ro) a vok
 rw [← hx] at xl xr htr M1
 obtain ⟨m, hm⟩ : ∃ m : Nat → Nat, m = fun i => circN z.length x z.length (ix (s.getD i 0)) := ⟨_, rfl⟩
 have hml : ∀ j, mxU m (fun _ => true) j ≤ z.length := mxU_le fun i => by rw [hm]; exact circN_le _ _ _ _
 have e : kindV z s = if (s.any fun b => expB z x (ix b)) = true then ((3 : Int), (0 : Int), (0 : Int)) else if mxU m (fun _ => true) s.length < 2 then (((mxU m (fun _ => true) s.length : Nat) : Int), (0 : Int), (0 : Int)) else ((2 : Int), ((mxU m (fun _ => true) s.length : Nat) : Int) - 1, (0 : Int)) := by unfold kindV; rw [if_neg (fun e => e hS), hm, hx]
 obtain ⟨L, hL⟩ : ∃ L, L = h.length := ⟨_, rfl⟩
 have q1 := k1.1
 have c63' := cM (l := L) (p := L) c63 (by omega) (by omega)
 have b2 := al_ok (ro := ro) (hp := H1) (l := L) (p := L) 85 [AVal.nsl, AVal.nsl]
 obtain ⟨B, hB⟩ : ∃ B, B = H1.length := ⟨_, rfl⟩
 obtain ⟨H2, hH2⟩ : ∃ H2, H2 = H1 ++ [some (blkOf 85 [AVal.nsl, AVal.nsl])] := ⟨_, rfl⟩
 rw [← hH2, ← hB] at b2
 have k2 : Keep H1 H2 := by rw [hH2]; exact Keep.app _
 have g2 : Holds H2 B [AVal.nsl, AVal.nsl] := by rw [hH2, hB]; exact Holds.new _ _ _
 have hag : ones [v, w] = true := by
  have h1 : v.one = true := by rcases a with ⟨rfl, -⟩ | ⟨q, cap, blk, rfl, -⟩ <;> rfl
  have h2 : w.one = true := by rcases M1 with ⟨rfl, -⟩ | ⟨q, cap, blk, rfl, -⟩ <;> rfl
  simp [ones, h1, h2]
 obtain ⟨H3, s1, g3, l3, o3, kh3⟩ := g2.st (ro := ro) (h := h) (n := 2) (v := .agg [v, w]) (vs' := [v, w]) rfl rfl rfl hag (by omega) (k1.trans k2)
 rw [← hL] at s1
 have k3 : Keep H1 H3 := ⟨by have := k2.1; omega, fun i hi => by rw [o3 i (by omega), k2.2 i hi]⟩
 have dA := fun l p => g3.all (ro := ro) (l := l) (p := p) (n := 2) rfl
 have aH := S_by a kh3
 have MH := M_by M1 k3
 have hq3 := kh3.1
 have key : ∃ r, loopX (fun q : Int × Int × Mm => g28_b0 (qbn F1 ro) ro s (.p (some ⟨false, B, 0⟩)) (s.length : Int) q.1 q.2.1 q.2.2) (0, 0, ⟨H3, L, L⟩) = some r ∧ ((r = .inl (((mxU m (fun _ => true) s.length : Nat) : Int), ⟨H3, L, L⟩) ∧ ∀ i, i < s.length → expB z x (ix (s.getD i 0)) = false) ∨ (r = .inr (3, 0, 0, ⟨H3, L, L⟩) ∧ ∃ i, i < s.length ∧ expB z x (ix (s.getD i 0)) = true)) := by
  refine loop_exit s.length (fun i q => q = (((mxU m (fun _ => true) i : Nat) : Int), (i : Int), ⟨H3, L, L⟩) ∧ ∀ t, t < i → expB z x (ix (s.getD t 0)) = false) _ ?_ ?_ s.length 0 _ (by omega) ⟨rfl, fun t h => by omega⟩
  ·rintro i q hi ⟨rfl, hall⟩
   have hb := hsh i hi
   have hxl := ix_lt hb
   have c54 := cp (l := L) (p := L) (part_of (ro := ro) (h := H3) hb) (by omega) (by omega)
   have c64 := cp (l := L) (p := L) (explodes64 (ro := ro) aH vok MH xl xr hxl) (by omega) (by omega)
   have c65 := cp (l := L) (p := L) (circles65 (ro := ro) vok xl xr htr z.length (by omega) aH MH hxl (kids_le x _ _)) (by omega) (by omega)
   cases he : expB z x (ix (s.getD i 0)) with
   | true =>
    rw [he] at c64
    exact .inr ⟨_, (by simp only [g28_b0, fB, ltT (show (i : Int) < (s.length : Int) by omega), cT, qde hi, oS, iS, mC, c54, pS, dA, c64, bS] <;> rfl), .inr ⟨rfl, i, hi, he⟩⟩
   | false =>
    rw [he] at c64
    have em : mxU m (fun _ => true) (i + 1) = max (mxU m (fun _ => true) i) (circN z.length x z.length (ix (s.getD i 0))) := by
     show (if (true : Bool) = true then max (mxU m (fun _ => true) i) (m i) else _) = _
     rw [if_pos rfl, hm]
    exact .inl ⟨_, (by simp only [g28_b0, fB, ltT (show (i : Int) < (s.length : Int) by omega), cT, qde hi, oS, iS, mC, c54, pS, dA, c64, bS, cF, c65, fI', mx_nat, nx (show i ≤ 1000000 by omega)] <;> rfl), by rw [em], fun t ht => by
     rcases Nat.lt_or_ge t i with h | h
     ·exact hall t h
     ·obtain rfl : t = i := by omega
      exact he⟩
  ·rintro q ⟨rfl, hall⟩
   exact ⟨_, (by simp only [g28_b0, fB, ltF (Int.lt_irrefl _), cF] <;> rfl), .inl ⟨rfl, hall⟩⟩
 obtain ⟨r, e1, e2⟩ := key
 have fa : (fillA [AVal.nsl, AVal.nsl] [((0, 1), v), ((1, 1), w)]).map AVal.agg = some (.agg [v, w]) := by
  simp [fillA, cells_S a, (M_cells M1).1, splice]
 rw [e]
 simp only [← hL, e0, nT, cF, if_pos hS, c63', pS, fa, oS, b2, s1, qbr, iS, qat, e1]
 rcases e2 with ⟨rfl, hall⟩ | ⟨rfl, i, hi, he⟩
 ·have hany : ¬ (s.any fun b => expB z x (ix b)) = true := fun h => by
   rw [List.any_eq_true] at h
   obtain ⟨b, hb, h2⟩ := h
   obtain ⟨i, hi, rfl⟩ := List.getElem_of_mem hb
   have := hall i hi
   rw [show s.getD i 0 = s[i] by simp [List.getD, hi], h2] at this
   cases this
  have := hml s.length
  rw [if_neg hany]
  by_cases h2 : mxU m (fun _ => true) s.length < 2
  ·rw [if_pos h2]
   simp only [ltT (show ((mxU m (fun _ => true) s.length : Nat) : Int) < 2 by omega), cT, tA3]
   subst hL
   exact qcg kh3 rfl
  ·rw [if_neg h2]
   have w1 : wr .i64 (((mxU m (fun _ => true) s.length : Nat) : Int) - 1) = ((mxU m (fun _ => true) s.length : Nat) : Int) - 1 := wr_id' (by omega) (by omega)
   simp only [ltF (show ¬ ((mxU m (fun _ => true) s.length : Nat) : Int) < 2 by omega), cF, fI', w1, tA3]
   subst hL
   exact qcg kh3 rfl
 ·have hany : (s.any fun b => expB z x (ix b)) = true := by
   rw [List.any_eq_true]
   exact ⟨s[i], List.getElem_mem hi, by rw [show s.getD i 0 = s[i] by simp [List.getD, hi]] at he; exact he⟩
  rw [if_pos hany]
  simp only [tA3]
  subst hL
  exact qcg kh3 rfl
end
end Go.Proofs.Ytfohppnelbbepaa.T
/- circles and doubles of the reference -/
open Go.Vm
set_option linter.unusedVariables false
set_option linter.unusedSectionVars false
namespace Go.Proofs.Ytfohppnelbbepaa.T
open Go
variable [Ovr]
section
variable {ro : List ABlk}
theorem circles68 {z : List (List UInt8)} {x y : List (List Bool)} (hz : VOk z) (hy : y.length = z.length) (hr : ∀ r ∈ y, r.length = z.length) (hT : ∀ p q, p < z.length → q < z.length → cellB y q p = cellB x p q) (htr : ∀ r s t, r < z.length → s < z.length → t < z.length → cellB x r s = true → cellB x s t = true → cellB x r t = true) :
  ∀ (f : Nat), f ≤ 20 → ∀ {h : Heap} {v w : AVal} {p : Nat}, IsS ro h v z → IsM eB ro h w y → p < z.length → kids x p z.length ≤ f → callX F1 ro 68 [v, w, .i .i64 (p : Int)] h = some (.i .i64 ((circN z.length x f p : Nat) : Int), h, h.length, h.length)
 | 0, _, h, v, w, p, a, M, hp, hk => by
  have e : (decide (p = p) || cellB x p p) = true := by simp
  have : ∀ m, p < m → 1 ≤ kids x p m := fun m => by
   induction m with
   | zero => intro h; omega
   | succ m ih =>
    intro h
    unfold kids
    rcases Nat.lt_or_ge p m with h3 | h3
    ·have := ih h3; omega
    ·obtain rfl : p = m := by omega
     rw [if_pos e]; omega
  have := this _ hp
  omega
 | f + 1, hf, h, v, w, p, a, M, hp, hk => by
  have n6 := hz.h6
  have cell : ∀ i j, i < z.length → j < z.length → ∃ p2 u p3, evP .e (.ixS 1 (.c w) (.c (.i .i64 (i : Int)))) = some p2 ∧ (∀ l q, ldM ro ⟨h, l, q⟩ true 1 p2 = some u) ∧ evP .e (.ixS 1 (.c u) (.c (.i .i64 (j : Int)))) = some p3 ∧ ∀ l q, ldM ro ⟨h, l, q⟩ true 1 p3 = some (.b (cellB x j i)) := fun i j hi hj => by
   obtain ⟨g1, g2⟩ := dims_get hy hr hi hj
   rw [hT j i hj hi] at g2
   obtain ⟨p2, u, j1, j2, j3⟩ := at_M M g1
   obtain ⟨p3, k1, k2⟩ := at_R j2 g2
   exact ⟨p2, u, p3, j1, fun l q => (j3 (hp := h) (l := l) (q := q) (Keep.refl h)).1, k1, fun l q => (k2 (hp := h) (l := l) (q := q) (Keep.refl h)).1⟩
  obtain ⟨c, hc⟩ : ∃ c : Nat → Bool, c = fun q => cellB x q p && !cellB x p q := ⟨_, rfl⟩
  have key : ∃ r, loopX (fun q : Int × Int × Mm => g68_b0 (qbn F1 ro) ro v w (p : Int) q.1 q.2.1 q.2.2) (0, 0, ⟨h, h.length, h.length⟩) = some r ∧ r = (((mxU (circN z.length x f) c z.length : Nat) : Int), ⟨h, h.length, h.length⟩) := by
   refine qbo z.length (fun i s => s = (((mxU (circN z.length x f) c i : Nat) : Int), (i : Int), ⟨h, h.length, h.length⟩)) _ ?_ ?_ z.length 0 _ (by omega) rfl
   ·rintro i s hi rfl
    obtain ⟨p2, u, p3, i1, i2, i3, i4⟩ := cell p i hp hi
    obtain ⟨p4, u', p5, j1, j2, j3, j4⟩ := cell i p hi hp
    have e : mxU (circN z.length x f) c (i + 1) = if c i = true then max (mxU (circN z.length x f) c i) (circN z.length x f i) else mxU (circN z.length x f) c i := rfl
    rw [e, hc]
    cases h1 : cellB x i p with
    | false =>
     rw [h1] at i4
     exact ⟨_, (by simp only [g68_b0, len_S a, fB, ltT (show (i : Int) < (z.length : Int) by omega), cT, oS, iS, i1, i2, i3, i4, bS, cF, fI', nx (show i ≤ 1000000 by omega)] <;> rfl), by simp [h1]⟩
    | true =>
     rw [h1] at i4
     cases h2 : cellB x p i with
     | true =>
      rw [h2] at j4
      exact ⟨_, (by simp only [g68_b0, len_S a, fB, ltT (show (i : Int) < (z.length : Int) by omega), cT, oS, iS, i1, i2, i3, i4, bS, j1, j2, j3, j4, nT, cF, fI', nx (show i ≤ 1000000 by omega)] <;> rfl), by simp [h1, h2]⟩
     | false =>
      rw [h2] at j4
      have hlt := (kids_lt htr hp hi h1 h2 z.length (Nat.le_refl _)).2 hp
      have crec := cp0 (circles68 hz hy hr hT htr f (by omega) (p := i) a M hi (by omega))
      exact ⟨_, (by simp only [g68_b0, len_S a, fB, ltT (show (i : Int) < (z.length : Int) by omega), cT, oS, iS, i1, i2, i3, i4, bS, j1, j2, j3, j4, nF, mC, crec, pS, fI', mx_nat, nx (show i ≤ 1000000 by omega)] <;> rfl), by simp [h1, h2]⟩
   ·rintro s rfl
    exact ⟨_, (by simp only [g68_b0, len_S a, oS, iS, fB, ltF (Int.lt_irrefl _), cF] <;> rfl), rfl⟩
  obtain ⟨r, e1, rfl⟩ := key
  obtain ⟨p2, u, p3, i1, i2, i3, i4⟩ := cell p p hp hp
  have hle := mxU_le (c := c) (circN_le z.length x f) z.length
  have ecirc : circN z.length x (f + 1) p = mxU (circN z.length x f) c z.length + if cellB x p p = true then 1 else 0 := by rw [hc]; rfl
  refine g68_ok (qax F1 ro) (Ovr.no rfl) ?_
  unfold g68
  rw [ecirc]
  cases hpp : cellB x p p with
  | true =>
   rw [hpp] at i4
   simp only [oS, qat, e1, i1, i2, i3, i4, bS, cT, fI', nx (show mxU (circN z.length x f) c z.length ≤ 1000000 by omega), if_true, tA]
   exact qay rfl
  | false =>
   rw [hpp] at i4
   simp only [oS, qat, e1, i1, i2, i3, i4, bS, cF, tA]
   exact qay rfl
theorem again67 {z : List (List UInt8)} {x y : List (List Bool)} {h : Heap} {v w : AVal} {p : Nat} (hz : VOk z) (hy : y.length = z.length) (hr : ∀ r ∈ y, r.length = z.length) (hT : ∀ p q, p < z.length → q < z.length → cellB y q p = cellB x p q) (hown : ∀ p b, p < z.length → b ∈ z.getD p [] → ix b = p → cellB x p p = true) (a : IsS ro h v z) (M : IsM eB ro h w y) (hp : p < z.length) :
  callX F1 ro 67 [v, w, .i .i64 (p : Int)] h = some (.i .i64 ((cntD z x p (z.getD p []).length : Nat) : Int), h, h.length, h.length) := by
 have n6 := hz.h6
 have h8 := hz.h8 p hp
 obtain ⟨s, hs⟩ : ∃ s, s = z.getD p [] := ⟨_, rfl⟩
 have hsh : has z.length s := by rw [hs]; exact hz.hh p hp
 obtain ⟨p1, i1, i2⟩ := at_S a hp
 have i2' := fun l q => (i2 (hp := h) (l := l) (q := q) (Keep.refl h)).1
 rw [← hs] at i2' h8
 have key : ∃ r, loopX (fun q : Int × Int => g67_b0 (qbn F1 ro) ro v w (p : Int) ⟨h, h.length, h.length⟩ q.1 q.2) (0, 0) = some r ∧ r = ((cntD z x p s.length : Nat) : Int) := by
  refine qbo s.length (fun j q => q = (((cntD z x p j : Nat) : Int), (j : Int)) ∧ cntD z x p j ≤ j) _ ?_ ?_ s.length 0 _ (by omega) ⟨by simp [cntD], Nat.zero_le _⟩
  ·rintro j q hj ⟨rfl, hle⟩
   have hb := hsh j hj
   have hxl := ix_lt hb
   have e2 : ix (s.getD j 0) ≤ 255 := by unfold ix; have := (s.getD j 0).toNat_lt; omega
   obtain ⟨g1, g2⟩ := dims_get hy hr hxl hp
   rw [hT p _ hp hxl] at g2
   obtain ⟨p2, u, j1, j2, j3⟩ := at_M M g1
   obtain ⟨p3, k1, k2⟩ := at_R j2 g2
   have j3' := fun l q => (j3 (hp := h) (l := l) (q := q) (Keep.refl h)).1
   have k2' := fun l q => (k2 (hp := h) (l := l) (q := q) (Keep.refl h)).1
   have estep : cntD z x p (j + 1) = cntD z x p j + if cellB x p (ix (s.getD j 0)) = true then 1 else 0 := by
    unfold cntD
    rw [← hs, take_snoc 0 hj, List.countP_append]
    congr 1
    by_cases e : cellB x p (ix (s.getD j 0)) = true
    ·rw [if_pos e, List.countP_cons, if_pos e]; rfl
    ·rw [if_neg e, List.countP_cons, if_neg e]; rfl
   by_cases hip : ix (s.getD j 0) = p
   ·have e : eqI ((ix (s.getD j 0) : Nat) : Int) (p : Int) = true := by rw [hip]; exact qed _
    have hmem : s.getD j 0 ∈ z.getD p [] := by
     rw [← hs, List.getD_eq_getElem?_getD, List.getElem?_eq_getElem hj]; exact List.getElem_mem hj
    have hcell := hown p _ hp hmem hip
    rw [hip, hcell, if_pos rfl] at estep
    exact ⟨_, (by simp only [g67_b0, i1, oS, i2', sS, qbr, iS, fB, ltT (show (j : Int) < (s.length : Int) by omega), cT, qde hj, fI', sub97 hb.1, lt64 (show ix (s.getD j 0) ≤ 9223372036854775807 by omega), e, nx (show cntD z x p j ≤ 1000000 by omega), nx (show j ≤ 1000000 by omega)] <;> rfl), by rw [estep], by omega⟩
   ·have e : eqI ((ix (s.getD j 0) : Nat) : Int) (p : Int) = false := qdn (by omega)
    cases hcell : cellB x p (ix (s.getD j 0)) with
    | true =>
     rw [hcell, if_pos rfl] at estep
     rw [hcell] at k2'
     exact ⟨_, (by simp only [g67_b0, i1, oS, i2', sS, qbr, iS, fB, ltT (show (j : Int) < (s.length : Int) by omega), cT, qde hj, fI', sub97 hb.1, lt64 (show ix (s.getD j 0) ≤ 9223372036854775807 by omega), e, cF, j1, j3', k1, k2', bS, nx (show cntD z x p j ≤ 1000000 by omega), nx (show j ≤ 1000000 by omega)] <;> rfl), by rw [estep], by omega⟩
    | false =>
     rw [hcell, if_neg (by decide)] at estep
     rw [hcell] at k2'
     exact ⟨_, (by simp only [g67_b0, i1, oS, i2', sS, qbr, iS, fB, ltT (show (j : Int) < (s.length : Int) by omega), cT, qde hj, fI', sub97 hb.1, lt64 (show ix (s.getD j 0) ≤ 9223372036854775807 by omega), e, cF, j1, j3', k1, k2', bS, nx (show j ≤ 1000000 by omega)] <;> rfl), by rw [estep]; rfl, by omega⟩
  ·rintro q ⟨rfl, hle⟩
   exact ⟨_, (by simp only [g67_b0, i1, oS, i2', sS, qbr, iS, fB, ltF (Int.lt_irrefl _), cF] <;> rfl), rfl⟩
 obtain ⟨r, e1, rfl⟩ := key
 refine g67_ok (qax F1 ro) (Ovr.no rfl) ?_
 unfold g67
 rw [← hs]
 simp only [qat, e1, oS, tA]
 exact qay rfl
end
end Go.Proofs.Ytfohppnelbbepaa.T
/- Warshall -/
open Go.Vm
set_option linter.unusedVariables false
set_option linter.unusedSectionVars false
namespace Go.Proofs.Ytfohppnelbbepaa.T
open Go
variable [Ovr]
/- Warshall: ways whose places between are below a number -/
def PW (E : Nat → Nat → Prop) : Nat → Nat → Nat → Prop
 | 0 => E
 | k + 1 => fun p q => PW E k p q ∨ (PW E k p k ∧ PW E k k q)
theorem PW_to {E : Nat → Nat → Prop} {k p : Nat} (h : PW E (k + 1) p k) : PW E k p k := by
 rcases h with h | h
 ·exact h
 ·exact h.1
theorem PW_of {E : Nat → Nat → Prop} {k q : Nat} (h : PW E (k + 1) k q) : PW E k k q := by
 rcases h with h | h
 ·exact h
 ·exact h.2
theorem PW_tr {E : Nat → Nat → Prop} : ∀ (k : Nat) {p t q : Nat}, t < k → PW E k p t → PW E k t q → PW E k p q
 | 0, p, t, q, h, _, _ => by omega
 | k + 1, p, t, q, h, h1, h2 => by
  by_cases e : t = k
  ·subst e
   exact .inr ⟨PW_to h1, PW_of h2⟩
  ·have ht : t < k := by omega
   rcases h1 with a | ⟨a1, a2⟩
   ·rcases h2 with b | ⟨b1, b2⟩
    ·exact .inl (PW_tr k ht a b)
    ·exact .inr ⟨PW_tr k ht a b1, b2⟩
   ·rcases h2 with b | ⟨b1, b2⟩
    ·exact .inr ⟨a1, PW_tr k ht a2 b⟩
    ·exact .inr ⟨a1, b2⟩
theorem PW_mono {E : Nat → Nat → Prop} {p q : Nat} (h : E p q) : ∀ k, PW E k p q
 | 0 => h
 | k + 1 => .inl (PW_mono h k)
theorem PW_in {E C : Nat → Nat → Prop} {n : Nat} (hE : ∀ p q, p < n → q < n → E p q → C p q) (hC : ∀ p t q, p < n → t < n → q < n → C p t → C t q → C p q) : ∀ k, k ≤ n → ∀ p q, p < n → q < n → PW E k p q → C p q
 | 0, _, p, q, hp, hq, h => hE p q hp hq h
 | k + 1, hk, p, q, hp, hq, h => by
  rcases h with h | ⟨h1, h2⟩
  ·exact PW_in hE hC k (by omega) p q hp hq h
  ·exact hC p k q hp (by omega) hq (PW_in hE hC k (by omega) p k hp (by omega) h1) (PW_in hE hC k (by omega) k q (by omega) hq h2)
theorem PW_RK {z : List (List UInt8)} (hz : VOk z) {p q : Nat} (hp : p < z.length) (hq : q < z.length) : PW (fun p q => RK z 0 q p) z.length p q ↔ RK z z.length q p := by
 have h1 := hz.h1
 constructor
 ·intro h
  refine PW_in (C := fun p q => RK z z.length q p) (n := z.length) (fun p q hp hq h => ?_) (fun p t q hp ht hq h2 h3 => ?_) z.length (Nat.le_refl _) p q hp hq h
  ·have := RK_mono h1 hq hp h z.length
   rwa [Nat.zero_add] at this
  ·exact RK_trans h1 hq ht h3 z.length p hp h2
 ·have hall : ∀ (j a b : Nat), a < z.length → b < z.length → RK z j a b → PW (fun p q => RK z 0 q p) z.length b a := by
   intro j
   induction j with
   | zero => exact fun a b _ _ h => PW_mono (E := fun p q => RK z 0 q p) h z.length
   | succ j ih =>
    intro a b ha hb h
    obtain ⟨t, ht, r1, r2⟩ := (RK_succ h1 ha hb).1 h
    have g := ih a t ha ht r1
    rcases r2 with r2 | rfl
    ·exact PW_tr z.length ht (PW_mono (E := fun p q => RK z 0 q p) r2 z.length) g
    ·exact g
  exact fun h => hall z.length q p hq hp h
end Go.Proofs.Ytfohppnelbbepaa.T
/- Matrices made by append -/
open Go.Vm
set_option linter.unusedVariables false
set_option linter.unusedSectionVars false
namespace Go.Proofs.Ytfohppnelbbepaa.T
open Go
variable [Ovr]
section
variable {ro : List ABlk} {h hp : Heap} {α : Type} {enc : α → AVal}
def GM (enc : α → AVal) (J : Heap) (L e : Nat) (w : AVal) (x : List (List α)) : Prop := ∃ (bs : Nat → Nat) (cs : Nat → Cap), RowG J L e w ((List.range x.length).map fun r => .sl ⟨false, bs r, 0⟩ (x.getD r []).length (cs r)) ∧
 (∀ r, r < x.length → L ≤ bs r ∧ bs r < J.length ∧ rb w ≠ some (bs r) ∧ Holds J (bs r) ((x.getD r []).map enc)) ∧ ∀ r r', r < x.length → r' < x.length → bs r = bs r' → r = r'
theorem GM.nil (J : Heap) (L e : Nat) : GM enc J L e .nsl [] := ⟨fun _ => 0, fun _ => .grow, RowG.nil _ _ _, fun r hr => by simp at hr, fun r r' hr => by simp at hr⟩
theorem GM.keep {J K : Heap} {L e : Nat} {w : AVal} {x : List (List α)} (g : GM enc J L e w x) (k : Keep J K) : GM enc K L e w x := by
 obtain ⟨bs, cs, g1, g2, g3⟩ := g
 refine ⟨bs, cs, g1.keep k, fun r hr => ?_, g3⟩
 obtain ⟨f1, f2, f3, f4⟩ := g2 r hr
 exact ⟨f1, by have := k.1; omega, f3, f4.by k⟩
theorem GM.isM {J : Heap} {L e : Nat} {w : AVal} {x : List (List α)} (g : GM enc J L e w x) : IsM enc ro J w x := by
 obtain ⟨bs, cs, g1, g2, g3⟩ := g
 rcases g1 with ⟨rfl, e1⟩ | ⟨b, blk, rfl, h2, h3, h4, h5, h6, h7⟩
 ·refine .inl ⟨rfl, ?_⟩
  simpa using e1
 ·have := rowsM (ro := ro) (enc := enc) (x := x) (c := .grow) (⟨blk, h4, h6, h7⟩ : Holds J b _) (by simp) fun i z hz => by
   have hi : i < x.length := (List.getElem?_eq_some_iff.1 hz).1
   have e2 : x.getD i [] = z := by rw [List.getD_eq_getElem?_getD, hz]; rfl
   obtain ⟨f1, f2, f3, f4⟩ := g2 i hi
   rw [e2] at f4
   refine ⟨.sl ⟨false, bs i, 0⟩ z.length (cs i), by rw [List.getElem?_map, List.getElem?_range hi, ← e2]; rfl, f4.R _ rfl⟩
  simpa using this
theorem GM.bel {J : Heap} {L e : Nat} {w : AVal} {x : List (List α)} (g : GM enc J L e w x) (h1 : 1 ≤ x.length) {n : Nat} (hn : n ≤ L) : w.bel n = false := by
 obtain ⟨bs, cs, g1, -⟩ := g
 rcases g1 with ⟨rfl, e1⟩ | ⟨b, blk, rfl, h2, h3, h4, h5, h6, h7⟩
 ·simp at e1; subst e1; simp at h1
 ·have : Nat.blt b n = false := by rw [← Bool.not_eq_true, Nat.blt_eq]; omega
  simp [AVal.bel, this]
theorem GM.push {J K : Heap} {L e bytes b : Nat} {c : Cap} {w : AVal} {x : List (List α)} {row : List α} (g : GM enc J L e w x) (k : Keep J K) (hb : J.length ≤ b) (hL : L ≤ J.length) (hrow : Holds K b (row.map enc)) (hx : x.length ≤ 100000) (hbb : bytes ≤ 1000) :
  ∃ u w' K2 K3, stepM ro ⟨K, L, L⟩ (.bsl e 1 [AVal.nsl] 1 [((0, 1), .c (.sl ⟨false, b, 0⟩ row.length c))]) = some (u, ⟨K2, L, L⟩) ∧ stepM ro ⟨K2, L, L⟩ (.app e 1 bytes [AVal.nsl] (.c w) (.c u)) = some (w', ⟨K3, L, L⟩) ∧ GM enc K3 L e w' (x ++ [row]) ∧ K.length ≤ K3.length ∧ ∀ i, i < L → K3[i]? = K[i]? := by
 obtain ⟨bs, cs, g1, g2, g3⟩ := g
 have hbK := hrow.lt
 obtain ⟨J3, J4, l', p', s1, s2, g4, n3, n4, o4, b4, b5, b6⟩ := (g1.keep k).push (ro := ro) (l := L) (p := L) (bytes := bytes) (z := AVal.nsl) (w := .sl ⟨false, b, 0⟩ row.length c) (by have := k.1; omega) (by simp; omega) hbb rfl rfl
 obtain ⟨b41, b42⟩ := b4 L (Nat.le_refl _) (Nat.le_refl _) (Nat.le_refl _)
 have hl' : l' = L ∧ p' = L := by omega
 rw [hl'.1, hl'.2] at s2
 have hwb : ∀ b, rb w = some b → b < J.length ∧ L ≤ b := fun b e => ⟨(g1.holds e).1.lt, (g1.holds e).2.1⟩
 refine ⟨_, _, J3, J4, s1, s2, ⟨fun r => if r < x.length then bs r else b, fun r => if r < x.length then cs r else c, ?_, fun r hr => ?_, fun r r' hr hr' he => ?_⟩, by omega, fun i hi => o4 i (by have := k.1; omega) fun e => by have := hwb _ e; omega⟩
 ·have e1 : ((List.range (x ++ [row]).length).map fun r => AVal.sl ⟨false, if r < x.length then bs r else b, 0⟩ ((x ++ [row]).getD r []).length (if r < x.length then cs r else c)) = ((List.range x.length).map fun r => AVal.sl ⟨false, bs r, 0⟩ (x.getD r []).length (cs r)) ++ [AVal.sl ⟨false, b, 0⟩ row.length c] := by
   rw [List.length_append, List.length_singleton, List.range_succ, List.map_append]
   congr 1
   ·refine List.map_congr_left fun r hr => ?_
    have hr' := List.mem_range.1 hr
    rw [if_pos hr', if_pos hr', List.getD_eq_getElem?_getD, List.getElem?_append_left hr', ← List.getD_eq_getElem?_getD]
   ·simp
  rw [e1]
  simp only [List.length_map, List.length_range] at g4
  simpa using g4
 ·have hrb : ∀ t, t < K.length → (rb (AVal.sl ⟨false, K.length + 1, 0⟩ (((List.range x.length).map fun r => AVal.sl ⟨false, bs r, 0⟩ (x.getD r []).length (cs r)).length + 1) .grow)) ≠ some t := fun t ht e => by
   have : K.length + 1 = t := by simpa [rb] using e
   omega
  by_cases hlt : r < x.length
  ·obtain ⟨f1, f2, f3, f4⟩ := g2 r hlt
   simp only [if_pos hlt]
   have hk := k.1
   refine ⟨f1, by omega, hrb _ (by omega), ?_⟩
   rw [List.getD_eq_getElem?_getD, List.getElem?_append_left hlt, ← List.getD_eq_getElem?_getD]
   exact (f4.by k).keep (o4 _ (by omega) f3)
  ·have hr0 : r = x.length := by simp at hr; omega
   simp only [if_neg hlt]
   have hk := k.1
   refine ⟨by omega, by omega, hrb _ hbK, ?_⟩
   have e2 : (x ++ [row]).getD r [] = row := by rw [hr0, List.getD_eq_getElem?_getD, List.getElem?_append_right (Nat.le_refl _)]; simp
   rw [e2]
   exact hrow.keep (o4 _ hbK fun e => by have := hwb _ e; omega)
 ·simp only [List.length_append, List.length_singleton] at hr hr'
  simp only at he
  by_cases h1 : r < x.length <;> by_cases h2 : r' < x.length
  ·rw [if_pos h1, if_pos h2] at he
   exact g3 r r' h1 h2 he
  ·rw [if_pos h1, if_neg h2] at he
   have := (g2 r h1).2.1
   omega
  ·rw [if_neg h1, if_pos h2] at he
   have := (g2 r' h2).2.1
   omega
  ·omega
theorem Holds.wr {b k : Nat} {vs : List AVal} {w : AVal} (a : Holds hp b vs) (hk : k < vs.length) (h1 : w.one = true) (hc : w.cells = [w]) (hn : nonp [w] = true) : ∃ hp', (∀ l p, writesM ro [] [(⟨false, b, 0 + k⟩, AVal.cells w)] ⟨hp, l, p⟩ = some ⟨hp', min l b, p⟩) ∧ Holds hp' b (vs.set k w) ∧ hp'.length = hp.length ∧ ∀ i, i ≠ b → hp'[i]? = hp[i]? := by
 obtain ⟨blk, g1, g2, g3⟩ := a
 refine ⟨hp.set b (some { blk with c := blk.c.set k w }), fun l p => ?_, ⟨_, lget_set g1 _, by simpa using g2, fun j hj => ?_⟩, by simp, fun i hi => List.getElem?_set_ne (Ne.symm hi)⟩
 ·have hw := wrH_heap (off := k) g1 (by omega : k < blk.n) h1
  have e : 0 + k = k := by omega
  rw [hc, e]
  simp only [writesM, writes, hw, hn, ckOk, if_true, St.mm]
 ·show (blk.c.set k w).get j = _
  rw [qdl]
  simp only [List.length_set] at hj
  by_cases e : k = j
  ·subst e; simp [List.getD, hj]
  ·rw [if_neg e, g3 j hj]
   simp [List.getD, List.getElem?_set_ne e]
theorem GM.row {J : Heap} {L e : Nat} {w : AVal} {x : List (List α)} (g : GM enc J L e w x) {r : Nat} (hr : r < x.length) :
  ∃ q u, evP .e (.ixS 1 (.c w) (.c (.i .i64 (r : Int)))) = some q ∧ (∀ l p, ldM ro ⟨J, l, p⟩ true 1 q = some u) ∧ ldA ro J true 1 q = some u ∧ ∀ (c : Nat) (y0 : α), (x.getD r [])[c]? = some y0 → ∃ q2, evP .e (.ixS 1 (.c u) (.c (.i .i64 (c : Int)))) = some (.p (some q2)) ∧ (∀ l p, ldM ro ⟨J, l, p⟩ true 1 (.p (some q2)) = some (enc y0)) ∧ ldA ro J true 1 (.p (some q2)) = some (enc y0) ∧
   ∀ y, (enc y).one = true → (enc y).cells = [enc y] → nonp [enc y] = true → ∃ J', (∀ l p, l ≤ L → stepM ro ⟨J, l, p⟩ (.st 1 (.c (.p (some q2))) (.c (enc y))) = some (und, ⟨J', l, p⟩)) ∧ (∀ l p, l ≤ L → writesM ro [] [(q2, AVal.cells (enc y))] ⟨J, l, p⟩ = some ⟨J', l, p⟩) ∧ GM enc J' L e w (setM x r c y) ∧ J'.length = J.length ∧ ∀ i, i < L → J'[i]? = J[i]? := by
 obtain ⟨bs, cs, g1, g2, g3⟩ := g
 obtain ⟨f1, f2, f3, f4⟩ := g2 r hr
 rcases g1 with ⟨rfl, e1⟩ | ⟨b, blk, rfl, k2, k3, k4, k5, k6, k7⟩
 ·simp at e1; subst e1; simp at hr
 have hO : Holds J b ((List.range x.length).map fun r => .sl ⟨false, bs r, 0⟩ (x.getD r []).length (cs r)) := ⟨blk, k4, k6, k7⟩
 have hlen : ((List.range x.length).map fun r => AVal.sl ⟨false, bs r, 0⟩ (x.getD r []).length (cs r)).length = x.length := by simp
 have o1 := hO.ld (ro := ro) (k := r) (w := .sl ⟨false, bs r, 0⟩ (x.getD r []).length (cs r)) (by simp [hr])
 refine ⟨_, _, qcx (by rw [hlen]; exact hr), fun l p => (o1 l p).1, (o1 0 0).2, fun c y0 hc => ?_⟩
 have hcl : c < (x.getD r []).length := (List.getElem?_eq_some_iff.1 hc).1
 have o2 := f4.ld (ro := ro) (k := c) (w := enc y0) (by rw [List.getElem?_map, hc]; rfl)
 refine ⟨_, qcx hcl, fun l p => (o2 l p).1, (o2 0 0).2, fun y h1 h2 h3 => ?_⟩
 obtain ⟨J1, s1, m1, m2, m3⟩ := f4.put (ro := ro) (k := c) (w := enc y) (by rw [List.length_map]; exact hcl) h1 h2
 obtain ⟨J2, t1, n1, n2, n3⟩ := f4.wr (ro := ro) (k := c) (w := enc y) (by rw [List.length_map]; exact hcl) h1 h2 h3
 have hJ : J1 = J2 := by
  have a1 := s1 0 0
  have a2 := t1 0 0
  rw [h2] at a2
  have hbq : Nat.beq [enc y].length 1 = true := rfl
  simp only [stepM, stepK, opd, st_st, h2, hbq, cond_true, St.mm] at a1
  simp only [writesM, writes] at a2
  cases hw : wrH J ⟨false, bs r, 0 + c⟩ [enc y] with
  | none =>
   simp only [hw] at a1
   exact absurd a1 (by simp)
  | some Z =>
   simp only [hw, h3, ckOk, if_true, St.mm, Option.some.injEq, Mm.mk.injEq, Prod.mk.injEq] at a1 a2
   rw [← a1.2.1, ← a2.1]
 subst hJ
 refine ⟨J1, fun l p hl => ?_, fun l p hl => ?_, ⟨bs, cs, ?_, fun t ht => ?_, fun t t' ht ht' => ?_⟩, m2, fun i hi => m3 i (by omega)⟩
 ·have := s1 l p
  rwa [h3, cond_true, show min l (bs r) = l by omega] at this
 ·have := t1 l p
  rwa [show min l (bs r) = l by omega] at this
 ·rw [qea]
  have e : ((List.range x.length).map fun t => AVal.sl ⟨false, bs t, 0⟩ ((setM x r c y).getD t []).length (cs t)) = (List.range x.length).map fun t => AVal.sl ⟨false, bs t, 0⟩ (x.getD t []).length (cs t) := List.map_congr_left fun t _ => by rw [setM_rlen hr]
  rw [e]
  refine RowG.by (.inr ⟨b, blk, rfl, k2, k3, k4, k5, k6, k7⟩) fun b' hb' => m3 b' fun e3 => ?_
  rw [e3] at hb'
  exact f3 hb'
 ·rw [qea] at ht
  obtain ⟨u1, u2, u3, u4⟩ := g2 t ht
  refine ⟨u1, by omega, u3, ?_⟩
  rw [setM_row hr]
  by_cases e : t = r
  ·subst e
   rw [if_pos rfl, List.map_set]
   exact m1
  ·rw [if_neg e]
   exact u4.keep (m3 _ fun e2 => e (g3 t r ht hr e2))
 ·rw [qea] at ht ht'
  exact g3 t t' ht ht'
end
end Go.Proofs.Ytfohppnelbbepaa.T
/- reach -/
open Go.Vm
set_option linter.unusedVariables false
set_option linter.unusedSectionVars false
namespace Go.Proofs.Ytfohppnelbbepaa.T
open Go
variable [Ovr]
section
variable {ro : List ABlk} {h hp : Heap}
def rowE (z : List (List UInt8)) (p : Nat) : List Bool := (List.range z.length).map fun q => (z.getD p []).any fun b => decide (ix b = q)
def matE (z : List (List UInt8)) (i : Nat) : List (List Bool) := (List.range i).map (rowE z)
theorem matE_snoc (z : List (List UInt8)) (i : Nat) : matE z (i + 1) = matE z i ++ [rowE z i] := by simp [matE, List.range_succ]
theorem rowE_len (z : List (List UInt8)) (p : Nat) : (rowE z p).length = z.length := by simp [rowE]
def Dim (n : Nat) (y : List (List Bool)) : Prop := y.length = n ∧ ∀ t, t < n → (y.getD t []).length = n
theorem Dim.cell {n : Nat} {y : List (List Bool)} (d : Dim n y) {p q : Nat} (hp : p < n) (hq : q < n) : (y.getD p [])[q]? = some (cellB y p q) := by
 have h3 : q < (y.getD p []).length := by rw [d.2 p hp]; exact hq
 unfold cellB
 rw [List.getElem?_eq_getElem h3, List.getD_eq_getElem?_getD (l := y.getD p []), List.getElem?_eq_getElem h3]
 rfl
theorem Dim.set {n : Nat} {y : List (List Bool)} (d : Dim n y) {r c : Nat} (hr : r < n) (b : Bool) : Dim n (setM y r c b) := ⟨by rw [qea, d.1], fun t ht => by rw [setM_rlen (by rw [d.1]; exact hr), d.2 t ht]⟩
theorem Dim.cell_set {n : Nat} {y : List (List Bool)} (d : Dim n y) {r c p q : Nat} (hr : r < n) (hc : c < n) (b : Bool) : cellB (setM y r c b) p q = if p = r ∧ q = c then b else cellB y p q := by
 unfold cellB
 rw [setM_row (by rw [d.1]; exact hr)]
 by_cases e : p = r
 ·subst e
  rw [if_pos rfl, List.getD_eq_getElem?_getD, List.getElem?_set]
  by_cases e2 : c = q
  ·subst e2
   rw [if_pos rfl, if_pos (by rw [d.2 p hr]; exact hc), if_pos ⟨rfl, rfl⟩]; rfl
  ·rw [if_neg e2, if_neg (fun e => e2 e.2.symm), ← List.getD_eq_getElem?_getD]
 ·rw [if_neg e, if_neg (fun e2 => e e2.1)]
theorem Dim.mem {n : Nat} {y : List (List Bool)} (d : Dim n y) : ∀ r ∈ y, r.length = n := mem_rows (fun t ht => d.2 t (by rw [← d.1]; exact ht))
theorem matE_dim (z : List (List UInt8)) : Dim z.length (matE z z.length) := ⟨by simp [matE], fun t ht => by simp [matE, List.getD, ht, rowE_len]⟩
theorem matE_cell {z : List (List UInt8)} (hz : VOk z) {p q : Nat} (hp : p < z.length) (hq : q < z.length) : cellB (matE z z.length) p q = true ↔ RK z 0 q p := by
 have h6 := hz.h6
 have e1 : cellB (matE z z.length) p q = (z.getD p []).any fun b => decide (ix b = q) := by simp [cellB, matE, List.getD, hp, rowE, hq]
 have e2 : cellB (mat93 z) q p = cB ((z.getD p []).count (UInt8.ofNat (97 + q))) := by simp [cellB, mat93, List.getD, hp, hq]
 unfold RK
 show _ ↔ cellB (mat93 z) q p = true
 rw [e1, e2, List.any_eq_true]
 simp only [cB, decide_eq_true_eq, List.count_pos_iff]
 constructor
 ·rintro ⟨b, hb, rfl⟩
  obtain ⟨i, hi, rfl⟩ := List.getElem_of_mem hb
  have := hz.hh p hp i hi
  have e3 : (z.getD p []).getD i 0 = (z.getD p [])[i] := by rw [List.getD_eq_getElem?_getD (l := z.getD p []), List.getElem?_eq_getElem hi]; rfl
  rw [e3] at this
  have e4 : UInt8.ofNat (97 + ix (z.getD p [])[i]) = (z.getD p [])[i] := by
   refine UInt8.toNat_inj.1 ?_
   rw [UInt8.toNat_ofNat']
   have h1 := this.1
   have h2 := ((z.getD p [])[i]).toNat_lt
   unfold ix
   omega
  rw [e4]; exact hb
 ·exact fun hb => ⟨_, hb, ix_ofNat (by omega)⟩
structure Inv (z : List (List UInt8)) (k p q : Nat) (y : List (List Bool)) : Prop where
 d : Dim z.length y
 c : ∀ a b, a < z.length → b < z.length → cellB y a b = true → RK z z.length b a
 e : ∀ a b, a < z.length → b < z.length → PW (fun p q => RK z 0 q p) k a b → cellB y a b = true
 s : ∀ a b, a < z.length → b < z.length → (a < p ∨ (a = p ∧ b < q)) → PW (fun p q => RK z 0 q p) (k + 1) a b → cellB y a b = true
theorem Inv.start {z : List (List UInt8)} (hz : VOk z) : Inv z 0 0 0 (matE z z.length) :=
 ⟨matE_dim z, fun a b ha hb h => by
  have := RK_mono hz.h1 hb ha ((matE_cell hz ha hb).1 h) z.length
  rwa [Nat.zero_add] at this, fun a b ha hb h => (matE_cell hz ha hb).2 h, fun a b _ _ h => by omega⟩
theorem Inv.row {z : List (List UInt8)} {k p : Nat} {y : List (List Bool)} (i : Inv z k p z.length y) : Inv z k (p + 1) 0 y := ⟨i.d, i.c, i.e, fun a b ha hb h => i.s a b ha hb (by omega)⟩
theorem Inv.round {z : List (List UInt8)} {k : Nat} {y : List (List Bool)} (i : Inv z k z.length 0 y) : Inv z (k + 1) 0 0 y := ⟨i.d, i.c, fun a b ha hb h => i.s a b ha hb (by omega) h, fun a b _ _ h => by omega⟩
theorem Inv.step {z : List (List UInt8)} (hz : VOk z) {k p q : Nat} {y : List (List Bool)} (i : Inv z k p q y) (hk : k < z.length) (hp : p < z.length) (hq : q < z.length) : Inv z k p (q + 1) (setM y p q (cellB y p q || (cellB y p k && cellB y k q))) := by
 have up : ∀ a b, cellB y a b = true → cellB (setM y p q (cellB y p q || (cellB y p k && cellB y k q))) a b = true := fun a b h => by
  rw [i.d.cell_set hp hq]
  split
  ·rename_i e; obtain ⟨rfl, rfl⟩ := e; rw [h]; rfl
  ·exact h
 refine ⟨i.d.set hp _, fun a b ha hb h => ?_, fun a b ha hb h => up a b (i.e a b ha hb h), fun a b ha hb h hw => ?_⟩
 ·rw [i.d.cell_set hp hq] at h
  split at h
  ·rename_i e; obtain ⟨rfl, rfl⟩ := e
   rw [Bool.or_eq_true, Bool.and_eq_true] at h
   rcases h with h | ⟨h1, h2⟩
   ·exact i.c a b ha hb h
   ·exact RK_trans hz.h1 hb hk (i.c k b hk hb h2) z.length a ha (i.c a k ha hk h1)
  ·exact i.c a b ha hb h
 ·by_cases e : a = p ∧ b = q
  ·obtain ⟨rfl, rfl⟩ := e
   rw [i.d.cell_set hp hq, if_pos ⟨rfl, rfl⟩, Bool.or_eq_true, Bool.and_eq_true]
   rcases hw with hw | ⟨h1, h2⟩
   ·exact .inl (i.e a b ha hb hw)
   ·exact .inr ⟨i.e a k ha hk h1, i.e k b hk hb h2⟩
  ·exact up a b (i.s a b ha hb (by omega) hw)
theorem Inv.done {z : List (List UInt8)} (hz : VOk z) {y : List (List Bool)} (i : Inv z z.length 0 0 y) {p q : Nat} (hp : p < z.length) (hq : q < z.length) : cellB y q p = cellB (descK z z.length) p q := by
 rw [Bool.eq_iff_iff]
 exact ⟨i.c q p hq hp, fun h => i.e q p hq hp ((PW_RK hz hq hp).2 h)⟩
set_option maxHeartbeats 2000000 in
theorem reach66 {v : AVal} {z : List (List UInt8)} (a : IsS ro h v z) (hz : VOk z) :
  ∃ w H y, callX F1 ro 66 [v] h = some (w, H, h.length, h.length) ∧ Keep h H ∧ IsM eB ro H w y ∧ Dim z.length y ∧ ∀ p q, p < z.length → q < z.length → cellB y q p = cellB (descK z z.length) p q := by
 obtain ⟨n, hn⟩ : ∃ n, n = z.length := ⟨_, rfl⟩
 have n1 := hz.h1
 have n6 := hz.h6
 obtain ⟨L, hL⟩ : ∃ L, L = h.length := ⟨_, rfl⟩
 have key0 : ∃ r, loopX (fun s : AVal × Int × Mm => g66_b0 (qbn F1 ro) ro v s.1 s.2.1 s.2.2) (.nsl, 0, ⟨h, L, L⟩) = some r ∧ ∃ w J, r = (w, ⟨J, L, L⟩) ∧ Keep h J ∧ GM eB J L 90 w (matE z n) := by
  refine qbo n (fun i s => ∃ w J, s = (w, (i : Int), ⟨J, L, L⟩) ∧ Keep h J ∧ GM eB J L 90 w (matE z i)) _ ?_ ?_ n 0 _ (by omega) ⟨_, h, rfl, Keep.refl _, GM.nil _ _ _⟩
  ·rintro p s hp ⟨w, J, rfl, kJ, gJ⟩
   have hlJ := kJ.1
   obtain ⟨s, hs⟩ : ∃ s, s = z.getD p [] := ⟨_, rfl⟩
   have hsl : s.length ≤ 8 := by rw [hs]; exact hz.h8 p (by omega)
   have hsh : has n s := by rw [hs, hn]; exact hz.hh p (by omega)
   have hm := mk_ok (ro := ro) (hp := J) (e := 4) (es := 1) (bytes := 1) (z := [AVal.b false]) (n := n) (l := L) (p := L) (by omega) (by omega)
   obtain ⟨J1, hJ1⟩ : ∃ J1, J1 = J ++ [some (blkOf 4 (rep [AVal.b false] n))] := ⟨_, rfl⟩
   rw [← hJ1] at hm
   have lJ1 : J1.length = J.length + 1 := by rw [hJ1]; simp
   have kJ1 : Keep J J1 := by rw [hJ1]; exact Keep.app _
   obtain ⟨c, hc⟩ : ∃ c : Nat → Nat → AVal, c = fun j q => eB ((s.take j).any fun b => decide (ix b = q)) := ⟨_, rfl⟩
   have hnew : Holds J1 J.length ((List.range n).map (c 0)) := by
    have := Holds.new J 4 (rep [AVal.b false] n)
    rw [← hJ1, qdu] at this
    have e : (List.range n).map (c 0) = List.replicate n (AVal.b false) := by simp [hc, List.map_const']
    rw [e]; exact this
   have key1 : ∃ r, loopX (fun s : Int × Mm => g66_b1 (qbn F1 ro) ro v w (p : Int) (.sl ⟨false, J.length, 0⟩ n (.known n)) s.1 s.2) (0, ⟨J1, L, L⟩) = some r ∧ ∃ K, r = ⟨K, L, L⟩ ∧ K.length = J1.length ∧ (∀ t, t ≠ J.length → K[t]? = J1[t]?) ∧ Holds K J.length ((List.range n).map (c s.length)) := by
    refine qbo s.length (fun j q => ∃ K, q = ((j : Int), ⟨K, L, L⟩) ∧ K.length = J1.length ∧ (∀ t, t ≠ J.length → K[t]? = J1[t]?) ∧ Holds K J.length ((List.range n).map (c j))) _ ?_ ?_ s.length 0 _ (by omega) ⟨J1, rfl, rfl, fun _ _ => rfl, hnew⟩
    ·rintro j q hj ⟨K, rfl, lK, oK, hK⟩
     have kK : Keep h K := kJ.trans ⟨by omega, fun t ht => by rw [oK t (by omega), kJ1.2 t ht]⟩
     obtain ⟨p1, i1, i2⟩ := at_S a (show p < z.length by omega)
     rw [← hs] at i2
     have i2' := fun l q => (i2 (hp := K) (l := l) (q := q) kK).1
     have hb := hsh j hj
     have hx := ix_lt hb
     have e2 : ix (s.getD j 0) ≤ 255 := by unfold ix; have := (s.getD j 0).toNat_lt; omega
     obtain ⟨K2, s1, g1, n1', o1⟩ := hK.put (ro := ro) (k := ix (s.getD j 0)) (w := eB true) (by rw [List.length_map, List.length_range]; omega) rfl rfl
     have s1' := s1 L L
     rw [show nonp [eB true] = true from rfl, cond_true, Nat.min_eq_left (show L ≤ J.length by omega)] at s1'
     rw [setF (g := c (j + 1))] at g1
     rotate_left
     ·intro t ht hne
      simp only [hc]
      rw [take_snoc 0 hj, List.any_append]
      have e3 : [s.getD j 0].any (fun b => decide (ix b = t)) = false := by rw [List.any_cons, dF (fun e => hne e.symm)]; rfl
      rw [e3, Bool.or_false]
     ·intro _
      simp only [hc]
      have e3 : [s.getD j 0].any (fun b => decide (ix b = ix (s.getD j 0))) = true := by rw [List.any_cons, dT rfl]; rfl
      rw [take_snoc 0 hj, List.any_append, e3, Bool.or_true]
     refine ⟨_, (by simp only [g66_b1, i1, oS, i2', sS, qbr, iS, fB, ltT (show (j : Int) < (s.length : Int) by omega), cT, qde hj, fI', sub97 hb.1, lt64 (show ix (s.getD j 0) ≤ 9223372036854775807 by omega), qcx (show ix (s.getD j 0) < n by omega), s1', pS, nx (show j ≤ 1000000 by omega)] <;> rfl), K2, rfl, by omega, fun t ht => by rw [o1 t ht, oK t ht], g1⟩
    ·rintro q ⟨K, rfl, lK, oK, hK⟩
     have kK : Keep h K := kJ.trans ⟨by omega, fun t ht => by rw [oK t (by omega), kJ1.2 t ht]⟩
     obtain ⟨p1, i1, i2⟩ := at_S a (show p < z.length by omega)
     rw [← hs] at i2
     have i2' := fun l q => (i2 (hp := K) (l := l) (q := q) kK).1
     exact ⟨_, (by simp only [g66_b1, i1, oS, i2', sS, qbr, iS, fB, ltF (Int.lt_irrefl _), cF] <;> rfl), K, rfl, lK, oK, hK⟩
   obtain ⟨r, q1, K, rfl, lK, oK, hK⟩ := key1
   have hrow : (List.range n).map (c s.length) = (rowE z p).map eB := by
    unfold rowE
    rw [List.map_map, ← hn, hc, ← hs]
    simp only [List.take_length]
    rfl
   rw [hrow] at hK
   have kK : Keep J K := ⟨by omega, fun t ht => by rw [oK t (by omega), kJ1.2 t ht]⟩
   obtain ⟨u, w', K2, K3, s1, s2, g4, l4, o4⟩ := gJ.push (ro := ro) (bytes := 24) (c := .known n) kK (Nat.le_refl _) (by omega) hK (by simp [matE]; omega) (by omega)
   rw [rowE_len, ← hn] at s1
   refine ⟨_, (by simp only [g66_b0, len_S (S_by a kJ), ← hn, fB, ltT (show (p : Int) < (n : Int) by omega), cT, oS, iS, hm, pS, qat, q1, s1, s2, fI', nx (show p ≤ 1000000 by omega)] <;> rfl), w', K3, rfl, ⟨by have := kK.1; omega, fun t ht => by rw [o4 t (by omega), kK.2 t (by omega), kJ.2 t ht]⟩, by rw [matE_snoc]; exact g4⟩
  ·rintro s ⟨w, J, rfl, kJ, gJ⟩
   exact ⟨_, (by simp only [g66_b0, len_S (S_by a kJ), ← hn, fB, ltF (Int.lt_irrefl _), cF, oS, iS] <;> rfl), w, J, rfl, kJ, gJ⟩
 obtain ⟨r0, e0, w, J0, rfl, kJ0, gJ0⟩ := key0
 have hlw := len_M (ro := ro) gJ0.isM
 have st : ∀ (K : Heap) (y : List (List Bool)) (k p q : Nat), Keep h K → GM eB K L 90 w y → Inv z k p q y → k < n → p < n → q < n → ∃ K', g66_b4 (qbn F1 ro) ro v w (k : Int) (p : Int) (q : Int) ⟨K, L, L⟩ = some (.inl (((q + 1 : Nat) : Int), ⟨K', L, L⟩)) ∧ Keep h K' ∧ ∃ y', GM eB K' L 90 w y' ∧ Inv z k p (q + 1) y' := by
  intro K y k p q kK gK iy hk hp hq
  have hyl : y.length = n := by rw [hn]; exact iy.d.1
  obtain ⟨a1, u1, i1, i2, i3, i4⟩ := gK.row (ro := ro) (show p < y.length by omega)
  obtain ⟨a2, u2, j1, j2, j3, j4⟩ := gK.row (ro := ro) (show k < y.length by omega)
  obtain ⟨q1, f1, f2, f3, f4⟩ := i4 q _ (iy.d.cell (by omega) (by omega))
  obtain ⟨q2, m1, m2, m3, -⟩ := i4 k _ (iy.d.cell (by omega) (by omega))
  obtain ⟨q3, t1, t2, t3, -⟩ := j4 q _ (iy.d.cell (by omega) (by omega))
  obtain ⟨K', s1, s2, g2, l2, o2⟩ := f4 (cellB y p q || (cellB y p k && cellB y k q)) rfl rfl rfl
  have s2' := s2 L L (Nat.le_refl _)
  refine ⟨K', ?_, ⟨by have := kK.1; omega, fun t ht => by rw [o2 t (by omega), kK.2 t ht]⟩, _, g2, iy.step hz (by omega) (by omega) (by omega)⟩
  cases c1 : cellB y p q <;> cases c2 : cellB y p k <;> cases c3 : cellB y k q <;> rw [c1] at f3 s2' <;> rw [c2] at m3 s2' <;> rw [c3] at t3 s2' <;> simp only [Bool.or_true, Bool.or_false, Bool.true_or, Bool.false_or, Bool.and_true, Bool.and_false, Bool.true_and, Bool.false_and] at s2' <;>
   simp only [g66_b4, len_S (S_by a kK), ← hn, fB, ltT (show (q : Int) < (n : Int) by omega), cT, cF, oS, iS, bS, i1, i3, f1, f3, j1, j3, m1, m3, t1, t3, pA, s2', fI', nx (show q ≤ 1000000 by omega)]
 have key4 : ∀ (K : Heap) (y : List (List Bool)) (k p : Nat), Keep h K → GM eB K L 90 w y → Inv z k p 0 y → k < n → p < n → ∃ r, loopX (fun s : Int × Mm => g66_b4 (qbn F1 ro) ro v w (k : Int) (p : Int) s.1 s.2) (0, ⟨K, L, L⟩) = some r ∧ ∃ K', r = ⟨K', L, L⟩ ∧ Keep h K' ∧ ∃ y', GM eB K' L 90 w y' ∧ Inv z k (p + 1) 0 y' := by
  intro K y k p kK gK iy hk hp
  refine qbo n (fun i s => ∃ K', s = ((i : Int), ⟨K', L, L⟩) ∧ Keep h K' ∧ ∃ y', GM eB K' L 90 w y' ∧ Inv z k p i y') _ ?_ ?_ n 0 _ (by omega) ⟨K, rfl, kK, y, gK, iy⟩
  ·rintro i s hi ⟨K', rfl, kK', y', gK', iy'⟩
   obtain ⟨K2, e1, k2, y2, g2, i2⟩ := st K' y' k p i kK' gK' iy' hk hp hi
   exact ⟨_, e1, K2, rfl, k2, y2, g2, i2⟩
  ·rintro s ⟨K', rfl, kK', y', gK', iy'⟩
   rw [hn] at iy'
   exact ⟨_, (by simp only [g66_b4, len_S (S_by a kK'), ← hn, fB, ltF (Int.lt_irrefl _), cF, oS, iS] <;> rfl), K', rfl, kK', y', gK', iy'.row⟩
 have key3 : ∀ (K : Heap) (y : List (List Bool)) (k : Nat), Keep h K → GM eB K L 90 w y → Inv z k 0 0 y → k < n → ∃ r, loopX (fun s : Int × Mm => g66_b3 (qbn F1 ro) ro v w (k : Int) s.1 s.2) (0, ⟨K, L, L⟩) = some r ∧ ∃ K', r = ⟨K', L, L⟩ ∧ Keep h K' ∧ ∃ y', GM eB K' L 90 w y' ∧ Inv z (k + 1) 0 0 y' := by
  intro K y k kK gK iy hk
  refine qbo n (fun i s => ∃ K', s = ((i : Int), ⟨K', L, L⟩) ∧ Keep h K' ∧ ∃ y', GM eB K' L 90 w y' ∧ Inv z k i 0 y') _ ?_ ?_ n 0 _ (by omega) ⟨K, rfl, kK, y, gK, iy⟩
  ·rintro i s hi ⟨K', rfl, kK', y', gK', iy'⟩
   obtain ⟨r, e1, K2, rfl, k2, y2, g2, i2⟩ := key4 K' y' k i kK' gK' iy' hk hi
   exact ⟨_, (by simp only [g66_b3, len_S (S_by a kK'), ← hn, fB, ltT (show (i : Int) < (n : Int) by omega), cT, oS, iS, qat, e1, fI', nx (show i ≤ 1000000 by omega)] <;> rfl), K2, rfl, k2, y2, g2, i2⟩
  ·rintro s ⟨K', rfl, kK', y', gK', iy'⟩
   rw [hn] at iy'
   exact ⟨_, (by simp only [g66_b3, len_S (S_by a kK'), ← hn, fB, ltF (Int.lt_irrefl _), cF, oS, iS] <;> rfl), K', rfl, kK', y', gK', iy'.round⟩
 have key2 : ∃ r, loopX (fun s : Int × Mm => g66_b2 (qbn F1 ro) ro v w s.1 s.2) (0, ⟨J0, L, L⟩) = some r ∧ ∃ K', r = ⟨K', L, L⟩ ∧ Keep h K' ∧ ∃ y', GM eB K' L 90 w y' ∧ Inv z n 0 0 y' := by
  refine qbo n (fun i s => ∃ K', s = ((i : Int), ⟨K', L, L⟩) ∧ Keep h K' ∧ ∃ y', GM eB K' L 90 w y' ∧ Inv z i 0 0 y') _ ?_ ?_ n 0 _ (by omega) ⟨J0, rfl, kJ0, _, gJ0, by rw [hn]; exact Inv.start hz⟩
  ·rintro i s hi ⟨K', rfl, kK', y', gK', iy'⟩
   obtain ⟨r, e1, K2, rfl, k2, y2, g2, i2⟩ := key3 K' y' i kK' gK' iy' hi
   exact ⟨_, (by simp only [g66_b2, len_S (S_by a kK'), ← hn, fB, ltT (show (i : Int) < (n : Int) by omega), cT, oS, iS, qat, e1, fI', nx (show i ≤ 1000000 by omega)] <;> rfl), K2, rfl, k2, y2, g2, i2⟩
  ·rintro s ⟨K', rfl, kK', y', gK', iy'⟩
   exact ⟨_, (by simp only [g66_b2, len_S (S_by a kK'), ← hn, fB, ltF (Int.lt_irrefl _), cF, oS, iS] <;> rfl), K', rfl, kK', y', gK', iy'⟩
 obtain ⟨r2, e2, K, rfl, kK, y, gK, iy⟩ := key2
 rw [hn] at iy
 obtain ⟨H, f1, f2, f3⟩ := fin_any (w := w) kK
 obtain rfl := f3 (gK.bel (by rw [iy.d.1]; exact n1) (by omega))
 refine ⟨w, _, y, g66_ok (qax F1 ro) (Ovr.no rfl) (?_ : _ = some (w, H, h.length, h.length)), kK, gK.isM, iy.d, fun p q hp hq => iy.done hz hp hq⟩
 unfold g66
 subst hL
 simp only [qat, e0, oS, e2, tA]
 exact f1
end
end Go.Proofs.Ytfohppnelbbepaa.T
/- Kind of the reference, law 5 -/
open Go.Vm
set_option linter.unusedVariables false
set_option linter.unusedSectionVars false
namespace Go.Proofs.Ytfohppnelbbepaa.T
open Go
variable [Ovr]
section
variable {ro : List ABlk} {h hp : Heap}
theorem own_edge {z : List (List UInt8)} (hz : VOk z) : ∀ p b, p < z.length → b ∈ z.getD p [] → ix b = p → cellB (descK z z.length) p p = true := fun p b hp hb e => by
 have h1 : cellB (matE z z.length) p p = true := by
  have e1 : cellB (matE z z.length) p p = (z.getD p []).any fun b => decide (ix b = p) := by simp [cellB, matE, List.getD, hp, rowE]
  rw [e1, List.any_eq_true]
  exact ⟨b, hb, dT e⟩
 have := RK_mono hz.h1 hp hp ((matE_cell hz hp hp).1 h1) z.length
 rwa [Nat.zero_add] at this
set_option maxHeartbeats 2000000 in
theorem kind29 {v : AVal} {z : List (List UInt8)} {s : List UInt8} (a : IsS ro h v z) (hf : z.length ≤ 1000000 ∧ (∀ i, i < z.length → (z.getD i []).length ≤ 1000000) ∧ s.length ≤ 1000000) :
  callX F1 ro 29 [v, .s s] h = some (.tup [.i .i64 (kindV z s).1, .i .i64 (kindV z s).2.1, .i .i64 (kindV z s).2.2], h, h.length, h.length) := by
 refine g29_ok (qax F1 ro) (Ovr.no rfl) ?_
 unfold g29
 simp only [mC, cp0 (shoot42 (s := s) a hf.1 hf.2.1 hf.2.2), pS, iS, fB]
 by_cases hS : errS z s = 0
 rotate_left
 ·have e : kindV z s = (0, 0, errS z s) := by unfold kindV; rw [if_pos hS]
  simp only [qdn hS, nF, cT, e, tA3]
  exact qay rfl
 have e0 : eqI (errS z s) 0 = true := by rw [hS]; rfl
 have vok := VOk.of (errS_V hS)
 have n6 := vok.h6
 obtain ⟨hs30, hsh⟩ := errS_ok hS
 obtain ⟨x, hx⟩ : ∃ x, x = descK z z.length := ⟨_, rfl⟩
 have htr := desc_tr vok
 have hown := own_edge vok
 obtain ⟨w, H1, y, c66, k1, M1, dy, hT⟩ := reach66 (ro := ro) a vok
 rw [← hx] at htr hT hown
 obtain ⟨m, hm⟩ : ∃ m : Nat → Nat, m = fun i => circN z.length x z.length (ix (s.getD i 0)) := ⟨_, rfl⟩
 have hml : ∀ j, mxU m (fun _ => true) j ≤ z.length := mxU_le fun i => by rw [hm]; exact circN_le _ _ _ _
 have e : kindV z s = if (s.any fun b => expB z x (ix b)) = true then ((3 : Int), (0 : Int), (0 : Int)) else if mxU m (fun _ => true) s.length < 2 then (((mxU m (fun _ => true) s.length : Nat) : Int), (0 : Int), (0 : Int)) else ((2 : Int), ((mxU m (fun _ => true) s.length : Nat) : Int) - 1, (0 : Int)) := by unfold kindV; rw [if_neg (fun e => e hS), hm, hx]
 obtain ⟨L, hL⟩ : ∃ L, L = h.length := ⟨_, rfl⟩
 have q1 := k1.1
 have c66' := cM (l := L) (p := L) c66 (by omega) (by omega)
 have aH := S_by a k1
 have inner : ∀ (p i : Nat) (x9 : Int), p < z.length → ∃ r, loopX (fun q : Int × Mm => g29_b1 (qbn F1 ro) ro v s w x9 (i : Int) (p : Int) q.1 q.2) (0, ⟨H1, L, L⟩) = some r ∧ ((r = .inl ⟨H1, L, L⟩ ∧ expB z x p = false) ∨ (r = .inr (3, 0, 0, ⟨H1, L, L⟩) ∧ expB z x p = true)) := by
  intro p i x9 hp
  have key : ∃ r, loopX (fun q : Int × Mm => g29_b1 (qbn F1 ro) ro v s w x9 (i : Int) (p : Int) q.1 q.2) (0, ⟨H1, L, L⟩) = some r ∧ ((r = .inl ⟨H1, L, L⟩ ∧ ∀ q, q < z.length → ((decide (q = p) || cellB x q p) && dblB z x q) = false) ∨ (r = .inr (3, 0, 0, ⟨H1, L, L⟩) ∧ ∃ q, q < z.length ∧ ((decide (q = p) || cellB x q p) && dblB z x q) = true)) := by
   refine loop_exit z.length (fun i s => s = ((i : Int), ⟨H1, L, L⟩) ∧ ∀ q, q < i → ((decide (q = p) || cellB x q p) && dblB z x q) = false) _ ?_ ?_ z.length 0 _ (by omega) ⟨rfl, fun q h => by omega⟩
   ·rintro t s' ht ⟨rfl, hall⟩
    obtain ⟨g1, g2⟩ := dims_get dy.1 dy.mem hp ht
    rw [hT t p ht hp] at g2
    obtain ⟨p2, u, j1, j2, j3⟩ := at_M M1 g1
    obtain ⟨p3, k1', k2⟩ := at_R j2 g2
    have j3' := fun l q => (j3 (hp := H1) (l := l) (q := q) (Keep.refl H1)).1
    have k2' := fun l q => (k2 (hp := H1) (l := l) (q := q) (Keep.refl H1)).1
    have c67 := cp (l := L) (p := L) (again67 (ro := ro) vok dy.1 dy.mem hT hown aH M1 ht) (by omega) (by omega)
    have more : ((decide (t = p) || cellB x t p) && dblB z x t) = false → ∀ q, q < t + 1 → ((decide (q = p) || cellB x q p) && dblB z x q) = false := fun hf q hq => by
     rcases Nat.lt_or_ge q t with h | h
     ·exact hall q h
     ·obtain rfl : q = t := by omega
      exact hf
    have hd : dblB z x t = decide (2 ≤ cntD z x t (z.getD t []).length) := rfl
    by_cases hc2 : 2 ≤ cntD z x t (z.getD t []).length
    ·rw [dT hc2] at hd
     have l1 : ltI 1 ((cntD z x t (z.getD t []).length : Nat) : Int) = true := ltT (by omega)
     by_cases hip : t = p
     ·have e : eqI (t : Int) (p : Int) = true := by rw [hip]; exact qed _
      exact .inr ⟨_, (by simp only [g29_b1, len_S aH, fB, ltT (show (t : Int) < (z.length : Int) by omega), cT, e, oS, iS, mC, c67, pS, l1] <;> rfl), .inr ⟨rfl, t, ht, by rw [hd, hip]; simp⟩⟩
     ·have e : eqI (t : Int) (p : Int) = false := qdn (by omega)
      cases hc : cellB x t p <;> rw [hc] at k2'
      ·exact .inl ⟨_, (by simp only [g29_b1, len_S aH, fB, ltT (show (t : Int) < (z.length : Int) by omega), cT, e, cF, j1, j3', k1', k2', bS, oS, iS, fI', nx (show t ≤ 1000000 by omega)] <;> rfl), rfl, more (by rw [hc]; simp [hip])⟩
      ·exact .inr ⟨_, (by simp only [g29_b1, len_S aH, fB, ltT (show (t : Int) < (z.length : Int) by omega), cT, e, cF, j1, j3', k1', k2', bS, oS, iS, mC, c67, pS, l1] <;> rfl), .inr ⟨rfl, t, ht, by rw [hd, hc]; simp⟩⟩
    ·rw [dF hc2] at hd
     have l1 : ltI 1 ((cntD z x t (z.getD t []).length : Nat) : Int) = false := ltF (by omega)
     by_cases hip : t = p
     ·have e : eqI (t : Int) (p : Int) = true := by rw [hip]; exact qed _
      exact .inl ⟨_, (by simp only [g29_b1, len_S aH, fB, ltT (show (t : Int) < (z.length : Int) by omega), cT, e, oS, iS, mC, c67, pS, l1, cF, fI', nx (show t ≤ 1000000 by omega)] <;> rfl), rfl, more (by rw [hd, Bool.and_false])⟩
     ·have e : eqI (t : Int) (p : Int) = false := qdn (by omega)
      cases hc : cellB x t p <;> rw [hc] at k2'
      ·exact .inl ⟨_, (by simp only [g29_b1, len_S aH, fB, ltT (show (t : Int) < (z.length : Int) by omega), cT, e, cF, j1, j3', k1', k2', bS, oS, iS, fI', nx (show t ≤ 1000000 by omega)] <;> rfl), rfl, more (by rw [hd, Bool.and_false])⟩
      ·exact .inl ⟨_, (by simp only [g29_b1, len_S aH, fB, ltT (show (t : Int) < (z.length : Int) by omega), cT, e, cF, j1, j3', k1', k2', bS, oS, iS, mC, c67, pS, l1, fI', nx (show t ≤ 1000000 by omega)] <;> rfl), rfl, more (by rw [hd, Bool.and_false])⟩
   ·rintro s' ⟨rfl, hall⟩
    exact ⟨_, (by simp only [g29_b1, len_S aH, oS, iS, fB, ltF (Int.lt_irrefl _), cF] <;> rfl), .inl ⟨rfl, hall⟩⟩
  obtain ⟨r, e1, e2⟩ := key
  refine ⟨r, e1, ?_⟩
  rcases e2 with ⟨rfl, hall⟩ | ⟨rfl, q, hq, hq2⟩
  ·refine .inl ⟨rfl, ?_⟩
   unfold expB
   rw [List.any_eq_false]
   intro q hq
   rw [hall q (List.mem_range.1 hq)]
   decide
  ·refine .inr ⟨rfl, ?_⟩
   unfold expB
   rw [List.any_eq_true]
   exact ⟨q, List.mem_range.2 hq, hq2⟩
 have key : ∃ r, loopX (fun q : Int × Int × Mm => g29_b0 (qbn F1 ro) ro v s w q.1 q.2.1 q.2.2) (0, 0, ⟨H1, L, L⟩) = some r ∧ ((r = .inl (((mxU m (fun _ => true) s.length : Nat) : Int), ⟨H1, L, L⟩) ∧ ∀ i, i < s.length → expB z x (ix (s.getD i 0)) = false) ∨ (r = .inr (3, 0, 0, ⟨H1, L, L⟩) ∧ ∃ i, i < s.length ∧ expB z x (ix (s.getD i 0)) = true)) := by
  refine loop_exit s.length (fun i q => q = (((mxU m (fun _ => true) i : Nat) : Int), (i : Int), ⟨H1, L, L⟩) ∧ ∀ t, t < i → expB z x (ix (s.getD t 0)) = false) _ ?_ ?_ s.length 0 _ (by omega) ⟨rfl, fun t h => by omega⟩
  ·rintro i q hi ⟨rfl, hall⟩
   have hb := hsh i hi
   have hxl := ix_lt hb
   have e2 : ix (s.getD i 0) ≤ 255 := by unfold ix; have := (s.getD i 0).toNat_lt; omega
   obtain ⟨r, e1, e3⟩ := inner (ix (s.getD i 0)) i ((mxU m (fun _ => true) i : Nat) : Int) hxl
   have c68 := cp (l := L) (p := L) (circles68 (ro := ro) vok dy.1 dy.mem hT htr z.length (by omega) aH M1 hxl (kids_le x _ _)) (by omega) (by omega)
   rcases e3 with ⟨rfl, he⟩ | ⟨rfl, he⟩
   ·have em : mxU m (fun _ => true) (i + 1) = max (mxU m (fun _ => true) i) (circN z.length x z.length (ix (s.getD i 0))) := by
     show (if (true : Bool) = true then max (mxU m (fun _ => true) i) (m i) else _) = _
     rw [if_pos rfl, hm]
    exact .inl ⟨_, (by simp only [g29_b0, qbr, fB, ltT (show (i : Int) < (s.length : Int) by omega), cT, qde hi, oS, iS, fI', sub97 hb.1, lt64 (show ix (s.getD i 0) ≤ 9223372036854775807 by omega), qat, e1, mC, c68, pS, mx_nat, nx (show i ≤ 1000000 by omega)] <;> rfl), by rw [em], fun t ht => by
     rcases Nat.lt_or_ge t i with h | h
     ·exact hall t h
     ·obtain rfl : t = i := by omega
      exact he⟩
   ·exact .inr ⟨_, (by simp only [g29_b0, qbr, fB, ltT (show (i : Int) < (s.length : Int) by omega), cT, qde hi, oS, iS, fI', sub97 hb.1, lt64 (show ix (s.getD i 0) ≤ 9223372036854775807 by omega), qat, e1] <;> rfl), .inr ⟨rfl, i, hi, he⟩⟩
  ·rintro q ⟨rfl, hall⟩
   exact ⟨_, (by simp only [g29_b0, qbr, oS, iS, fB, ltF (Int.lt_irrefl _), cF] <;> rfl), .inl ⟨rfl, hall⟩⟩
 obtain ⟨r, e1, e2⟩ := key
 rw [e]
 simp only [← hL, e0, nT, cF, c66', pS, qat, e1, oS]
 rcases e2 with ⟨rfl, hall⟩ | ⟨rfl, i, hi, he⟩
 ·have hany : ¬ (s.any fun b => expB z x (ix b)) = true := fun h => by
   rw [List.any_eq_true] at h
   obtain ⟨b, hb, h2⟩ := h
   obtain ⟨i, hi, rfl⟩ := List.getElem_of_mem hb
   have := hall i hi
   rw [show s.getD i 0 = s[i] by simp [List.getD, hi], h2] at this
   cases this
  have := hml s.length
  rw [if_neg hany]
  obtain ⟨M, hM⟩ : ∃ M, M = mxU m (fun _ => true) s.length := ⟨_, rfl⟩
  rw [← hM] at this ⊢
  rcases Nat.lt_or_ge M 2 with h2 | h2
  ·rw [if_pos h2]
   rcases Nat.eq_zero_or_pos M with h3 | h3
   ·have e3 : eqI (M : Int) 0 = true := by rw [h3]; rfl
    simp only [e3, cT, tA3, h3]
    subst hL
    exact qcg k1 rfl
   ·have h4 : M = 1 := by omega
    have e3 : eqI (M : Int) 0 = false := qdn (by omega)
    have e4 : eqI (M : Int) 1 = true := by rw [h4]; rfl
    simp only [e3, cF, e4, cT, tA3, h4]
    subst hL
    exact qcg k1 rfl
  ·rw [if_neg (by omega)]
   have w1 : wr .i64 ((M : Int) - 1) = (M : Int) - 1 := wr_id' (by omega) (by omega)
   have e3 : eqI (M : Int) 0 = false := qdn (by omega)
   have e4 : eqI (M : Int) 1 = false := qdn (by omega)
   simp only [e3, e4, cF, fI', w1, tA3]
   subst hL
   exact qcg k1 rfl
 ·have hany : (s.any fun b => expB z x (ix b)) = true := by
   rw [List.any_eq_true]
   exact ⟨s[i], List.getElem_mem hi, by rw [show s.getD i 0 = s[i] by simp [List.getD, hi]] at he; exact he⟩
  rw [if_pos hany]
  simp only [tA3]
  subst hL
  exact qcg k1 rfl
theorem law5 {v : AVal} {z : List (List UInt8)} {s : List UInt8} (hA : ∀ h, callX F1 ro 16 [] h = some (.b true, h, h.length, h.length)) (a : IsS ro h v z) :
  callX F1 ro 5 [v, .s s] h = some (.b true, h, h.length, h.length) := by
 refine g5_ok (qax F1 ro) (Ovr.no rfl) ?_
 unfold g5
 simp only [mC, cp0 (few15 (s := s) a), pS, bS, fB]
 by_cases hf : fewB z s
 rotate_left
 ·simp only [dF hf, nF, cT, cp0 (hA h), pS, bS, tA]
  exact qay rfl
 have hf' := fewB_len hf
 simp only [dT hf, nT, cF, cp0 (dies26 a hf'), cp0 (dies27 a hf'), cp0 (kind28 a hf'), cp0 (kind29 a hf'), pS, x0, x1, x2, oS, iS, qed, nT, cT, cp0 (hA h), bS, tA]
 exact qay rfl
end
end Go.Proofs.Ytfohppnelbbepaa.T
/- The bridge, alive known -/
open Go.Vm
set_option linter.unusedVariables false
set_option linter.unusedSectionVars false
namespace Go.Proofs.Ytfohppnelbbepaa.T
open Go Go.RowKit Go.Deep Go.WideShapes Go.ChangeShapes
attribute [local instance] ovA
theorem aliveA {ro : List ABlk} (h : Heap) : callX F1 ro 16 [] h = some (.b true, h, h.length, h.length) := callX_ov rfl
theorem call_ofA {W : World} {ro : List ABlk} {rl : Rl} (hE : (Env.mk Try.prog W.heap.size W ro rl).Ok) {K : Nat} {vs : List AVal} {args : Array Value}
  (hv : LR rl [] vs args) {h' : Heap} {lw lp : Nat} (hc : callX F1 ro K vs [] = some (.b true, h', lw, lp)) : Calls Try.prog K args W fun e W' => e = .returned (.bool true) ∧ Below W.heap.size W W' :=
 call_of hE (alive_known hE (Try.checked.mixed) fok) hv hc
theorem exC {ro : List ABlk} {k : Nat} {l : List AVal} {h : Heap} {n m : Nat} {H : Heap} (e : callX F1 ro k l h = some (.b true, H, n, m)) : ∃ h' lw lp, callX F1 ro k l h = some (.b true, h', lw, lp) := ⟨_, _, _, e⟩
end Go.Proofs.Ytfohppnelbbepaa.T

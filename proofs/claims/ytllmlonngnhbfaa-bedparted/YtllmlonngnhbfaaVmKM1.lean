/- Contracts of the functions, part 1. -/
import Derived.Test.YtllmlonngnhbfaaVmKM0
/- The law's own search for a parting. -/
open Go.Vm
set_option linter.unusedVariables false
namespace Go.Proofs.Ytllmlonngnhbfaa.Bed
open Go

structure OwnB (hp : Heap) (b n : Nat) (rb : Nat → Nat) (val : Nat → Nat → Bool) : Prop where
  top : Vec hp 48 b n (fun r => .sl ⟨false, rb r, 0⟩ n (.known n))
  rows : ∀ r, r < n → Vec hp 4 (rb r) n (fun c => .b (val r c))
  apart : ∀ r r', r < n → r' < n → rb r = rb r' → r = r'
theorem OwnB.keep {hp hp' : Heap} {b n : Nat} {rb : Nat → Nat} {val : Nat → Nat → Bool} (h : OwnB hp b n rb val) (hk : hp'[b]? = hp[b]?) (hk2 : ∀ r, r < n → hp'[rb r]? = hp[rb r]?) : OwnB hp' b n rb val :=
  ⟨h.top.keep hk, fun r hr => (h.rows r hr).keep (hk2 r hr), h.apart⟩
theorem OwnB.congr {hp : Heap} {b n : Nat} {rb : Nat → Nat} {val val' : Nat → Nat → Bool} (h : OwnB hp b n rb val) (hc : ∀ r c, r < n → c < n → val r c = val' r c) : OwnB hp b n rb val' :=
  ⟨h.top, fun r hr => (h.rows r hr).congr fun c hc' => by rw [hc r c hr hc'], h.apart⟩
theorem Vec.wr {ro : List ABlk} {hp : Heap} {e b k : Nat} {get : Nat → AVal} {l p : Nat} (h : Vec hp e b k get) {r : Nat} (hr : r < k) {v : AVal} (hv : v.one = true) (hn : nonp [v] = true) :
    ∃ y, writesM ro [] [(⟨false, b, 0 + r⟩, [v])] ⟨hp, l, p⟩ = some ⟨hp.set b y, min l b, p⟩ ∧ Vec (hp.set b y) e b k (fun r' => if r' = r then v else get r') := by
  obtain ⟨blk, h1, h2, h3, h4⟩ := h
  refine ⟨some { blk with c := blk.c.set (0 + r) v }, wr_heap h1 (by omega) hv hn, { blk with c := blk.c.set (0 + r) v }, lget_set h1 _, h2, h3, fun r' hr' => ?_⟩
  show (blk.c.set (0 + r) v).get r' = if r' = r then v else get r'
  rw [get_set]
  by_cases e : r' = r
  · rw [if_pos (by omega), if_pos e]
  · rw [if_neg (by omega), if_neg e]; exact h4 r' hr'
theorem OwnB.set {ro : List ABlk} {hp : Heap} {b n : Nat} {rb : Nat → Nat} {val : Nat → Nat → Bool} (h : OwnB hp b n rb val) {r c : Nat} (hr : r < n) (hc : c < n) (x : Bool) {l p : Nat} :
    ∃ y, writesM ro [] [(⟨false, rb r, 0 + c⟩, [.b x])] ⟨hp, l, p⟩ = some ⟨hp.set (rb r) y, min l (rb r), p⟩ ∧ OwnB (hp.set (rb r) y) b n rb (fun r' c' => if r' = r ∧ c' = c then x else val r' c') := by
  obtain ⟨y, h1, h2⟩ := (h.rows r hr).wr (ro := ro) (l := l) (p := p) hc (v := .b x) rfl rfl
  refine ⟨y, h1, h.top.keep ?_, fun r' hr' => ?_, h.apart⟩
  · rw [List.getElem?_set_ne ((h.rows r hr).ne h.top (by decide))]
  · by_cases e : r' = r
    · subst e
      exact h2.congr fun c' _ => by
        by_cases e2 : c' = c
        · rw [if_pos e2, if_pos ⟨rfl, e2⟩]
        · rw [if_neg e2, if_neg fun h => e2 h.2]
    · have := (h.rows r' hr').keep (hp' := hp.set (rb r) y) (by rw [List.getElem?_set_ne fun h2 => e (h.apart r r' hr hr' h2).symm])
      exact this.congr fun c' _ => by rw [if_neg fun h => e h.1]

def allF (P : Nat → Bool) : Nat → Nat → Bool
  | 0, _ => true
  | k + 1, i => P i && allF P k (i + 1)
theorem allF_iff {P : Nat → Bool} : ∀ {k i : Nat}, allF P k i = true ↔ ∀ j, i ≤ j → j < i + k → P j = true
  | 0, i => ⟨fun _ j h1 h2 => by omega, fun _ => rfl⟩
  | k + 1, i => by
    rw [allF, Bool.and_eq_true, allF_iff]
    constructor
    · rintro ⟨h1, h2⟩ j h3 h4
      by_cases e : j = i
      · subst e; exact h1
      · exact h2 j (by omega) (by omega)
    · intro h
      exact ⟨h i (by omega) (by omega), fun j h3 h4 => h j (by omega) (by omega)⟩
theorem loop_and {b : Bool × Int → Option ((Bool × Int) ⊕ Bool)} (n : Nat) (P : Nat → Bool) (hin : ∀ i c, i < n → b (c, (i : Int)) = some (.inl (c && P i, ((i + 1 : Nat) : Int)))) (hout : ∀ c, b (c, (n : Int)) = some (.inr c)) :
    ∀ (k i : Nat) (c : Bool), i + k = n → loopX b (c, (i : Int)) = some (c && allF P k i)
  | 0, i, c, h => by
    obtain rfl : i = n := by omega
    rw [allF, Bool.and_true]
    exact loopX_out (hout c)
  | k + 1, i, c, h => by
    rw [allF, ← Bool.and_assoc]
    exact loopX_on (hin i c (by omega)) (loop_and n P hin hout k (i + 1) (c && P i) (by omega))

/-- a place has been used by one of the first transversals -/
def usedP (n : Nat) (now : List Nat) (m r c : Nat) : Prop := ∃ q, q < m ∧ q % n = r ∧ now.getD q 0 = c

/-- the cut of what has been chosen -/
def CutOk (v3 : AVal) (b r : Nat) : Prop := evP .e (.slS 1 (.c v3) none (some (.c (.i .i64 (r : Int)))) (some (.c (.i .i64 (r : Int))))) = some (.sl ⟨false, b, 0 + 0 * 1⟩ (r - 0) (.known (r - 0)))
theorem sb_all (r : Nat) : sbound (some (.i .i64 (r : Int))) r r = some r := by
  have h2 : Nat.ble r r = true := by rw [Nat.ble_eq]; exact Nat.le_refl _
  show cond (Nat.ble r r) (some r) none = _
  rw [h2]; rfl
theorem cut_any {b r : Nat} {cap : Cap} (h : capLe cap r r = true) : CutOk (.sl ⟨false, b, 0⟩ r cap) b r := by
  unfold CutOk
  show (cond (capLe cap r r) (match sbound (some (.i .i64 (r : Int))) r r with
    | some h => match sbound none 0 h with
      | some l => cond (Nat.blt l r || Nat.beq l 0) (some (AVal.sl ⟨false, b, 0 + l * 1⟩ (h - l) (.known (r - l)))) none
      | none => none
    | none => none) none) = _
  rw [h, sb_all]
  show cond (Nat.blt 0 r || Nat.beq 0 0) _ none = _
  have : (Nat.blt 0 r || Nat.beq 0 0) = true := by
    have : Nat.beq 0 0 = true := rfl
    rw [this, Bool.or_true]
  rw [this]
  rfl
theorem cut_known {b r : Nat} (h1 : r ≤ 1000) : CutOk (.sl ⟨false, b, 0⟩ r (.known r)) b r := cut_any (by show Nat.ble r r = true; rw [Nat.ble_eq]; exact Nat.le_refl _)
theorem cut_grow {b r : Nat} (h1 : r ≤ 1000) : CutOk (.sl ⟨false, b, 0⟩ r .grow) b r := cut_any (by show Nat.ble r r = true; rw [Nat.ble_eq]; exact Nat.le_refl _)

theorem cut_push {ro : List ABlk} {hp : Heap} {l p b r : Nat} {get : Nat → AVal} (h : Vec hp 3 b r get) (hr : r ≤ 1000) (c : Int) :
    ∃ hp1 hp2, stepM ro ⟨hp, l, p⟩ (.bsl 3 1 [(AVal.i IntKind.i64 0)] 1 [((0, 1), .c (.i .i64 c))]) = some (.sl ⟨false, hp.length, 0⟩ 1 (.known 1), ⟨hp1, l, p⟩) ∧
      stepM ro ⟨hp1, l, p⟩ (.app 3 1 8 [(AVal.i IntKind.i64 0)] (.c (.sl ⟨false, b, 0 + 0 * 1⟩ (r - 0) (.known (r - 0)))) (.c (.sl ⟨false, hp.length, 0⟩ 1 (.known 1)))) = some (.sl ⟨false, hp.length + 1, 0⟩ (r + 1) .grow, ⟨hp2, l, p⟩) ∧
      Vec hp2 3 (hp.length + 1) (r + 1) (fun i => if i < r then get i else .i .i64 c) ∧ hp2.length = hp.length + 2 ∧ ∀ i, i < hp.length → hp2[i]? = hp[i]? := by
  obtain ⟨blk, h1, h2, h3, h4⟩ := h
  have src : app_src ro (hp ++ [some (blkOf 3 [.i .i64 c])]) 1 (.sl ⟨false, hp.length, 0⟩ 1 (.known 1)) = some ([.i .i64 c], 1) := by
    have hb : rdB ro (hp ++ [some (blkOf 3 [.i .i64 c])]) ⟨false, hp.length, 0⟩ = some (blkOf 3 [.i .i64 c]) := by simp [rdB, lget_eq]
    have hg : (blkOf 3 [AVal.i .i64 c]).c.row 0 1 = [.i .i64 c] := by simp only [Tr.row, get_blk]; rfl
    have hble : Nat.ble (0 + 1 * 1) (blkOf 3 [AVal.i .i64 c]).n = true := rfl
    simp only [app_src, hb, hble, cond_true]
    rw [show 1 * 1 = 1 from rfl, hg]
  refine ⟨hp ++ [some (blkOf 3 [.i .i64 c])], hp ++ [some (blkOf 3 [.i .i64 c])] ++ [some (blkOf 3 (blk.c.row (0 + 0 * 1) ((r - 0) * 1) ++ [.i .i64 c]))], ?_, ?_, ⟨blkOf 3 (blk.c.row (0 + 0 * 1) ((r - 0) * 1) ++ [.i .i64 c]), ?_, rfl, ?_, fun i hi => ?_⟩, by simp, fun i hi => ?_⟩
  · simp [stepM, stepK, st_bsl, rep, fillA, opd, AVal.cells, splice, newB, St.mm]
  · have e1 : Nat.ble (r - 0 + 1) (r - 0) = false := by
      cases hh : Nat.ble (r - 0 + 1) (r - 0)
      · rfl
      · rw [Nat.ble_eq] at hh; omega
    have hb : rdB ro (hp ++ [some (blkOf 3 [.i .i64 c])]) ⟨false, b, 0 + 0 * 1⟩ = some blk := rdB_heap (lget_ext h1 _) _
    have e2 : (Nat.ble (0 + 0 * 1 + (r - 0) * 1) blk.n && fits (r - 0 + 1) 8) = true := by
      rw [fits_small (by omega : r - 0 + 1 ≤ 1000000) (by omega : 8 ≤ 1000)]
      simp [Nat.ble_eq]; omega
    simp only [stepM, stepK, opd, st_app, src, app_known, e1, cond_false, hb, e2, cond_true, newB, St.mm, List.length_append, List.length_singleton]
    rfl
  · have := lget_last (hp ++ [some (blkOf 3 [.i .i64 c])]) (some (blkOf 3 (blk.c.row (0 + 0 * 1) ((r - 0) * 1) ++ [.i .i64 c])))
    rwa [List.length_append, List.length_singleton] at this
  · simp [blkOf, length_row]
  · show (blkOf 3 (blk.c.row (0 + 0 * 1) ((r - 0) * 1) ++ [.i .i64 c])).c.get i = if i < r then get i else .i .i64 c
    rw [get_blk]
    by_cases hir : i < r
    · rw [if_pos hir, List.getD_eq_getElem?_getD, List.getElem?_append_left (by rw [length_row]; omega), getElem?_row, if_pos (by omega)]
      simp [h4 i hir]
    · rw [if_neg hir, List.getD_eq_getElem?_getD, List.getElem?_append_right (by rw [length_row]; omega), length_row, show i - (r - 0) * 1 = 0 by omega]
      rfl
  · rw [List.append_assoc, List.getElem?_append_left hi]

theorem tryc_one {α : Type} {f : Nat → Option α} {t : Nat} (ht : t < 8) (h : ∀ i, i ≠ t → f i = none) : tryc f 8 0 = f t := by
  have gen : ∀ j c, c ≤ t → t < c + j → tryc f j c = f t := by
    intro j
    induction j with
    | zero => intro c h1 h2; omega
    | succ j ih =>
      intro c h1 h2
      unfold tryc
      by_cases e : c = t
      · subst e
        cases hf : f c with
        | some z => rfl
        | none => exact tryc_none fun i h3 h4 => h i (by omega)
      · rw [h c e]
        exact ih (c + 1) (by omega) (by omega)
  exact gen 8 0 (by omega) (by omega)
theorem ext_snoc {ok : List Nat → Nat → Prop} : ∀ {w now : List Nat} {c : Nat}, Ext ok now w → ok (now ++ w) c → Ext ok now (w ++ [c])
  | [], now, c, _, h => ⟨by simpa using h, trivial⟩
  | d :: w, now, c, h, hc => ⟨h.1, ext_snoc h.2 (by simpa using hc)⟩

open Classical in
/-- the columns that the first transversals use -/
noncomputable def usedV (n : Nat) (now : List Nat) (m : Nat) : Nat → Nat → Bool := fun r c => decide (usedP n now m r c)

theorem used_step {n t r c : Nat} {now : List Nat} (hr : r < n) : usedP n now ((t + 1) * n) r c ↔ usedP n now (t * n) r c ∨ c = now.getD (t * n + r) 0 := by
  constructor
  · rintro ⟨q, h1, h2, h3⟩
    by_cases e : q < t * n
    · exact .inl ⟨q, e, h2, h3⟩
    · right
      have h4 := Nat.div_add_mod' q n
      have h5 : q / n = t := by
        rw [Nat.div_eq_iff (by omega)]
        rw [Nat.add_mul] at h1
        omega
      rw [h5, h2] at h4
      rw [h4, h3]
  · rintro (⟨q, h1, h2, h3⟩ | h)
    · exact ⟨q, by rw [Nat.add_mul]; omega, h2, h3⟩
    · exact ⟨t * n + r, by rw [Nat.add_mul]; omega, (divmod hr).2, h.symm⟩

open Classical in
set_option maxHeartbeats 1600000 in
theorem part_main {ro : List ABlk} {a : AVal} {x : List (List Int)} (ha : ∀ y, IsMat ro y a x) (hf : fullP x) {bu : Nat} {rb : Nat → Nat} : ∀ (k : Nat),
    (∀ (t : Nat) (now : List Nat) (hp : Heap), now.length = t * x.length → t ≤ x.length → now.length + k = x.length * x.length → Ext (okP x) [] now → OwnB hp bu x.length rb (usedV x.length now (t * x.length)) →
      ∃ hp' lw, callX F1 ro 49 [a, .sl ⟨false, bu, 0⟩ x.length .grow, .i .i64 t] hp = some (.b (dm (okP x) k now).isSome, hp', lw, hp.length) ∧ hp'.length = hp.length ∧
        (∀ i, (∀ r, r < x.length → i ≠ rb r) → hp'[i]? = hp[i]?) ∧ OwnB hp' bu x.length rb (usedV x.length now (t * x.length))) ∧
    (∀ (t r : Nat) (now : List Nat) (hp : Heap) (b3 : Nat) (cap : Cap), now.length = t * x.length + r → 1 ≤ r → r ≤ x.length → t < x.length → now.length + k = x.length * x.length → Ext (okP x) [] now → OwnB hp bu x.length rb (usedV x.length now (t * x.length)) →
      Vec hp 3 b3 r (fun i => .i .i64 ((now.getD (t * x.length + i) 0 : Nat) : Int)) → CutOk (.sl ⟨false, b3, 0⟩ r cap) b3 r →
      ∃ hp' lw, callX F1 ro 82 [a, .sl ⟨false, bu, 0⟩ x.length .grow, .i .i64 t, .sl ⟨false, b3, 0⟩ r cap] hp = some (.b (dm (okP x) k now).isSome, hp', lw, hp.length) ∧ hp'.length = hp.length ∧
        (∀ i, (∀ r, r < x.length → i ≠ rb r) → hp'[i]? = hp[i]?) ∧ OwnB hp' bu x.length rb (usedV x.length now (t * x.length))) := by
  have h7 := hf.1.1.2.1
  have hn := hf.1.1.1
  have hla : ∀ y, evP .e (.len false (.c a)) = some (.i .i64 x.length) := fun y => len_mat (ha y)
  have hbit8 : ∀ c, c < x.length → c < 8 := fun c hc => by omega
  have hlens : ∀ b n cap, evP .e (.len false (.c (.sl ⟨false, b, 0⟩ n cap))) = some (.i .i64 n) := fun b n cap => by simp [evP, ev_len, opd, mkI_eq]
  have hfin : ∀ (L : Nat) (h' : Heap) (lw : Nat) (v : Bool), L ≤ h'.length → finM L (.b v) ⟨h', lw, L⟩ = some (.b v, h'.take L, lw, L) := fun L h' lw v hl => fin_take rfl
  intro k
  induction k using Nat.strongRecOn with
  | _ k ih =>
  have P49 : ∀ (t : Nat) (now : List Nat) (hp : Heap), now.length = t * x.length → t ≤ x.length → now.length + k = x.length * x.length → Ext (okP x) [] now → OwnB hp bu x.length rb (usedV x.length now (t * x.length)) →
      ∃ hp' lw, callX F1 ro 49 [a, .sl ⟨false, bu, 0⟩ x.length .grow, .i .i64 t] hp = some (.b (dm (okP x) k now).isSome, hp', lw, hp.length) ∧ hp'.length = hp.length ∧
        (∀ i, (∀ r, r < x.length → i ≠ rb r) → hp'[i]? = hp[i]?) ∧ OwnB hp' bu x.length rb (usedV x.length now (t * x.length)) := by
    intro t now hp hl htn hk he hO
    by_cases e : t = x.length
    · have hk0 : k = 0 := by rw [hl, e] at hk; omega
      subst hk0
      refine ⟨hp, hp.length, g49_ok (meansX_ok F1 ro) rfl ?_, rfl, fun _ _ => rfl, hO⟩
      unfold g49
      have e2 : ((t : Int) == (x.length : Int)) = true := by simp [e]
      simp only [hla hp, bindO_some, asI_i, forceB_eq, eqI_eq, e2, cond_true, tupA]
      exact fin_pure rfl
    · have ht : t < x.length := by omega
      have h3 : t * x.length + x.length ≤ x.length * x.length := by
        have := Nat.mul_le_mul_right x.length (by omega : t + 1 ≤ x.length)
        rw [Nat.add_mul, Nat.one_mul] at this
        exact this
      obtain ⟨k', rfl⟩ : ∃ k', k = k' + 1 := ⟨k - 1, by omega⟩
      have hmod : now.length % x.length = 0 := by rw [hl]; exact Nat.mul_mod_left _ _
      have hdiv : now.length / x.length = t := by rw [hl]; exact Nat.mul_div_cancel _ (by omega)
      have hok : ∀ c, okP x now c ↔ c = t := fun c => by
        unfold okP
        rw [hmod, hdiv]
        exact ⟨fun h => h.2.1 rfl, fun h => ⟨by omega, fun _ => h, fun h => absurd rfl h⟩⟩
      have hdm : dm (okP x) (k' + 1) now = dm (okP x) k' (now ++ [t]) := by
        show tryc (fun c => if okP x now c then dm (okP x) k' (now ++ [c]) else none) 8 0 = _
        rw [tryc_one (hbit8 t ht) fun i hi => if_neg fun h => hi ((hok i).1 h)]
        exact if_pos ((hok t).2 rfl)
      rw [hdm]
      have s1 : stepM ro ⟨hp, hp.length, hp.length⟩ (.bsl 3 1 [(AVal.i IntKind.i64 0)] 1 [((0, 1), .c (.i .i64 (t : Int)))]) = some (.sl ⟨false, hp.length, 0⟩ 1 (.known 1), ⟨hp ++ [some (blkOf 3 [.i .i64 (t : Int)])], hp.length, hp.length⟩) := by
        simp [stepM, stepK, st_bsl, rep, fillA, opd, AVal.cells, splice, newB, St.mm]
      have hg : ∀ i, i < hp.length → (hp ++ [some (blkOf 3 [AVal.i .i64 (t : Int)])])[i]? = hp[i]? := fun i hi => List.getElem?_append_left hi
      have hO1 : OwnB (hp ++ [some (blkOf 3 [.i .i64 (t : Int)])]) bu x.length rb (usedV x.length (now ++ [t]) (t * x.length)) := by
        refine (hO.keep (hg _ hO.top.lt) fun r hr => hg _ (hO.rows r hr).lt).congr fun r c hr hc => decide_eq_decide.2 ⟨?_, ?_⟩
        · rintro ⟨q, h1, h2, h3⟩; exact ⟨q, h1, h2, by rw [getD_app (by omega)]; exact h3⟩
        · rintro ⟨q, h1, h2, h3⟩; rw [getD_app (by omega)] at h3; exact ⟨q, h1, h2, h3⟩
      have hV : Vec (hp ++ [some (blkOf 3 [.i .i64 (t : Int)])]) 3 hp.length 1 (fun i => .i .i64 (((now ++ [t]).getD (t * x.length + i) 0 : Nat) : Int)) := by
        refine ⟨blkOf 3 [.i .i64 (t : Int)], lget_last _ _, rfl, by simp [blkOf], fun i hi => ?_⟩
        obtain rfl : i = 0 := by omega
        rw [get_blk]
        show AVal.i .i64 (t : Int) = .i .i64 (((now ++ [t]).getD (t * x.length + 0) 0 : Nat) : Int)
        rw [Nat.add_zero, ← hl, getD_app']
      obtain ⟨hp', lw, c1, c2, c3, c4⟩ := (ih k' (by omega)).2 t 1 (now ++ [t]) (hp ++ [some (blkOf 3 [.i .i64 (t : Int)])]) hp.length (.known 1) (by simp [hl]) (by omega) (by omega) ht (by simp; omega) (ext_snoc he (by rw [List.nil_append]; exact (hok t).2 rfl)) hO1 hV (cut_known (by omega))
      have hl1 : (hp ++ [some (blkOf 3 [AVal.i .i64 (t : Int)])]).length = hp.length + 1 := by simp
      have c82 := callM_eq (call := callX F1 ro) (m := ⟨hp ++ [some (blkOf 3 [.i .i64 (t : Int)])], hp.length, hp.length⟩) c1
      simp only [hl1, Nat.min_eq_left (by omega : hp.length ≤ hp.length + 1)] at c82
      rw [hl1] at c2
      have htk : ∀ i, i < hp.length → (hp'.take hp.length)[i]? = hp'[i]? := fun i hi => by rw [List.getElem?_take, if_pos hi]
      refine ⟨hp'.take hp.length, min hp.length lw, g49_ok (meansX_ok F1 ro) rfl ?_, by rw [List.length_take]; omega, fun i hi => ?_, ?_⟩
      · unfold g49
        have e2 : ((t : Int) == (x.length : Int)) = false := by simp; omega
        simp only [hla hp, bindO_some, asI_i, forceB_eq, eqI_eq, e2, cond_false, s1, bindP_some, meansX_call, c82, asB_b, tupA]
        exact hfin _ _ _ _ (by omega)
      · by_cases hil : i < hp.length
        · rw [htk i hil, c3 i hi, hg i hil]
        · rw [List.getElem?_eq_none (by rw [List.length_take]; omega), List.getElem?_eq_none (by omega)]
      · refine (c4.keep (htk _ hO.top.lt) fun r hr => htk _ (hO.rows r hr).lt).congr fun r c hr hc => decide_eq_decide.2 ⟨?_, ?_⟩
        · rintro ⟨q, h1, h2, h3⟩; rw [getD_app (by omega)] at h3; exact ⟨q, h1, h2, h3⟩
        · rintro ⟨q, h1, h2, h3⟩; exact ⟨q, h1, h2, by rw [getD_app (by omega)]; exact h3⟩
  refine ⟨P49, ?_⟩
  intro t r now hp b3 cap hl hr1 hrn ht hk he hO hV hcut
  have hlt : ∀ q, q < now.length → now.getD q 0 < x.length := fun q hq => by
    have := (ext_get he q hq)
    simp only [List.nil_append] at this
    exact this.1
  have h3 : t * x.length + x.length ≤ x.length * x.length := by
    have := Nat.mul_le_mul_right x.length (by omega : t + 1 ≤ x.length)
    rw [Nat.add_mul, Nat.one_mul] at this
    exact this
  have htn : t * x.length ≤ 7 * 7 := Nat.mul_le_mul (by omega) h7
  have hbne : ∀ i, i < x.length → b3 ≠ rb i := fun i hi => hV.ne (hO.rows i hi) (by decide)
  by_cases hrx : r = x.length
  · subst hrx
    -- the transversal is whole: marks, the rest, marks taken back
    have htop : ∀ {hp : Heap} {val : Nat → Nat → Bool}, OwnB hp bu x.length rb val → ∀ i, i < x.length → evP .e (.ixS 1 (.c (.sl ⟨false, bu, 0⟩ x.length .grow)) (.c (.i .i64 (i : Int)))) = some (.p (some ⟨false, bu, 0 + i⟩)) ∧ ldA ro hp true 1 (.p (some ⟨false, bu, 0 + i⟩)) = some (.sl ⟨false, rb i, 0⟩ x.length (.known x.length)) := fun h i hi => ⟨ixS_eq hi, h.top.lda hi⟩
    have hmark := loop_all (b := fun s => g82_b0 (meansX F1 ro) ro a (.sl ⟨false, bu, 0⟩ x.length .grow) t (.sl ⟨false, b3, 0⟩ x.length cap) x.length s.1 s.2) x.length
      (fun i m => m.lp = hp.length ∧ m.h.length = hp.length ∧ (∀ j, (∀ r, r < x.length → j ≠ rb r) → m.h[j]? = hp[j]?) ∧ OwnB m.h bu x.length rb (fun r c => if r < i ∧ c = now.getD (t * x.length + r) 0 then true else usedV x.length now (t * x.length) r c)) ?_ ?_ x.length 0 ⟨hp, hp.length, hp.length⟩ (by omega) ⟨rfl, rfl, fun _ _ => rfl, hO.congr fun r c _ _ => by rw [if_neg (by omega)]⟩
    · obtain ⟨⟨h1, lw1, lp1⟩, a1, a2, a3, a4, a5⟩ := hmark
      simp only at a2 a3 a4 a5
      subst a2
      have hO1 : OwnB h1 bu x.length rb (usedV x.length now ((t + 1) * x.length)) := a5.congr fun r c hr hc => by
        show (if r < x.length ∧ c = now.getD (t * x.length + r) 0 then true else usedV x.length now (t * x.length) r c) = decide (usedP x.length now ((t + 1) * x.length) r c)
        have := used_step (n := x.length) (t := t) (c := c) (now := now) hr
        by_cases e : c = now.getD (t * x.length + r) 0
        · rw [if_pos ⟨hr, e⟩]
          exact (decide_eq_true (this.2 (.inr e))).symm
        · rw [if_neg fun h => e h.2]
          exact decide_eq_decide.2 (by rw [this]; exact ⟨.inl, fun h => h.resolve_right e⟩)
      have hl' : now.length = (t + 1) * x.length := by rw [hl, Nat.add_mul, Nat.one_mul]
      obtain ⟨h2, lw2, b1, b2, b3', b4⟩ := P49 (t + 1) now h1 hl' (by omega) hk he hO1
      have c49 := callM_eq (call := callX F1 ro) (m := ⟨h1, lw1, hp.length⟩) b1
      simp only [a3, Nat.min_self] at c49
      have hV2 : ∀ h : Heap, (∀ j, (∀ r, r < x.length → j ≠ rb r) → h[j]? = hp[j]?) → Vec h 3 b3 x.length (fun i => .i .i64 ((now.getD (t * x.length + i) 0 : Nat) : Int)) := fun h hh => hV.keep (hh b3 hbne)
      have hk2 : ∀ j, (∀ r, r < x.length → j ≠ rb r) → h2[j]? = hp[j]? := fun j hj => by rw [b3' j hj, a4 j hj]
      have hun := loop_all (b := fun s => g82_b1 (meansX F1 ro) ro (.sl ⟨false, bu, 0⟩ x.length .grow) (.sl ⟨false, b3, 0⟩ x.length cap) x.length (dm (okP x) k now).isSome s.1 s.2) x.length
        (fun i m => m.lp = hp.length ∧ m.h.length = hp.length ∧ (∀ j, (∀ r, r < x.length → j ≠ rb r) → m.h[j]? = hp[j]?) ∧ OwnB m.h bu x.length rb (fun r c => if r < i ∧ c = now.getD (t * x.length + r) 0 then false else usedV x.length now ((t + 1) * x.length) r c)) ?_ ?_ x.length 0 ⟨h2, min lw1 lw2, hp.length⟩ (by omega) ⟨rfl, by show h2.length = _; omega, hk2, b4.congr fun r c _ _ => by rw [if_neg (by omega)]⟩
      · obtain ⟨⟨h3', lw3, lp3⟩, d1, d2, d3, d4, d5⟩ := hun
        simp only at d2 d3 d4 d5
        subst d2
        have hO3 : OwnB h3' bu x.length rb (usedV x.length now (t * x.length)) := d5.congr fun r c hr hc => by
          show (if r < x.length ∧ c = now.getD (t * x.length + r) 0 then false else decide (usedP x.length now ((t + 1) * x.length) r c)) = decide (usedP x.length now (t * x.length) r c)
          have := used_step (n := x.length) (t := t) (c := c) (now := now) hr
          by_cases e : c = now.getD (t * x.length + r) 0
          · rw [if_pos ⟨hr, e⟩]
            refine (decide_eq_false ?_).symm
            rintro ⟨q, h1, h2, h3⟩
            have hpl : t * x.length + r < now.length := by omega
            have := (ext_get he (t * x.length + r) hpl)
            simp only [List.nil_append] at this
            have htl : (now.take (t * x.length + r)).length = t * x.length + r := take_len (by omega)
            by_cases hr0 : r = 0
            · have h4 := this.2.1
              rw [htl, (divmod hr).2, (divmod hr).1] at h4
              have h4 := h4 hr0
              have h5 := (ext_get he q (by omega))
              simp only [List.nil_append] at h5
              have hq : (now.take q).length = q := take_len (by omega)
              have h6 := h5.2.1
              rw [hq, h2] at h6
              have h6 := h6 hr0
              have h7 : q / x.length < t := Nat.div_lt_of_lt_mul (by rw [Nat.mul_comm]; exact h1)
              omega
            · have h4 := this.2.2
              rw [htl, (divmod hr).2] at h4
              have h4 := (h4 hr0).1 q (by omega) h2
              rw [take_getD (by omega)] at h4
              exact h4 (by rw [h3, e])
          · rw [if_neg fun h => e h.2]
            exact decide_eq_decide.2 (by rw [this]; exact ⟨fun h => h.resolve_right e, .inl⟩)
        refine ⟨h3', lw3, g82_ok (meansX_ok F1 ro) rfl ?_, d3, d4, hO3⟩
        unfold g82
        have e0 : ((0 : Nat) : Int) = 0 := rfl
        rw [e0] at a1 d1
        have e2 : ((x.length : Int) == (x.length : Int)) = true := by simp
        simp only [hla hp, hlens, bindO_some, asI_i, forceB_eq, eqI_eq, e2, cond_true, meansX_loop, a1, forceI_eq, wr_next (by omega : t ≤ 1000000), meansX_call, c49, bindP_some, asB_b, d1, tupA]
        rw [hfin _ _ _ _ (by omega), ← d3, List.take_length]
      · rintro i ⟨h4, lw4, lp4⟩ hi ⟨i1, i2, i3, i4⟩
        simp only at i1 i2 i3 i4
        subst i1
        obtain ⟨j1, j2⟩ := htop i4 i hi
        have j3 := (hV2 h4 i3).lda (ro := ro) hi
        have hci := hlt (t * x.length + i) (by omega)
        obtain ⟨y, w1, w2⟩ := i4.set (ro := ro) (l := lw4) (p := hp.length) hi hci false
        refine ⟨⟨h4.set (rb i) y, min lw4 (rb i), hp.length⟩, ?_, rfl, by show (h4.set (rb i) y).length = _; rw [List.length_set, i2], fun j hj => ?_, w2.congr fun r c hr hc => ?_⟩
        · simp only [g82_b1, forceB_eq, ltI_eq, lt_yes hi, cond_true, j1, bindO_some, j2, ixS_eq hi, j3, asI_i, ixS_eq hci, asP_p, AVal.cells, w1, forceI_eq, wr_next (by omega : i ≤ 1000000)]
        · show (h4.set (rb i) y)[j]? = _
          rw [List.getElem?_set_ne (fun e => hj i hi e.symm)]; exact i3 j hj
        · by_cases e : r = i ∧ c = now.getD (t * x.length + i) 0
          · rw [if_pos e, if_pos ⟨by omega, by rw [e.2, e.1]⟩]
          · rw [if_neg e]
            by_cases e2 : r < i ∧ c = now.getD (t * x.length + r) 0
            · rw [if_pos e2, if_pos ⟨by omega, e2.2⟩]
            · rw [if_neg e2, if_neg fun h => by
                by_cases e3 : r = i
                · exact e ⟨e3, by rw [h.2, e3]⟩
                · exact e2 ⟨by omega, h.2⟩]
      · rintro m -
        simp only [g82_b1, forceB_eq, ltI_eq, lt_no, cond_false]
    · rintro i ⟨h4, lw4, lp4⟩ hi ⟨i1, i2, i3, i4⟩
      simp only at i1 i2 i3 i4
      subst i1
      obtain ⟨j1, j2⟩ := htop i4 i hi
      have j3 := (hV.keep (i3 b3 hbne)).lda (ro := ro) hi
      have hci := hlt (t * x.length + i) (by omega)
      obtain ⟨y, w1, w2⟩ := i4.set (ro := ro) (l := lw4) (p := hp.length) hi hci true
      refine ⟨⟨h4.set (rb i) y, min lw4 (rb i), hp.length⟩, ?_, rfl, by show (h4.set (rb i) y).length = _; rw [List.length_set, i2], fun j hj => ?_, w2.congr fun r c hr hc => ?_⟩
      · simp only [g82_b0, forceB_eq, ltI_eq, lt_yes hi, cond_true, j1, bindO_some, j2, ixS_eq hi, j3, asI_i, ixS_eq hci, asP_p, AVal.cells, w1, forceI_eq, wr_next (by omega : i ≤ 1000000)]
      · show (h4.set (rb i) y)[j]? = _
        rw [List.getElem?_set_ne (fun e => hj i hi e.symm)]; exact i3 j hj
      · by_cases e : r = i ∧ c = now.getD (t * x.length + i) 0
        · rw [if_pos e, if_pos ⟨by omega, by rw [e.2, e.1]⟩]
        · rw [if_neg e]
          by_cases e2 : r < i ∧ c = now.getD (t * x.length + r) 0
          · rw [if_pos e2, if_pos ⟨by omega, e2.2⟩]
          · rw [if_neg e2, if_neg fun h => by
              by_cases e3 : r = i
              · exact e ⟨e3, by rw [h.2, e3]⟩
              · exact e2 ⟨by omega, h.2⟩]
    · rintro m -
      simp only [g82_b0, forceB_eq, ltI_eq, lt_no, cond_false]
  · -- the next column
    have hr : r < x.length := by omega
    obtain ⟨k', rfl⟩ : ∃ k', k = k' + 1 := ⟨k - 1, by omega⟩
    have hmod : now.length % x.length = r := by rw [hl]; exact (divmod hr).2
    have hdiv : now.length / x.length = t := by rw [hl]; exact (divmod hr).1
    obtain ⟨f, hfd⟩ : ∃ f : Nat → Option (List Nat), f = fun c => if okP x now c then dm (okP x) k' (now ++ [c]) else none := ⟨_, rfl⟩
    have hdm : dm (okP x) (k' + 1) now = tryc f x.length 0 := by
      have h8 : x.length + (8 - x.length) = 8 := by omega
      show tryc _ 8 0 = _
      rw [← h8, hfd]
      exact tryc_app fun i h1 h2 => if_neg fun h => by have := h.1; omega
    have hlr : (x.length : Int) ≠ (r : Int) := by omega
    have hloop := loop_try (b := fun s => g82_b2 (meansX F1 ro) ro a (.sl ⟨false, bu, 0⟩ x.length .grow) t (.sl ⟨false, b3, 0⟩ r cap) x.length r s.1 s.2) x.length f
      (fun m => m.lp = hp.length ∧ hp.length ≤ m.h.length ∧ (∀ j, j < hp.length → (∀ r, r < x.length → j ≠ rb r) → m.h[j]? = hp[j]?) ∧ OwnB m.h bu x.length rb (usedV x.length now (t * x.length)))
      (fun z o => ∃ m' : Mm, o = (true, m') ∧ m'.lp = hp.length ∧ hp.length ≤ m'.h.length ∧ (∀ j, j < hp.length → (∀ r, r < x.length → j ≠ rb r) → m'.h[j]? = hp[j]?) ∧ OwnB m'.h bu x.length rb (usedV x.length now (t * x.length)))
      ?_ ?_ x.length 0 ⟨hp, hp.length, hp.length⟩ (by omega) ⟨rfl, Nat.le_refl _, fun _ _ _ => rfl, hO⟩
    · rw [← hdm] at hloop
      have e0 : ((0 : Nat) : Int) = 0 := rfl
      have e2 : ((r : Int) == (x.length : Int)) = false := by simp; omega
      have fini : ∀ (h' : Heap) (lw : Nat) (v : Bool), hp.length ≤ h'.length → (∀ j, j < hp.length → (∀ r, r < x.length → j ≠ rb r) → h'[j]? = hp[j]?) → OwnB h' bu x.length rb (usedV x.length now (t * x.length)) →
          (h'.take hp.length).length = hp.length ∧ (∀ i, (∀ r, r < x.length → i ≠ rb r) → (h'.take hp.length)[i]? = hp[i]?) ∧ OwnB (h'.take hp.length) bu x.length rb (usedV x.length now (t * x.length)) := by
        intro h' lw v f1 f2 f3
        have htk : ∀ i, i < hp.length → (h'.take hp.length)[i]? = h'[i]? := fun i hi => by rw [List.getElem?_take, if_pos hi]
        refine ⟨by rw [List.length_take]; omega, fun i hi => ?_, f3.keep (htk _ hO.top.lt) fun r hr => htk _ (hO.rows r hr).lt⟩
        by_cases hil : i < hp.length
        · rw [htk i hil, f2 i hil hi]
        · rw [List.getElem?_eq_none (by rw [List.length_take]; omega), List.getElem?_eq_none (by omega)]
      cases hd : dm (okP x) (k' + 1) now with
      | some z =>
        rw [hd] at hloop
        obtain ⟨o, l1, ⟨h', lw', lp'⟩, rfl, l2, l3, l4, l5⟩ := hloop
        simp only at l2 l3 l4 l5
        subst l2
        obtain ⟨f1, f2, f3⟩ := fini h' lw' true l3 l4 l5
        refine ⟨h'.take hp.length, lw', g82_ok (meansX_ok F1 ro) rfl ?_, f1, f2, f3⟩
        unfold g82
        rw [e0] at l1
        simp only [hla hp, hlens, bindO_some, asI_i, forceB_eq, eqI_eq, e2, cond_false, meansX_loop, l1, tupA]
        exact hfin _ _ _ _ l3
      | none =>
        rw [hd] at hloop
        obtain ⟨⟨h', lw', lp'⟩, l1, l2, l3, l4, l5⟩ := hloop
        simp only at l2 l3 l4 l5
        subst l2
        obtain ⟨f1, f2, f3⟩ := fini h' lw' false l3 l4 l5
        refine ⟨h'.take hp.length, lw', g82_ok (meansX_ok F1 ro) rfl ?_, f1, f2, f3⟩
        unfold g82
        rw [e0] at l1
        simp only [hla hp, hlens, bindO_some, asI_i, forceB_eq, eqI_eq, e2, cond_false, meansX_loop, l1, tupA]
        exact hfin _ _ _ _ l3
    · rintro c ⟨h1, lw1, lp1⟩ hc ⟨i1, i2, i3, i4⟩
      simp only at i1 i2 i3 i4
      subst i1
      have hV1 : Vec h1 3 b3 r (fun i => .i .i64 ((now.getD (t * x.length + i) 0 : Nat) : Int)) := hV.keep (i3 b3 hV.lt hbne)
      have j1 : ldM ro ⟨h1, lw1, hp.length⟩ true 1 (.p (some ⟨false, bu, 0 + r⟩)) = some (.sl ⟨false, rb r, 0⟩ x.length (.known x.length)) := i4.top.ld hr
      have j2 : ldM ro ⟨h1, lw1, hp.length⟩ true 1 (.p (some ⟨false, rb r, 0 + c⟩)) = some (.b (usedV x.length now (t * x.length) r c)) := (i4.rows r hr).ld hc
      -- the inner loop
      obtain ⟨P, hP⟩ : ∃ P : Nat → Bool, P = fun i => !decide (now.getD (t * x.length + i) 0 = c) && !decide (at2 x i (now.getD (t * x.length + i) 0) = at2 x r c) := ⟨_, rfl⟩
      have hinner := loop_and (b := fun s => g82_b3 (meansX F1 ro) ro a (.sl ⟨false, bu, 0⟩ x.length .grow) t (.sl ⟨false, b3, 0⟩ r cap) x.length r c ⟨h1, lw1, hp.length⟩ s.1 s.2) r P (fun i b hi => by
        have l1 := hV1.lda (ro := ro) hi
        have hci := hlt (t * x.length + i) (by omega)
        obtain ⟨w1, u1, w2, a1, a2, a3, a4, a5, a6⟩ := at_cell (ha h1) hf.1.1 (by omega : i < x.length) hci (l := lw1) (p := hp.length)
        obtain ⟨w3, u3, w4, b1, b2, b3', b4, b5, b6⟩ := at_cell (ha h1) hf.1.1 hr hc (l := lw1) (p := hp.length)
        have eq1 : (((now.getD (t * x.length + i) 0 : Nat) : Int) == (c : Int)) = decide (now.getD (t * x.length + i) 0 = c) := by
          by_cases e : now.getD (t * x.length + i) 0 = c
          · rw [decide_eq_true e, e]; simp
          · rw [decide_eq_false e]; exact beq_eq_false_iff_ne.2 (by omega)
        have eq2 : (at2 x i (now.getD (t * x.length + i) 0) == at2 x r c) = decide (at2 x i (now.getD (t * x.length + i) 0) = at2 x r c) := by
          by_cases e : at2 x i (now.getD (t * x.length + i) 0) = at2 x r c
          · rw [decide_eq_true e, e]; simp
          · rw [decide_eq_false e]; exact beq_eq_false_iff_ne.2 e
        rw [hP]
        cases b with
        | false =>
          simp only [g82_b3, forceB_eq, ltI_eq, lt_yes hi, cond_true, cond_false, bindO_some, forceI_eq, wr_next (by omega : i ≤ 1000000), Bool.false_and]
        | true =>
          by_cases e : now.getD (t * x.length + i) 0 = c
          · simp only [g82_b3, forceB_eq, ltI_eq, lt_yes hi, cond_true, ixS_eq hi, bindO_some, l1, asI_i, eqI_eq, eq1, decide_eq_true e, Bool.not_true, cond_false, forceI_eq, wr_next (by omega : i ≤ 1000000), Bool.true_and, Bool.false_and]
          · simp only [g82_b3, forceB_eq, ltI_eq, lt_yes hi, cond_true, ixS_eq hi, bindO_some, l1, asI_i, eqI_eq, eq1, decide_eq_false e, Bool.not_false, a1, a3, a4, a6, b1, b3', b4, b6, eq2, forceI_eq, wr_next (by omega : i ≤ 1000000), Bool.true_and]) (fun b => by
        simp only [g82_b3, forceB_eq, ltI_eq, lt_no, cond_false]) r 0 (!usedV x.length now (t * x.length) r c) (by omega)
      have e0 : ((0 : Nat) : Int) = 0 := rfl
      rw [e0] at hinner
      have hiff : okP x now c ↔ ((!usedV x.length now (t * x.length) r c) && allF P r 0) = true := by
        rw [Bool.and_eq_true, allF_iff, Bool.not_eq_true', hP]
        unfold okP usedV
        rw [hmod, hdiv, decide_eq_false_iff_not]
        constructor
        · rintro ⟨-, -, h2⟩
          obtain ⟨h3, h4⟩ := h2 (by omega)
          refine ⟨fun ⟨q, f1, f2, f3⟩ => h3 q (by omega) f2 f3, fun j _ hj => ?_⟩
          have := h4 (t * x.length + j) (by omega) (divmod (by omega : j < x.length)).1
          rw [(divmod (by omega : j < x.length)).2] at this
          rw [Bool.and_eq_true, Bool.not_eq_true', Bool.not_eq_true', decide_eq_false_iff_not, decide_eq_false_iff_not]
          exact this
        · rintro ⟨h2, h3⟩
          refine ⟨hc, fun h0 => by omega, fun _ => ⟨fun q hq hqm he => ?_, fun q hq hqd => ?_⟩⟩
          · by_cases e : q < t * x.length
            · exact h2 ⟨q, e, hqm, he⟩
            · have h4 := Nat.div_add_mod' q x.length
              have h5 : q / x.length = t := by
                rw [Nat.div_eq_iff (by omega)]
                omega
              rw [h5, hqm] at h4
              omega
          · have h4 := Nat.div_add_mod' q x.length
            rw [hqd] at h4
            have := h3 (q % x.length) (by omega) (by omega)
            rw [Bool.and_eq_true, Bool.not_eq_true', Bool.not_eq_true', decide_eq_false_iff_not, decide_eq_false_iff_not, h4] at this
            exact this
      by_cases hok : okP x now c
      · have hfc : f c = dm (okP x) k' (now ++ [c]) := by rw [hfd]; exact if_pos hok
        rw [hfc]
        have hcond := hiff.1 hok
        rw [hcond] at hinner
        obtain ⟨hp1, hp2, s1, s2, s3, s4, s5⟩ := cut_push (ro := ro) (l := lw1) (p := hp.length) hV1 (by omega) (c : Int)
        have hO2 : OwnB hp2 bu x.length rb (usedV x.length (now ++ [c]) (t * x.length)) := by
          refine (i4.keep (s5 _ i4.top.lt) fun r hr => s5 _ (i4.rows r hr).lt).congr fun r c hr hc => decide_eq_decide.2 ⟨?_, ?_⟩
          · rintro ⟨q, h1, h2, h3⟩; exact ⟨q, h1, h2, by rw [getD_app (by omega)]; exact h3⟩
          · rintro ⟨q, h1, h2, h3⟩; rw [getD_app (by omega)] at h3; exact ⟨q, h1, h2, h3⟩
        have hV3 : Vec hp2 3 (h1.length + 1) (r + 1) (fun i => .i .i64 (((now ++ [c]).getD (t * x.length + i) 0 : Nat) : Int)) := s3.congr fun i hi => by
          by_cases e : i < r
          · rw [if_pos e, getD_app (by omega)]
          · have : i = r := by omega
            subst this
            rw [if_neg e, ← hl, getD_app']
        obtain ⟨hp', lw, c1, c2, c3, c4⟩ := (ih k' (by omega)).2 t (r + 1) (now ++ [c]) hp2 (h1.length + 1) .grow (by simp [hl]; omega) (by omega) (by omega) ht (by simp; omega) (ext_snoc he (by rw [List.nil_append]; exact hok)) hO2 hV3 (cut_grow (by omega))
        have c82 := callM_eq (call := callX F1 ro) (m := ⟨hp2, lw1, hp.length⟩) c1
        simp only [Nat.min_eq_left (by omega : hp.length ≤ hp2.length)] at c82
        have hO4 : OwnB hp' bu x.length rb (usedV x.length now (t * x.length)) := c4.congr fun r c hr hc => decide_eq_decide.2 ⟨by
          rintro ⟨q, h1, h2, h3⟩; rw [getD_app (by omega)] at h3; exact ⟨q, h1, h2, h3⟩, by
          rintro ⟨q, h1, h2, h3⟩; exact ⟨q, h1, h2, by rw [getD_app (by omega)]; exact h3⟩⟩
        have hk4 : ∀ j, j < hp.length → (∀ r, r < x.length → j ≠ rb r) → hp'[j]? = hp[j]? := fun j hj e => by rw [c3 j e, s5 j (by omega), i3 j hj e]
        have hcut' := hcut
        unfold CutOk at hcut'
        cases hd : dm (okP x) k' (now ++ [c]) with
        | some z =>
          rw [hd] at c82
          refine ⟨(true, ⟨hp', min lw1 lw, hp.length⟩), ?_, _, rfl, rfl, by show hp.length ≤ hp'.length; omega, hk4, hO4⟩
          simp only [g82_b2, forceB_eq, ltI_eq, lt_yes hc, cond_true, ixS_eq hr, bindO_some, j1, ixS_eq hc, j2, asB_b, meansX_loop, hinner, hcut', s1, bindP_some, s2, meansX_call, c82, Option.isSome_some]
        | none =>
          rw [hd] at c82
          refine ⟨⟨hp', min lw1 lw, hp.length⟩, ?_, rfl, by show hp.length ≤ hp'.length; omega, hk4, hO4⟩
          simp only [g82_b2, forceB_eq, ltI_eq, lt_yes hc, cond_true, ixS_eq hr, bindO_some, j1, ixS_eq hc, j2, asB_b, meansX_loop, hinner, hcut', s1, bindP_some, s2, meansX_call, c82, Option.isSome_none, cond_false, forceI_eq, wr_next (by omega : c ≤ 1000000)]
      · have hfc : f c = none := by rw [hfd]; exact if_neg hok
        rw [hfc]
        have hcond : ((!usedV x.length now (t * x.length) r c) && allF P r 0) = false := by
          cases hh : ((!usedV x.length now (t * x.length) r c) && allF P r 0) with
          | false => rfl
          | true => exact absurd (hiff.2 hh) hok
        rw [hcond] at hinner
        refine ⟨⟨h1, lw1, hp.length⟩, ?_, rfl, i2, i3, i4⟩
        simp only [g82_b2, forceB_eq, ltI_eq, lt_yes hc, cond_true, ixS_eq hr, bindO_some, j1, ixS_eq hc, j2, asB_b, meansX_loop, hinner, cond_false, forceI_eq, wr_next (by omega : c ≤ 1000000)]
    · rintro m -
      simp only [g82_b2, forceB_eq, ltI_eq, lt_no, cond_false]
end Go.Proofs.Ytllmlonngnhbfaa.Bed

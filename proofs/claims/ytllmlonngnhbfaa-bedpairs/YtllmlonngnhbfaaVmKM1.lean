/- Contracts of the functions, part 1. -/
import Derived.Test.YtllmlonngnhbfaaVmKM0
/- Lists of lists of the specification's own: built by append, read, written; free. -/
open Go.Vm
set_option linter.unusedVariables false
namespace Go.Proofs.Ytllmlonngnhbfaa.Bed
open Go

/-- a vector in a block -/
def Vec (hp : Heap) (e b k : Nat) (get : Nat → AVal) : Prop := ∃ blk : ABlk, lget hp b = some (some blk) ∧ blk.e = e ∧ k ≤ blk.n ∧ ∀ r, r < k → blk.c.get r = get r
theorem Vec.lt {hp : Heap} {e b k : Nat} {get : Nat → AVal} (h : Vec hp e b k get) : b < hp.length := by
  obtain ⟨blk, h1, -⟩ := h; exact lget_lt h1
theorem Vec.keep {hp hp' : Heap} {e b k : Nat} {get : Nat → AVal} (h : Vec hp e b k get) (hk : hp'[b]? = hp[b]?) : Vec hp' e b k get := by
  obtain ⟨blk, h1, h2⟩ := h
  exact ⟨blk, by rw [lget_of hk]; exact h1, h2⟩
theorem Vec.ne {hp : Heap} {e e' b b' k k' : Nat} {get get' : Nat → AVal} (h : Vec hp e b k get) (h' : Vec hp e' b' k' get') (hne : e ≠ e') : b ≠ b' := by
  rintro rfl
  obtain ⟨blk, h1, h2, -⟩ := h
  obtain ⟨blk', h1', h2', -⟩ := h'
  rw [h1] at h1'
  cases h1'
  exact hne (h2.symm.trans h2')
theorem Vec.congr {hp : Heap} {e b k : Nat} {get get' : Nat → AVal} (h : Vec hp e b k get) (hc : ∀ r, r < k → get r = get' r) : Vec hp e b k get' := by
  obtain ⟨blk, h1, h2, h3, h4⟩ := h
  exact ⟨blk, h1, h2, h3, fun r hr => by rw [h4 r hr, hc r hr]⟩
theorem Vec.set {hp : Heap} {e b k : Nat} {get : Nat → AVal} {ro : List ABlk} {l p : Nat} (h : Vec hp e b k get) {r : Nat} (hr : r < k) {v : AVal} (hv : v.one = true) (hc : v.cells = [v]) (hn : nonp [v] = true) :
    ∃ y, stepM ro ⟨hp, l, p⟩ (.st 1 (.c (.p (some ⟨false, b, 0 + r⟩))) (.c v)) = some (und, ⟨hp.set b y, min l b, p⟩) ∧ Vec (hp.set b y) e b k (fun r' => if r' = r then v else get r') := by
  obtain ⟨blk, h1, h2, h3, h4⟩ := h
  refine ⟨some { blk with c := blk.c.set (0 + r) v }, st_heap h1 (by omega) hv hc hn, { blk with c := blk.c.set (0 + r) v }, lget_set h1 _, h2, h3, fun r' hr' => ?_⟩
  show (blk.c.set (0 + r) v).get r' = if r' = r then v else get r'
  rw [get_set]
  by_cases e : r' = r
  · rw [if_pos (by omega), if_pos e]
  · rw [if_neg (by omega), if_neg e]; exact h4 r' hr'

/-- n rows of n numbers of one's own -/
structure OwnM (hp : Heap) (b n : Nat) (rb : Nat → Nat) (val : Nat → Nat → Int) : Prop where
  top : Vec hp 32 b n (fun r => .sl ⟨false, rb r, 0⟩ n .grow)
  rows : ∀ r, r < n → Vec hp 3 (rb r) n (fun c => .i .i64 (val r c))
  apart : ∀ r r', r < n → r' < n → rb r = rb r' → r = r'
theorem OwnM.keep {hp hp' : Heap} {b n : Nat} {rb : Nat → Nat} {val : Nat → Nat → Int} (h : OwnM hp b n rb val) (hk : hp'[b]? = hp[b]?) (hk2 : ∀ r, r < n → hp'[rb r]? = hp[rb r]?) : OwnM hp' b n rb val :=
  ⟨h.top.keep hk, fun r hr => (h.rows r hr).keep (hk2 r hr), h.apart⟩
theorem OwnM.congr {hp : Heap} {b n : Nat} {rb : Nat → Nat} {val val' : Nat → Nat → Int} (h : OwnM hp b n rb val) (hc : ∀ r c, r < n → c < n → val r c = val' r c) : OwnM hp b n rb val' :=
  ⟨h.top, fun r hr => (h.rows r hr).congr fun c hc' => by rw [hc r c hr hc'], h.apart⟩
/-- where a number lies -/
theorem OwnM.at {ro : List ABlk} {hp : Heap} {b n : Nat} {rb : Nat → Nat} {val : Nat → Nat → Int} (h : OwnM hp b n rb val) {r c : Nat} (hr : r < n) (hc : c < n) {l p : Nat} :
    evP .e (.ixS 1 (.c (.sl ⟨false, b, 0⟩ n .grow)) (.c (.i .i64 (r : Int)))) = some (.p (some ⟨false, b, 0 + r⟩)) ∧ ldM ro ⟨hp, l, p⟩ true 1 (.p (some ⟨false, b, 0 + r⟩)) = some (.sl ⟨false, rb r, 0⟩ n .grow) ∧
      evP .e (.ixS 1 (.c (.sl ⟨false, rb r, 0⟩ n .grow)) (.c (.i .i64 (c : Int)))) = some (.p (some ⟨false, rb r, 0 + c⟩)) := by
  obtain ⟨blk, h1, -, h3, h4⟩ := h.top
  refine ⟨ixS_eq hr, ?_, ixS_eq hc⟩
  rw [ld_heap rfl h1 (by omega), Nat.zero_add, h4 r hr]
theorem OwnM.set {ro : List ABlk} {hp : Heap} {b n : Nat} {rb : Nat → Nat} {val : Nat → Nat → Int} (h : OwnM hp b n rb val) {r c : Nat} (hr : r < n) (hc : c < n) (x : Int) {l p : Nat} :
    ∃ y, stepM ro ⟨hp, l, p⟩ (.st 1 (.c (.p (some ⟨false, rb r, 0 + c⟩))) (.c (.i .i64 x))) = some (und, ⟨hp.set (rb r) y, min l (rb r), p⟩) ∧ OwnM (hp.set (rb r) y) b n rb (fun r' c' => if r' = r ∧ c' = c then x else val r' c') := by
  obtain ⟨y, h1, h2⟩ := (h.rows r hr).set (ro := ro) (l := l) (p := p) hc (v := .i .i64 x) rfl rfl rfl
  refine ⟨y, h1, h.top.keep ?_, fun r' hr' => ?_, h.apart⟩
  · rw [List.getElem?_set_ne ((h.rows r hr).ne h.top (by decide))]
  · by_cases e : r' = r
    · subst e
      exact h2.congr fun c' _ => by
        by_cases e2 : c' = c
        · rw [if_pos e2, if_pos ⟨rfl, e2⟩]
        · rw [if_neg e2, if_neg fun h => e2 h.2]
    · have := (h.rows r' hr').keep (hp' := hp.set (rb r) y) (by rw [List.getElem?_set_ne fun h2 => e (h.apart r r' hr hr' h2).symm])
      exact this.congr fun c' _ => by rw [if_neg fun h => e h.1]

end Go.Proofs.Ytllmlonngnhbfaa.Bed

/- The specification's search for a mate; its Mate. -/
open Go.Vm
set_option linter.unusedVariables false
namespace Go.Proofs.Ytllmlonngnhbfaa.Bed
open Go

end Go.Proofs.Ytllmlonngnhbfaa.Bed

/- Mate of the specification. -/
open Go.Vm
set_option linter.unusedVariables false
namespace Go.Proofs.Ytllmlonngnhbfaa.Bed
open Go

end Go.Proofs.Ytllmlonngnhbfaa.Bed

/- Two lists of lists as arguments: from the statement to the small machine. -/
open Go.Vm
set_option linter.unusedVariables false
namespace Go.Proofs.Ytllmlonngnhbfaa.Bed
open Go Go.RowKit Go.Deep Go.WideShapes Go.ChangeShapes Go.ChangeAt

/-- read-only memory for two arguments -/
theorem two_of {W : World} {v0 v1 : Value} {x y : List (List Int)} (hx : Opened W v0 x) (hy : Opened W v1 y) :
    ∃ (ro : List ABlk) (rl : Rl) (u0 u1 : AVal), (Env.mk Try.prog W.heap.size W ro rl).Ok ∧ (∀ h, IsMat ro h u0 x) ∧ (∀ h, IsMat ro h u1 y) ∧ VR rl [] u0 v0 ∧ VR rl [] u1 v1 := by
  obtain ⟨ro1, rl1, u0, l1, m1, r1⟩ := ro_of hx [] [] rfl
  obtain ⟨ro2, rl2, u1, l2, m2, r2⟩ := ro_of hy ro1 rl1 l1
  refine ⟨ro1 ++ ro2, rl1 ++ rl2, u0, u1, env_ok fun i b hb => ?_, fun h => ?_, fun h => ?_, ?_, ?_⟩
  · by_cases hi : i < ro1.length
    · rw [List.getElem?_append_left hi] at hb
      obtain ⟨z, h1, h2⟩ := r1 i b hb
      refine ⟨z, by rw [List.getElem?_append_left (by omega)]; exact h1, fun j hj => ?_⟩
      obtain ⟨h3, v', h4, h5⟩ := h2 j hj
      exact ⟨h3, v', h4, by simpa using h5 rl2⟩
    · rw [List.getElem?_append_right (by omega)] at hb
      obtain ⟨z, h1, h2⟩ := r2 _ b hb
      refine ⟨z, by rw [List.getElem?_append_right (by omega), ← l1]; exact h1, fun j hj => ?_⟩
      obtain ⟨h3, v', h4, h5⟩ := h2 j hj
      exact ⟨h3, v', h4, by simpa using h5 []⟩
  · simpa using (m1 ro2 rl2 h).1
  · simpa using (m2 [] [] h).1
  · simpa using (m1 ro2 rl2 []).2
  · simpa using (m2 [] [] []).2
end Go.Proofs.Ytllmlonngnhbfaa.Bed

/- Mates, without any machine: what is found is a mate; a mate is found if there is one; each crop of one of two mates lies on a transversal of the other. -/
open Go.Vm
set_option linter.unusedVariables false
namespace Go.Proofs.Ytllmlonngnhbfaa.Bed
open Go

theorem ext_get {ok : List Nat → Nat → Prop} : ∀ {w now : List Nat}, Ext ok now w → ∀ j, j < w.length → ok (now ++ w.take j) (w.getD j 0)
  | [], now, _, j, hj => by simp at hj
  | c :: w, now, h, 0, _ => by simpa using h.1
  | c :: w, now, h, j + 1, hj => by
    have := ext_get h.2 j (by simpa using hj)
    simpa using this
theorem ext_of {ok : List Nat → Nat → Prop} : ∀ {w now : List Nat}, (∀ j, j < w.length → ok (now ++ w.take j) (w.getD j 0)) → Ext ok now w
  | [], now, _ => trivial
  | c :: w, now, h => by
    refine ⟨by simpa using h 0 (by simp), ext_of fun j hj => ?_⟩
    have := h (j + 1) (by simpa using hj)
    simpa using this
theorem take_getD {z : List Nat} {q p : Nat} (h : q < p) : (z.take p).getD q 0 = z.getD q 0 := by
  rw [List.getD_eq_getElem?_getD, List.getD_eq_getElem?_getD, List.getElem?_take, if_pos h]
theorem take_len {z : List Nat} {p : Nat} (h : p ≤ z.length) : (z.take p).length = p := by rw [List.length_take]; omega

/-- what a list of crops is that the search ends with -/
structure MateL (x : List (List Int)) (z : List Nat) : Prop where
  len : z.length = x.length * x.length
  lt : ∀ p, p < z.length → z.getD p 0 < x.length
  apart : ∀ q p, q < p → p < z.length → z.getD q 0 = z.getD p 0 → q / x.length ≠ p / x.length ∧ q % x.length ≠ p % x.length ∧ at2 x (q / x.length) (q % x.length) ≠ at2 x (p / x.length) (p % x.length)
theorem mateL_of {x : List (List Int)} {z : List Nat} (hl : z.length = x.length * x.length) (he : Ext (okM x) [] z) : MateL x z := by
  have h := fun j hj => ext_get he j hj
  simp only [List.nil_append] at h
  refine ⟨hl, fun p hp => (h p hp).1, fun q p hqp hp e => ?_⟩
  have h2 := (h p hp).2 q (by rw [take_len (by omega)]; exact hqp) (by rw [take_getD hqp]; exact e)
  rwa [take_len (by omega)] at h2
theorem MateL.ext {x : List (List Int)} {z : List Nat} (h : MateL x z) : Ext (okM x) [] z := by
  refine ext_of fun j hj => ?_
  rw [List.nil_append]
  refine ⟨h.lt j hj, fun q hq e => ?_⟩
  rw [take_len (by omega)] at hq ⊢
  rw [take_getD hq] at e
  exact h.apart q j hq hj e
theorem dm_mateL {x : List (List Int)} {z : List Nat} (h : dm (okM x) (x.length * x.length) [] = some z) : MateL x z := by
  obtain ⟨w, h1, h2, h3⟩ := dm_some h
  rw [List.nil_append] at h2
  subst h2
  exact mateL_of h1 h3
theorem dm_of_mateL {x : List (List Int)} {z : List Nat} (h7 : x.length ≤ 7) (h : MateL x z) : ∃ z', dm (okM x) (x.length * x.length) [] = some z' := by
  cases hd : dm (okM x) (x.length * x.length) [] with
  | some z' => exact ⟨z', rfl⟩
  | none => exact absurd h.ext (dm_none (fun now c h => by have := h.1; omega) hd z h.len)

theorem divmod {n r c : Nat} (hc : c < n) : (r * n + c) / n = r ∧ (r * n + c) % n = c := by
  obtain ⟨h1, h2⟩ := (pos_of (r := r) (p := r * n + c) hc).1 rfl
  exact ⟨h1.symm, h2.symm⟩
theorem pos_mono {n r c r' c' : Nat} (hc' : c' < n) (h : r' < r ∨ (r' = r ∧ c' < c)) : r' * n + c' < r * n + c := by
  rcases h with h | ⟨rfl, h⟩
  · have := Nat.mul_le_mul_right n (by omega : r' + 1 ≤ r)
    rw [Nat.add_mul, Nat.one_mul] at this
    omega
  · omega
theorem MateL.full {x : List (List Int)} {z : List Nat} (h : MateL x z) (h1 : 1 ≤ x.length) (h7 : x.length ≤ 7) : fullP (bedZ x.length z) := by
  have hlen : (bedZ x.length z).length = x.length := by unfold bedZ; rw [bedL_len]
  have hat : ∀ r c, r < x.length → c < x.length → at2 (bedZ x.length z) r c = ((z.getD (r * x.length + c) 0 : Nat) : Int) := fun r c hr hc => by unfold bedZ; rw [bedL_at hr hc]
  have hlt : ∀ r c, r < x.length → c < x.length → z.getD (r * x.length + c) 0 < x.length := fun r c hr hc => h.lt _ (by rw [h.len]; exact pos_lt hr hc)
  refine ⟨⟨⟨by omega, by omega, fun r hr => ?_⟩, fun r c hr hc hd => ?_⟩, fun r c hr hc => ?_⟩
  · rw [hlen] at hr ⊢
    refine ⟨by unfold bedZ; rw [bedL_row hr]; simp, fun c hc => ?_⟩
    have := hat r c hr hc
    unfold at2 at this
    have h2 := hlt r c hr hc
    omega
  · rw [hlen] at hr hc
    have hp : r * x.length + c < z.length := by rw [h.len]; exact pos_lt hr hc
    rcases hd.2 with ⟨i, hi, he⟩ | ⟨i, hi, he⟩
    · rw [hat r i hr (by omega), hat r c hr hc] at he
      have := (h.apart (r * x.length + i) (r * x.length + c) (by omega) hp (by omega)).1
      rw [(divmod (by omega : i < x.length)).1, (divmod hc).1] at this
      exact this rfl
    · rw [hat i c (by omega) hc, hat r c hr hc] at he
      have := (h.apart (i * x.length + c) (r * x.length + c) (pos_mono hc (.inl hi)) hp (by omega)).2.1
      rw [(divmod hc).2, (divmod hc).2] at this
      exact this rfl
  · rw [hlen] at hr hc
    rw [hat r c hr hc]; omega
theorem MateL.mate {x : List (List Int)} {z : List Nat} (h : MateL x z) : mateP x (bedZ x.length z) := by
  have hat : ∀ r c, r < x.length → c < x.length → at2 (bedZ x.length z) r c = ((z.getD (r * x.length + c) 0 : Nat) : Int) := fun r c hr hc => by unfold bedZ; rw [bedL_at hr hc]
  rintro r c hr hc ⟨r', c', h1, h2, h3, h4⟩
  have hr' : r' < x.length := by omega
  rw [hat r' c' hr' h1, hat r c hr hc] at h4
  have := (h.apart (r' * x.length + c') (r * x.length + c) (pos_mono h1 h2) (by rw [h.len]; exact pos_lt hr hc) (by omega)).2.2
  rw [(divmod h1).1, (divmod h1).2, (divmod hc).1, (divmod hc).2] at this
  exact this h3

/-- two places of mates are not both the same -/
theorem mate_two {x y : List (List Int)} (h : mateP x y) {r c r' c' : Nat} (hr : r < x.length) (hc : c < x.length) (hr' : r' < x.length) (hc' : c' < x.length) (h1 : at2 x r c = at2 x r' c') (h2 : at2 y r c = at2 y r' c') : r = r' ∧ c = c' := by
  by_cases e : r' < r ∨ (r' = r ∧ c' < c)
  · exact absurd ⟨r', c', hc', e, h1.symm, h2.symm⟩ (h r c hr hc)
  · by_cases e2 : r < r' ∨ (r = r' ∧ c < c')
    · exact absurd ⟨r, c, hc, e2, h1, h2⟩ (h r' c' hr' hc')
    · omega
theorem mate_sym {x y : List (List Int)} (hl : x.length = y.length) (h : mateP x y) : mateP y x := by
  rintro r c hr hc ⟨r', c', h1, h2, h3, h4⟩
  rw [← hl] at hr hc h1
  have := mate_two h (by omega : r' < x.length) h1 hr hc h4 h3
  omega
theorem dup_row {x : List (List Int)} (hf : fullP x) {r c c' : Nat} (hr : r < x.length) (hc : c < x.length) (hc' : c' < x.length) (h : at2 x r c = at2 x r c') : c = c' := by
  have key : ∀ a b, a < b → b < x.length → at2 x r a ≠ at2 x r b := fun a b hab hb he => hf.1.2 r b hr hb ⟨hf.2 r b hr hb, .inl ⟨a, hab, he⟩⟩
  by_cases e : c < c'
  · exact absurd h (key c c' e hc')
  · by_cases e2 : c' < c
    · exact absurd h.symm (key c' c e2 hc)
    · omega
theorem dup_col {x : List (List Int)} (hf : fullP x) {r r' c : Nat} (hr : r < x.length) (hr' : r' < x.length) (hc : c < x.length) (h : at2 x r c = at2 x r' c) : r = r' := by
  have key : ∀ a b, a < b → b < x.length → at2 x a c ≠ at2 x b c := fun a b hab hb he => hf.1.2 b c hb hc ⟨hf.2 b c hb hc, .inr ⟨a, hab, he⟩⟩
  by_cases e : r < r'
  · exact absurd h (key r r' e hr')
  · by_cases e2 : r' < r
    · exact absurd h.symm (key r' r e2 hr)
    · omega
/-- a mate as a list of crops -/
def flat (y : List (List Int)) : List Nat := (List.range (y.length * y.length)).map fun p => (at2 y (p / y.length) (p % y.length)).toNat
theorem flat_mateL {x y : List (List Int)} (hx : fullP x) (hy : fullP y) (hl : x.length = y.length) (h : mateP x y) : MateL x (flat y) := by
  have hn := hx.1.1.1
  have hlen : (flat y).length = x.length * x.length := by simp [flat, hl]
  have hget : ∀ p, p < x.length * x.length → p / x.length < x.length ∧ p % x.length < x.length ∧ ∃ v : Nat, (flat y).getD p 0 = v ∧ at2 y (p / x.length) (p % x.length) = (v : Int) ∧ v < x.length := fun p hp => by
    have h1 : p / x.length < x.length := Nat.div_lt_of_lt_mul hp
    have h2 : p % x.length < x.length := Nat.mod_lt _ (by omega)
    obtain ⟨v, hv, hvn⟩ := full_at hy (by omega : p / x.length < y.length) (by omega : p % x.length < y.length)
    refine ⟨h1, h2, v, ?_, hv, by omega⟩
    have : (flat y).getD p 0 = (at2 y (p / y.length) (p % y.length)).toNat := by simp [flat, List.getD, ← hl, hp]
    rw [this, ← hl, hv]; simp
  refine ⟨hlen, fun p hp => ?_, fun q p hqp hp e => ?_⟩
  · obtain ⟨-, -, v, h1, -, h3⟩ := hget p (by omega)
    rw [h1]; exact h3
  · obtain ⟨a1, a2, v, a3, a4, a5⟩ := hget p (by omega)
    obtain ⟨b1, b2, w, b3, b4, b5⟩ := hget q (by omega)
    have hvw : w = v := by omega
    subst hvw
    have hne : ¬ (q / x.length = p / x.length ∧ q % x.length = p % x.length) := fun e => by
      have h3 := Nat.div_add_mod' q x.length
      have h4 := Nat.div_add_mod' p x.length
      rw [e.1, e.2] at h3
      omega
    refine ⟨fun e1 => hne ⟨e1, ?_⟩, fun e1 => hne ⟨?_, e1⟩, fun e1 => hne ?_⟩
    · rw [e1] at b4
      exact dup_row hy (r := p / x.length) (c := q % x.length) (c' := p % x.length) (by omega) (by omega) (by omega) (by rw [b4, a4])
    · rw [e1] at b4
      exact dup_col hy (r := q / x.length) (r' := p / x.length) (c := p % x.length) (by omega) (by omega) (by omega) (by rw [b4, a4])
    · exact mate_two h b1 b2 a1 a2 e1 (by rw [b4, a4])

/-- a list without repeats within another one -/
theorem nodup_len {α : Type} [DecidableEq α] : ∀ {l l' : List α}, l.Nodup → (∀ a ∈ l, a ∈ l') → l.length ≤ l'.length
  | [], l', _, _ => Nat.zero_le _
  | a :: l, l', hd, hs => by
    have h1 := List.nodup_cons.1 hd
    have ha := hs a (by simp)
    have ih := nodup_len (l := l) (l' := l'.erase a) h1.2 fun b hb => by
      have hne : b ≠ a := fun e => h1.1 (e ▸ hb)
      exact (List.mem_erase_of_ne hne).2 (hs b (by simp [hb]))
    rw [List.length_erase_of_mem ha] at ih
    have : 0 < l'.length := List.length_pos_of_mem ha
    simp only [List.length_cons]
    omega
/-- what is one to one from n to n is onto -/
theorem onto_of {n : Nat} {f : Nat → Nat} (hlt : ∀ i, i < n → f i < n) (hi : ∀ i j, i < n → j < n → f i = f j → i = j) {k : Nat} (hk : k < n) : ∃ i, i < n ∧ f i = k := by
  refine Classical.byContradiction fun hno => ?_
  have hnd : ((List.range n).map f).Nodup := by
    rw [List.Nodup, List.pairwise_map]
    refine List.Pairwise.imp_of_mem ?_ List.nodup_range
    intro a b ha hb hab he
    exact hab (hi a b (List.mem_range.1 ha) (List.mem_range.1 hb) he)
  have h1 := nodup_len (l' := (List.range n).erase k) hnd fun b hb => by
    obtain ⟨i, hi2, rfl⟩ := List.mem_map.1 hb
    have hin := List.mem_range.1 hi2
    exact (List.mem_erase_of_ne fun e => hno ⟨i, hin, e⟩).2 (List.mem_range.2 (hlt i hin))
  rw [List.length_erase_of_mem (List.mem_range.2 hk)] at h1
  simp at h1
  omega
theorem col_of {x : List (List Int)} (hf : fullP x) {r k : Nat} (hr : r < x.length) (hk : k < x.length) : ∃ c, c < x.length ∧ at2 x r c = (k : Int) := by
  obtain ⟨c, h1, h2⟩ := onto_of (n := x.length) (f := fun c => (at2 x r c).toNat) (fun c hc => by
    obtain ⟨v, hv, hvn⟩ := full_at hf hr hc
    show (at2 x r c).toNat < _
    rw [hv]; simpa using hvn) (fun i j hi hj e => by
    obtain ⟨v, hv, -⟩ := full_at hf hr hi
    obtain ⟨w, hw, -⟩ := full_at hf hr hj
    have e' : (at2 x r i).toNat = (at2 x r j).toNat := e
    exact dup_row hf hr hi hj (by rw [hv, hw] at e' ⊢; simp at e'; rw [e'])) hk
  refine ⟨c, h1, ?_⟩
  obtain ⟨v, hv, -⟩ := full_at hf hr h1
  have h2' : (at2 x r c).toNat = k := h2
  rw [hv] at h2' ⊢
  simp at h2'
  rw [h2']

def okC (y : List (List Int)) (now : List Nat) (c : Nat) : Prop := c < y.length ∧ okT y now c
theorem tlc_mem {f : Nat → List (List Nat)} {z : List Nat} : ∀ {j c i : Nat}, c ≤ i → i < c + j → z ∈ f i → z ∈ tlc f j c
  | 0, c, i, h1, h2, _ => by omega
  | j + 1, c, i, h1, h2, h => by
    simp only [tlc, List.mem_append]
    by_cases e : i = c
    · subst e; exact .inl h
    · exact .inr (tlc_mem (by omega) (by omega) h)
theorem tl_mem {y : List (List Int)} : ∀ {k : Nat} {now w : List Nat}, w.length = k → Ext (okC y) now w → now ++ w ∈ tl y k now
  | 0, now, w, hw, _ => by
    have : w = [] := List.eq_nil_of_length_eq_zero hw
    subst this
    simp [tl]
  | k + 1, now, [], hw, _ => by simp at hw
  | k + 1, now, c :: w, hw, h => by
    simp only [tl]
    refine tlc_mem (i := c) (Nat.zero_le _) (by have := h.1.1; omega) ?_
    rw [if_pos h.1.2]
    have := tl_mem (y := y) (k := k) (now := now ++ [c]) (w := w) (by simpa using hw) h.2
    simpa using this

/-- mates have many transversals -/
theorem mate_trs {x y : List (List Int)} (hx : fullP x) (hy : fullP y) (hl : x.length = y.length) (h : mateP x y) : x.length ≤ (trs y).length := by
  classical
  have hn := hx.1.1.1
  have hch : ∀ k r, k < x.length → r < x.length → ∃ c, c < x.length ∧ at2 x r c = (k : Int) := fun k r hk hr => col_of hx hr hk
  let col : Nat → Nat → Nat := fun k r => if hk : k < x.length ∧ r < x.length then (hch k r hk.1 hk.2).choose else 0
  have hcol : ∀ k r, k < x.length → r < x.length → col k r < x.length ∧ at2 x r (col k r) = (k : Int) := fun k r hk hr => by
    have := (hch k r hk hr).choose_spec
    simp only [col, dif_pos (And.intro hk hr)]
    exact this
  let T : Nat → List Nat := fun k => (List.range x.length).map (col k)
  have hTl : ∀ k, (T k).length = x.length := fun k => by simp [T]
  have hTg : ∀ k j, j < x.length → (T k).getD j 0 = col k j := fun k j hj => by simp [T, List.getD, hj]
  have hmem : ∀ k, k < x.length → T k ∈ trs y := fun k hk => by
    have : [] ++ T k ∈ tl y x.length [] := tl_mem (hTl k) (ext_of fun j hj => by
      rw [hTl] at hj
      rw [List.nil_append, hTg k j hj]
      obtain ⟨c1, c2⟩ := hcol k j hk hj
      have hlen : ((T k).take j).length = j := take_len (by rw [hTl]; omega)
      refine ⟨by omega, fun hm => ?_, fun i hi => ?_⟩
      · obtain ⟨i, hi, he⟩ := List.getElem_of_mem hm
        rw [hlen] at hi
        have he2 : (T k).getD i 0 = col k j := by
          rw [← take_getD hi, List.getD_eq_getElem?_getD, List.getElem?_eq_getElem (by rw [hlen]; exact hi), he]; rfl
        rw [hTg k i (by omega)] at he2
        obtain ⟨d1, d2⟩ := hcol k i hk (by omega)
        rw [he2] at d2
        have := dup_col hx (by omega : i < x.length) hj c1 (by rw [d2, c2])
        omega
      · rw [hlen] at hi ⊢
        rw [take_getD hi, hTg k i (by omega)]
        obtain ⟨d1, d2⟩ := hcol k i hk (by omega)
        intro he
        have := mate_two h (by omega : i < x.length) d1 hj c1 (by rw [d2, c2]) he
        omega)
    rw [List.nil_append] at this
    unfold trs
    rw [← hl]; exact this
  have hnd : ((List.range x.length).map T).Nodup := by
    rw [List.Nodup, List.pairwise_map]
    refine List.Pairwise.imp_of_mem ?_ List.nodup_range
    intro a b ha hb hab he
    have ha := List.mem_range.1 ha
    have hb := List.mem_range.1 hb
    have h0 : (T a).getD 0 0 = (T b).getD 0 0 := by rw [he]
    rw [hTg a 0 (by omega), hTg b 0 (by omega)] at h0
    have e1 := (hcol a 0 ha (by omega)).2
    have e2 := (hcol b 0 hb (by omega)).2
    rw [h0, e2] at e1
    exact hab (by omega)
  have := nodup_len (l' := trs y) hnd fun z hz => by
    obtain ⟨k, hk, rfl⟩ := List.mem_map.1 hz
    exact hmem k (List.mem_range.1 hk)
  simpa using this
end Go.Proofs.Ytllmlonngnhbfaa.Bed

/- What Mates and Mate answer, for all lists; vectors are read. -/
open Go.Vm
set_option linter.unusedVariables false
namespace Go.Proofs.Ytllmlonngnhbfaa.Bed
open Go

open Classical in
noncomputable def mq (x y : List (List Int)) : Bool := if fullP x ∧ fullP y ∧ x.length = y.length then decide (mateP x y) else false
open Classical in
noncomputable def me (x y : List (List Int)) : Int := if fullP x ∧ fullP y ∧ x.length = y.length then 0 else 2
theorem ma35 {ro : List ABlk} {h : Heap} {a b : AVal} {x y : List (List Int)} (ha : IsMat ro h a x) (hb : IsMat ro h b y) : callX F1 ro 35 [a, b] h = some (.tup [.b (mq x y), .i .i64 (me x y)], h, h.length, h.length) := by
  unfold mq me
  by_cases hc : fullP x ∧ fullP y ∧ x.length = y.length
  · rw [if_pos hc, if_pos hc]; exact @mates_ok ro h a b x y ha hb hc.1 hc.2.1 hc.2.2 (Classical.propDecidable _)
  · rw [if_neg hc, if_neg hc]; exact mates_not ha hb hc
open Classical in
noncomputable def mm (x : List (List Int)) : List (List Int) := if fullP x ∧ x.length ≤ 5 then (match dm (okM x) (x.length * x.length) [] with
  | none => []
  | some z => bedZ x.length z) else []
open Classical in
noncomputable def mme (x : List (List Int)) : Int := if fullP x ∧ x.length ≤ 5 then (match dm (okM x) (x.length * x.length) [] with
  | none => 10
  | some _ => 0) else 2
theorem ma37 {ro : List ABlk} {h : Heap} {a : AVal} {x : List (List Int)} (ha : IsMat ro h a x) : ∃ v y lw lp, callX F1 ro 37 [a] h = some (.tup [v, .i .i64 (mme x)], h ++ y, lw, lp) ∧ IsMat ro (h ++ y) v (mm x) := by
  unfold mm mme
  by_cases hc : fullP x ∧ x.length ≤ 5
  · rw [if_pos hc, if_pos hc]
    obtain ⟨v, e, y, lw, lp, h1, h2⟩ := mate_ok ha hc.1 hc.2
    cases hd : dm (okM x) (x.length * x.length) [] with
    | none =>
      rw [hd] at h2
      obtain ⟨rfl, rfl⟩ := h2
      exact ⟨_, y, lw, lp, h1, .inl ⟨rfl, rfl⟩⟩
    | some z =>
      rw [hd] at h2
      obtain ⟨rfl, h3⟩ := h2
      exact ⟨_, y, lw, lp, h1, h3⟩
  · rw [if_neg hc, if_neg hc]
    obtain ⟨y, lw, lp, h1⟩ := mate_not ha hc
    exact ⟨_, y, lw, lp, h1, .inl ⟨rfl, rfl⟩⟩
theorem Vec.ld {ro : List ABlk} {hp : Heap} {e b k : Nat} {get : Nat → AVal} (h : Vec hp e b k get) {i : Nat} (hi : i < k) {l p : Nat} : ldM ro ⟨hp, l, p⟩ true 1 (.p (some ⟨false, b, 0 + i⟩)) = some (get i) := by
  obtain ⟨blk, h1, h2, h3, h4⟩ := h
  rw [ld_heap rfl h1 (by omega), Nat.zero_add, h4 i hi]
theorem Vec.new (hp : Heap) (e k : Nat) (v : AVal) : Vec (hp ++ [some (newBlk e v k)]) e hp.length k (fun _ => v) :=
  ⟨newBlk e v k, lget_last _ _, rfl, by rw [newBlk_n]; omega, fun r hr => newBlk_get hr⟩

theorem me_sym (x y : List (List Int)) : me x y = me y x := by
  unfold me
  by_cases h : fullP x ∧ fullP y ∧ x.length = y.length
  · rw [if_pos h, if_pos ⟨h.2.1, h.1, h.2.2.symm⟩]
  · rw [if_neg h, if_neg fun h2 => h ⟨h2.2.1, h2.1, h2.2.2.symm⟩]
open Classical in
theorem mq_sym (x y : List (List Int)) : mq x y = mq y x := by
  unfold mq
  by_cases h : fullP x ∧ fullP y ∧ x.length = y.length
  · rw [if_pos h, if_pos ⟨h.2.1, h.1, h.2.2.symm⟩]
    exact decide_eq_decide.2 ⟨mate_sym h.2.2, mate_sym h.2.2.symm⟩
  · rw [if_neg h, if_neg fun h2 => h ⟨h2.2.1, h2.1, h2.2.2.symm⟩]
theorem mme_zero {x : List (List Int)} (h : mme x = 0) : fullP x ∧ x.length ≤ 5 ∧ fullP (mm x) ∧ (mm x).length = x.length ∧ mateP x (mm x) := by
  unfold mme at h
  split at h
  · rename_i hc
    obtain ⟨hf, h5⟩ := hc
    unfold mm
    rw [if_pos ⟨hf, h5⟩]
    cases hd : dm (okM x) (x.length * x.length) [] with
    | none => rw [hd] at h; cases h
    | some z =>
      have hm := dm_mateL hd
      exact ⟨hf, h5, hm.full hf.1.1.1 hf.1.1.2.1, by unfold bedZ; rw [bedL_len], hm.mate⟩
  · cases h
theorem mme_mate {x y : List (List Int)} (hx : fullP x) (hy : fullP y) (hl : x.length = y.length) (h : mateP x y) (h5 : x.length ≤ 5) : mme x = 0 := by
  unfold mme
  rw [if_pos ⟨hx, h5⟩]
  obtain ⟨z, hz⟩ := dm_of_mateL hx.1.1.2.1 (flat_mateL hx hy hl h)
  rw [hz]
theorem mme_big {x : List (List Int)} (h5 : ¬ x.length ≤ 5) : mme x = 2 := by
  unfold mme
  rw [if_neg fun h => h5 h.2]
open Classical in
theorem m_true {x y : List (List Int)} (h0 : me x y = 0) (h1 : mq x y = true) : fullP x ∧ fullP y ∧ x.length = y.length ∧ mateP x y := by
  unfold me at h0
  unfold mq at h1
  split at h0
  · rename_i hc
    rw [if_pos hc] at h1
    exact ⟨hc.1, hc.2.1, hc.2.2, of_decide_eq_true h1⟩
  · cases h0
open Classical in
theorem m_of {x y : List (List Int)} (hx : fullP x) (hy : fullP y) (hl : x.length = y.length) (h : mateP x y) : me x y = 0 ∧ mq x y = true := by
  unfold me mq
  rw [if_pos ⟨hx, hy, hl⟩, if_pos ⟨hx, hy, hl⟩]
  exact ⟨rfl, decide_eq_true h⟩
end Go.Proofs.Ytllmlonngnhbfaa.Bed

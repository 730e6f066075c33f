/- All transversals, in order: what is looked for; the program's search with a visitor. -/
import Derived.Test.YtllmlonngnhbfaaVmK9
open Go.Vm
set_option linter.unusedVariables false
namespace Go.Proofs.Ytllmlonngnhbfaa.Bed
open Go

/-- may the next row's column be c? -/
def okT (x : List (List Int)) (now : List Nat) (c : Nat) : Prop := c ∉ now ∧ ∀ i, i < now.length → at2 x i (now.getD i 0) ≠ at2 x now.length c
instance (x : List (List Int)) (now : List Nat) (c : Nat) : Decidable (okT x now c) := inferInstanceAs (Decidable (c ∉ now ∧ ∀ i, i < now.length → at2 x i (now.getD i 0) ≠ at2 x now.length c))
def tlc (f : Nat → List (List Nat)) : Nat → Nat → List (List Nat)
  | 0, _ => []
  | j + 1, c => f c ++ tlc f j (c + 1)
def tl (x : List (List Int)) : Nat → List Nat → List (List Nat)
  | 0, now => [now]
  | k + 1, now => tlc (fun c => if okT x now c then tl x k (now ++ [c]) else []) x.length 0

theorem tlc_len {f : Nat → List (List Nat)} {B : Nat} (h : ∀ c, (f c).length ≤ B) : ∀ j c, (tlc f j c).length ≤ j * B
  | 0, _ => by simp [tlc]
  | j + 1, c => by
    have h1 := tlc_len h j (c + 1)
    have h2 := h c
    simp only [tlc, List.length_append]
    rw [Nat.succ_mul]
    omega
theorem tl_len {x : List (List Int)} (hx : x.length ≤ 7) : ∀ k now, (tl x k now).length ≤ 7 ^ k
  | 0, _ => by simp [tl]
  | k + 1, now => by
    have h1 : ∀ c, (if okT x now c then tl x k (now ++ [c]) else []).length ≤ 7 ^ k := fun c => by
      split
      · exact tl_len hx k _
      · simp
    have h2 := tlc_len h1 x.length 0
    have h3 : x.length * 7 ^ k ≤ 7 * 7 ^ k := Nat.mul_le_mul_right _ hx
    simp only [tl]
    rw [Nat.pow_succ, Nat.mul_comm]
    omega

/-- a visitor of what is found: it goes on or stops -/
def runV {S : Type} (next : S → List Nat → S) (cont : S → List Nat → Bool) : S → List (List Nat) → S × Bool
  | s, [] => (s, true)
  | s, z :: l => cond (cont s z) (runV next cont (next s z) l) (next s z, false)
theorem runV_app {S : Type} {next : S → List Nat → S} {cont : S → List Nat → Bool} : ∀ {l l' : List (List Nat)} {s : S}, runV next cont s (l ++ l') = cond (runV next cont s l).2 (runV next cont (runV next cont s l).1 l') (runV next cont s l)
  | [], l', s => by simp [runV]
  | z :: l, l', s => by
    simp only [List.cons_append, runV]
    cases h : cont s z
    · rfl
    · simp only [cond_true]
      exact runV_app

def nts (z : List Nat) : List Int := z.map (fun n : Nat => ((n : Nat) : Int))
theorem nts_len (z : List Nat) : (nts z).length = z.length := by simp [nts]
theorem nts_get (z : List Nat) (j : Nat) : (nts z).getD j 0 = ((z.getD j 0 : Nat) : Int) := by
  unfold nts
  rw [List.getD_eq_getElem?_getD, List.getD_eq_getElem?_getD, List.getElem?_map]
  cases z[j]? <;> rfl

structure Vis (ro : List ABlk) (n : Nat) where
  S : Type
  f : Nat
  bv : Nat
  V : S → Heap → Prop
  Q : S → Prop
  next : S → List Nat → S
  cont : S → List Nat → Bool
  keep : ∀ s hp hp', V s hp → Q s → lget hp' bv = lget hp bv → V s hp'
  visit : ∀ s hp v z, V s hp → Q s → bv < hp.length → IsRow ro hp v (nts z) → v ≠ .nsl → z.length = n → ∃ hp' lw lp, callX F1 ro f [v, .p (some ⟨false, bv, 0⟩)] hp = some (.b (cont s z), hp', lw, lp) ∧ V (next s z) hp' ∧ (Q (next s z) ∨ lp ≤ bv) ∧ (cont s z = true → Q (next s z)) ∧
    hp.length ≤ hp'.length ∧ ∀ i, i < hp.length → i ≠ bv → hp'[i]? = hp[i]?

/-- the cells that the search shares -/
structure Ch (x : List (List Int)) (vf : AVal) (bg b3 b4 b5 b6 bc : Nat) (hp : Heap) : Prop where
  g : ∃ blk, lget hp bg = some (some blk) ∧ blk.n = 113 ∧ GrOf blk.c x
  c3 : ∃ blk, lget hp b3 = some (some blk) ∧ blk.n = 1 ∧ blk.c.get 0 = .p (some ⟨false, bg, 0⟩)
  c4 : ∃ blk, lget hp b4 = some (some blk) ∧ blk.n = 1 ∧ blk.c.get 0 = vf
  c5 : ∃ blk, lget hp b5 = some (some blk) ∧ blk.n = 1 ∧ blk.c.get 0 = .sl ⟨false, bc, 0⟩ x.length (.known x.length)
  c6 : ∃ blk, lget hp b6 = some (some blk) ∧ blk.n = 1 ∧ blk.c.get 0 = .fn 92 [] [.p (some ⟨false, b3, 0⟩), .p (some ⟨false, b4, 0⟩), .p (some ⟨false, b5, 0⟩), .p (some ⟨false, b6, 0⟩)]
/-- the columns chosen -/
def Cols (x : List (List Int)) (bc : Nat) (hp : Heap) (now : List Nat) : Prop := ∃ blk, lget hp bc = some (some blk) ∧ blk.n = x.length ∧ ∀ j, j < now.length → blk.c.get j = .i .i64 ((now.getD j 0 : Nat) : Int)

def Keep (a b : Nat) (hp hp' : Heap) : Prop := hp.length ≤ hp'.length ∧ ∀ i, i < hp.length → i ≠ a → i ≠ b → hp'[i]? = hp[i]?
theorem Keep.refl (a b : Nat) (hp : Heap) : Keep a b hp hp := ⟨Nat.le_refl _, fun _ _ _ _ => rfl⟩
theorem Keep.trans {a b : Nat} {x y z : Heap} (h : Keep a b x y) (k : Keep a b y z) : Keep a b x z :=
  ⟨Nat.le_trans h.1 k.1, fun i hi h1 h2 => (k.2 i (Nat.lt_of_lt_of_le hi h.1) h1 h2).trans (h.2 i hi h1 h2)⟩
theorem Keep.take {a b : Nat} {x y : Heap} (h : Keep a b x y) : Keep a b x (y.take x.length) :=
  ⟨by simp [h.1], fun i hi h1 h2 => by rw [List.getElem?_take, if_pos hi]; exact h.2 i hi h1 h2⟩
theorem lget_of {hp hp' : Heap} {i : Nat} (h : hp'[i]? = hp[i]?) : lget hp' i = lget hp i := by rw [lget_eq, lget_eq, h]
theorem Ch.keep {x : List (List Int)} {vf : AVal} {bg b3 b4 b5 b6 bc bv : Nat} {hp hp' : Heap} (h : Ch x vf bg b3 b4 b5 b6 bc hp) (hk : Keep bv bc hp hp') (hn : ∀ i, (i = bg ∨ i = b3 ∨ i = b4 ∨ i = b5 ∨ i = b6) → i ≠ bv ∧ i ≠ bc) : Ch x vf bg b3 b4 b5 b6 bc hp' := by
  have key : ∀ i, (i = bg ∨ i = b3 ∨ i = b4 ∨ i = b5 ∨ i = b6) → ∀ blk, lget hp i = some (some blk) → lget hp' i = some (some blk) := fun i hi blk hb => by
    obtain ⟨h1, h2⟩ := hn i hi
    rw [lget_of (hk.2 i (lget_lt hb) h1 h2)]; exact hb
  obtain ⟨⟨a1, a2, a3⟩, ⟨b1, b2, b3'⟩, ⟨c1, c2, c3⟩, ⟨d1, d2, d3⟩, ⟨e1, e2, e3⟩⟩ := h
  exact ⟨⟨a1, key _ (by omega) _ a2, a3⟩, ⟨b1, key _ (by omega) _ b2, b3'⟩, ⟨c1, key _ (by omega) _ c2, c3⟩, ⟨d1, key _ (by omega) _ d2, d3⟩, ⟨e1, key _ (by omega) _ e2, e3⟩⟩

structure MaskC (X : Nat) (now : List Nat) : Prop where
  lt : X < 256
  bit : ∀ c, X.testBit c = true ↔ c ∈ now
structure MaskK (x : List (List Int)) (X : Nat) (now : List Nat) : Prop where
  lt : X < 256
  bit : ∀ q : Nat, X.testBit q = true ↔ ∃ i, i < now.length ∧ at2 x i (now.getD i 0) = q
theorem MaskC.add {X : Nat} {now : List Nat} (h : MaskC X now) {c : Nat} (hc : c < 7) : MaskC (X ||| 2 ^ c) (now ++ [c]) :=
  ⟨or_lt h.lt (pow_lt (by omega)), fun q => by rw [Nat.testBit_or, Nat.testBit_two_pow, Bool.or_eq_true, h.bit q, decide_eq_true_eq, List.mem_append, List.mem_singleton]; constructor <;> (rintro (h | h); exact .inl h; exact .inr h.symm)⟩
theorem getD_app {now : List Nat} {c i : Nat} (hi : i < now.length) : (now ++ [c]).getD i 0 = now.getD i 0 := by
  rw [List.getD_eq_getElem?_getD, List.getD_eq_getElem?_getD, List.getElem?_append_left hi]
theorem getD_app' {now : List Nat} {c : Nat} : (now ++ [c]).getD now.length 0 = c := by
  rw [List.getD_eq_getElem?_getD, List.getElem?_append_right (Nat.le_refl _)]; simp
theorem MaskK.add {x : List (List Int)} {X : Nat} {now : List Nat} (h : MaskK x X now) {c v : Nat} (hv : at2 x now.length c = v) (hv7 : v < 7) : MaskK x (X ||| 2 ^ v) (now ++ [c]) := by
  refine ⟨or_lt h.lt (pow_lt (by omega)), fun q => ?_⟩
  rw [Nat.testBit_or, Nat.testBit_two_pow, Bool.or_eq_true, h.bit q, decide_eq_true_eq]
  constructor
  · rintro (⟨i, h1, h2⟩ | h3)
    · exact ⟨i, by simp; omega, by rw [getD_app h1]; exact h2⟩
    · exact ⟨now.length, by simp, by rw [getD_app']; omega⟩
  · rintro ⟨i, h1, h2⟩
    by_cases e : i < now.length
    · exact .inl ⟨i, e, by rw [getD_app e] at h2; exact h2⟩
    · have : i = now.length := by simp at h1; omega
      subst this
      rw [getD_app'] at h2
      exact .inr (by omega)

theorem and_pow' : ∀ c, c < 8 → ∀ X, X < 256 → Nat.beq (X &&& 2 ^ c) 0 = !X.testBit c := by decide +kernel
theorem and_pow {X c : Nat} (hX : X < 256) (hc : c ≤ 7) : eqI (bitV .and .u8 X ((2 ^ c : Nat) : Int)) 0 = !X.testBit c := by
  rw [bit_and hX (pow_lt hc), ← and_pow' c (by omega) X hX, eqI_eq]
  cases h : Nat.beq (X &&& 2 ^ c) 0
  · have : X &&& 2 ^ c ≠ 0 := fun e => by rw [e] at h; cases h
    simp only [beq_eq_false_iff_ne, ne_eq]
    omega
  · have := Nat.eq_of_beq_eq_true h
    rw [this]; rfl
end Go.Proofs.Ytllmlonngnhbfaa.Bed

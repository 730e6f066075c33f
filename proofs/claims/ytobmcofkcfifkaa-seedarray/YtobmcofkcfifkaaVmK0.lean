/- Contracts of the functions: what each of them answers. -/
import Derived.Test.YtobmcofkcfifkaaVmGa0
import Derived.Test.YtobmcofkcfifkaaVmFO
import Derived.Test.YtobmcofkcfifkaaVmGt
import Derived.Test.YtobmcofkcfifkaaVmAE
import Derived.Test.YtobmcofkcfifkaaVmAF
import Derived.Test.YtobmcofkcfifkaaRows
import Derived.WalkKit
import Derived.ProofKit
import Derived.OpenShut
import Derived.Carry
import Derived.Deep.Slices
/- From the small machine to the statement: lists of numbers and lists of such lists, in memory that is only read. -/
open Go.Vm
set_option linter.unusedVariables false
namespace Go.Proofs.Ytobmcofkcfifkaa.T
open Go Go.RowKit Go.Deep Go.WideShapes Go.ChangeShapes

abbrev F1 : Tab := ⟨F, known0 18 (.b true)⟩
theorem own : ownKnob Try.prog.godebug = none := by kernel_rfl

section
variable {H : Type} {enc : TypeId × Value → H} {W : World} {v0 : Value} {d : DataW H} {p : List MemPlace}
end

theorem env_ok {W : World} {ro : List ABlk} {rl : Rl} (h : ∀ (i : Nat) (b : ABlk), ro[i]? = some b → ∃ x, rl[i]? = some x ∧ ∀ j, j < b.n → x.block < W.heap.size ∧ ∃ v', W.cell? (x.add j) = some v' ∧ VR rl [] (b.c.get j) v') :
    (Env.mk Try.prog W.heap.size W ro rl).Ok := ⟨fun i b hb => h i b hb, Nat.le_refl _⟩
/-- what lies in the read-only blocks; more may come behind -/
def RoP (W : World) (ro : List ABlk) (rl : Rl) : Prop := ∀ (i : Nat) (b : ABlk), ro[i]? = some b → ∃ x, rl[i]? = some x ∧ ∀ j, j < b.n → x.block < W.heap.size ∧ ∃ v', W.cell? (x.add j) = some v' ∧ ∀ y, VR (rl ++ y) [] (b.c.get j) v'
theorem RoP.nil (W : World) : RoP W [] [] := fun i b hb => by simp at hb
theorem RoP.snoc {W : World} {ro ro' : List ABlk} {rl rl' : Rl} (hl : ro.length = rl.length) (h : RoP W ro rl)
    (h' : ∀ (i : Nat) (b : ABlk), ro'[i]? = some b → ∃ x, rl'[i]? = some x ∧ ∀ j, j < b.n → x.block < W.heap.size ∧ ∃ v', W.cell? (x.add j) = some v' ∧ ∀ y, VR y [] (b.c.get j) v') : RoP W (ro ++ ro') (rl ++ rl') := by
  intro i b hb
  rcases Nat.lt_or_ge i ro.length with hi | hi
  · rw [List.getElem?_append_left hi] at hb
    obtain ⟨x, h1, h2⟩ := h i b hb
    refine ⟨x, by rw [List.getElem?_append_left (by omega)]; exact h1, fun j hj => ?_⟩
    obtain ⟨h3, v', h4, h5⟩ := h2 j hj
    exact ⟨h3, v', h4, fun y => by rw [List.append_assoc]; exact h5 _⟩
  · rw [List.getElem?_append_right hi] at hb
    obtain ⟨x, h1, h2⟩ := h' _ b hb
    refine ⟨x, by rw [List.getElem?_append_right (by omega), ← hl]; exact h1, fun j hj => ?_⟩
    obtain ⟨h3, v', h4, h5⟩ := h2 j hj
    exact ⟨h3, v', h4, fun y => h5 _⟩

/-- the call of the model: true, and below nothing has turned -/
theorem call_of {W : World} {ro : List ABlk} {rl : Rl} (hE : (Env.mk Try.prog W.heap.size W ro rl).Ok) {K : Nat} {vs : List AVal} {args : Array Value}
    (hv : LR rl [] vs args) {h' : Heap} {lw lp : Nat} (hc : callX F1 ro K vs [] = some (.b true, h', lw, lp)) : Calls Try.prog K args W fun e W' => e = .returned (.bool true) ∧ Below W.heap.size W W' := by
  have hm : (Env.mk Try.prog W.heap.size W ro rl).P.follows .mixedOrders = true := Try.checked.mixed
  have hO : CallOk (Env.mk Try.prog W.heap.size W ro rl) (known0 18 (.b true)) := known0_of hE hm fok alive0 rfl
  obtain ⟨-, h2⟩ := callX_sound hE hm (F := F1) fok hO K vs [] _ _ _ _ hc
  refine Calls.mono (h2 [] W args ⟨Below.refl _ _, rfl, by simp, fun i b r K hl => by simp [Live] at hl, fun i j b b' r K K' hl => by simp [Live] at hl⟩ hv) fun e w' hq => ?_
  obtain ⟨v', rfl, m', hvr, T⟩ := hq
  exact ⟨by rw [hvr.inv_b], T.hr.below⟩
theorem alive_pure {ro : List ABlk} {h : Heap} : callX F1 ro 18 [] h = some (.b true, h, h.length, h.length) := callX_ov rfl
end Go.Proofs.Ytobmcofkcfifkaa.T

/- Blocks that a function makes for itself; loops whose state is known. -/
open Go.Vm
set_option linter.unusedVariables false
namespace Go.Proofs.Ytobmcofkcfifkaa.T
open Go

/-- a block of the heap that holds these values -/
def Holds (hp : Heap) (b : Nat) (vs : List AVal) : Prop := ∃ blk : ABlk, lget hp b = some (some blk) ∧ blk.n = vs.length ∧ ∀ j, j < vs.length → blk.c.get j = vs.getD j und
/-- what was there is still there -/
def Keep (h hp : Heap) : Prop := h.length ≤ hp.length ∧ ∀ i, i < h.length → hp[i]? = h[i]?

section
variable {ro : List ABlk} {h hp hp' : Heap} {b k e n l p : Nat} {vs : List AVal}
theorem Keep.refl (h : Heap) : Keep h h := ⟨Nat.le_refl _, fun _ _ => rfl⟩
theorem Keep.trans {h1 : Heap} (a : Keep h h1) (c : Keep h1 hp) : Keep h hp := ⟨Nat.le_trans a.1 c.1, fun i hi => by rw [c.2 i (by have := a.1; omega), a.2 i hi]⟩
theorem Keep.app (x : Heap) : Keep h (h ++ x) := ⟨by simp, fun i hi => List.getElem?_append_left hi⟩
theorem Keep.set (a : Keep h hp) (hb : h.length ≤ b) (x : Option ABlk) : Keep h (hp.set b x) := ⟨by simpa using a.1, fun i hi => by rw [List.getElem?_set_ne (by omega)]; exact a.2 i hi⟩
theorem Keep.eq (a : Keep h hp) : hp.take h.length = h := by
  refine List.ext_getElem? fun i => ?_
  rcases Nat.lt_or_ge i h.length with hi | hi
  · rw [List.getElem?_take_of_lt hi, a.2 i hi]
  · rw [List.getElem?_eq_none (by simp; omega), List.getElem?_eq_none hi]
theorem fin_keep {v : AVal} (a : Keep h hp) (hv : v.bel h.length = true) : finM h.length v ⟨hp, h.length, h.length⟩ = some (v, h, h.length, h.length) := by
  rw [fin_take hv, a.eq]
theorem Holds.lt (a : Holds hp b vs) : b < hp.length := by obtain ⟨blk, h1, -⟩ := a; exact lget_lt h1
theorem Holds.keep (a : Holds hp b vs) (hk : hp'[b]? = hp[b]?) : Holds hp' b vs := by
  obtain ⟨blk, h1, h2⟩ := a
  exact ⟨blk, by rw [lget_of hk]; exact h1, h2⟩
theorem Holds.ext (a : Holds hp b vs) (x : Heap) : Holds (hp ++ x) b vs := a.keep (List.getElem?_append_left a.lt)
theorem Holds.by (a : Holds hp b vs) (k : Keep hp hp') : Holds hp' b vs := a.keep (k.2 b a.lt)
theorem Holds.one (a : Holds hp b vs) (hk : k < vs.length) : ldM ro ⟨hp, l, p⟩ true 1 (.p (some ⟨false, b, 0 + k⟩)) = some (vs.getD k und) := by
  obtain ⟨blk, h1, h2, h3⟩ := a
  rw [ld_heap rfl h1 (by omega), ← h3 k hk, Nat.zero_add]
theorem row_list {t : Tr} : ∀ (vs : List AVal) (i : Nat), (∀ j, j < vs.length → t.get (i + j) = vs.getD j und) → t.row i vs.length = vs
  | [], i, _ => rfl
  | v :: vs, i, h => by
    simp only [List.length_cons, Tr.row]
    rw [show t.get i = v by simpa using h 0 (by simp), row_list vs (i + 1) fun j hj => by have := h (j + 1) (by simp; omega); rw [show i + 1 + j = i + (j + 1) by omega, this]; simp]
theorem Holds.rd (a : Holds hp b vs) (hn : n = vs.length) : Go.Vm.rd ro hp false n ⟨false, b, 0⟩ = some (.agg vs) := by
  subst hn
  obtain ⟨blk, h1, h2, h3⟩ := a
  have hc : Nat.ble (0 + vs.length) blk.n = true := by rw [Nat.ble_eq]; omega
  simp only [Go.Vm.rd, rdB_heap h1, cond_false, hc, cond_true]
  rw [row_list vs 0 fun j hj => by rw [Nat.zero_add]; exact h3 j hj]
theorem Holds.all (a : Holds hp b vs) (hn : n = vs.length) : ldM ro ⟨hp, l, p⟩ false n (.p (some ⟨false, b, 0⟩)) = some (.agg vs) := by
  simp only [ldM, a.rd hn]
theorem spliceGet (t : Tr) : ∀ (vs : List AVal) (i j : Nat), (t.splice i vs).get j = if i ≤ j ∧ j < i + vs.length then vs.getD (j - i) und else t.get j
  | [], i, j => by simp [Tr.splice]; intro h1 h2; omega
  | v :: vs, i, j => by
    rw [Tr.splice, spliceGet (t.set i v) vs (i + 1) j, get_set]
    by_cases e : i = j
    · subst e
      rw [if_neg (by omega), if_pos rfl, if_pos (by simp)]; simp
    · by_cases h2 : i ≤ j ∧ j < i + (v :: vs).length
      · have h3 : i + 1 ≤ j ∧ j < i + 1 + vs.length := by simp at h2; omega
        rw [if_pos h2, if_pos h3]
        obtain ⟨q, rfl⟩ : ∃ q, j = i + 1 + q := ⟨j - (i + 1), by omega⟩
        rw [show i + 1 + q - i = q + 1 by omega, show i + 1 + q - (i + 1) = q by omega]
        simp
      · have h3 : ¬ (i + 1 ≤ j ∧ j < i + 1 + vs.length) := by simp at h2; omega
        rw [if_neg h2, if_neg h3, if_neg e]
theorem wrH_all {blk : ABlk} (hb : lget hp b = some (some blk)) (hn : vs.length ≤ blk.n) (ho : ones vs = true) : wrH hp ⟨false, b, 0⟩ vs = some (hp.set b (some { blk with c := blk.c.splice 0 vs })) := by
  have : (Nat.ble (0 + vs.length) blk.n && ones vs) = true := by rw [ho, Bool.and_true, Nat.ble_eq]; omega
  simp only [wrH, cond_false, hb, this, cond_true, lset_eq]
/-- a block is written whole -/
theorem Holds.st {vs' : List AVal} {v : AVal} (a : Holds hp b vs) (hv : v.cells = vs') (hn : n = vs'.length) (hl : vs'.length = vs.length) (ho : ones vs' = true) (hL : h.length ≤ b) (kp : Keep h hp) :
    ∃ hp', stepM ro ⟨hp, h.length, h.length⟩ (.st n (.c (.p (some ⟨false, b, 0⟩))) (.c v)) = some (und, ⟨hp', h.length, h.length⟩) ∧ Holds hp' b vs' ∧ hp'.length = hp.length ∧ (∀ i, i ≠ b → hp'[i]? = hp[i]?) ∧ Keep h hp' := by
  obtain ⟨blk, h1, h2, h3⟩ := a
  subst hv hn
  have hw := wrH_all h1 (vs := v.cells) (by omega) ho
  refine ⟨hp.set b (some { blk with c := blk.c.splice 0 v.cells }), ?_, ⟨_, lget_set h1 _, by simpa using (h2.trans hl.symm), fun j hj => ?_⟩, by simp, fun i hi => List.getElem?_set_ne (Ne.symm hi), kp.set hL _⟩
  · have hbq : Nat.beq v.cells.length v.cells.length = true := Nat.beq_refl _
    have e : (cond (nonp v.cells) h.length h.length) = h.length := by cases nonp v.cells <;> rfl
    simp only [stepM, stepK, opd, st_st, hbq, cond_true, hw, St.mm, Nat.min_eq_left hL, e]
  · show (blk.c.splice 0 v.cells).get j = _
    rw [spliceGet, if_pos (by omega)]; simp
end

theorem ext0 (a : AVal) (l : List AVal) : evP .e (.ext 0 (.c (.tup (a :: l)))) = some a := rfl
theorem ext1 (a b : AVal) (l : List AVal) : evP .e (.ext 1 (.c (.tup (a :: b :: l)))) = some b := rfl
theorem ext2 (a b c : AVal) (l : List AVal) : evP .e (.ext 2 (.c (.tup (a :: b :: c :: l)))) = some c := rfl
section
variable {ro : List ABlk} {h : Heap} {v : AVal}
theorem row_by {hp : Heap} {z : List Int} (a : IsRow ro h v z) (k : Keep h hp) : IsRow ro hp v z := by
  rw [take_eq k.1 k.2]; exact a.ext _
end

/-- one cell of a block is written -/
theorem Holds.set {ro : List ABlk} {h hp : Heap} {b k : Nat} {vs : List AVal} {v : AVal} (a : Holds hp b vs) (hk : k < vs.length) (hv : v.one = true) (hc : v.cells = [v]) (hn : nonp [v] = true) (hL : h.length ≤ b) (kp : Keep h hp) :
    ∃ hp', stepM ro ⟨hp, h.length, h.length⟩ (.st 1 (.c (.p (some ⟨false, b, 0 + k * 1⟩))) (.c v)) = some (und, ⟨hp', h.length, h.length⟩) ∧ Holds hp' b (vs.set k v) ∧ hp'.length = hp.length ∧ (∀ i, i ≠ b → hp'[i]? = hp[i]?) ∧ Keep h hp' := by
  obtain ⟨blk, h1, h2, h3⟩ := a
  have e : 0 + k * 1 = k := by omega
  refine ⟨hp.set b (some { blk with c := blk.c.set k v }), ?_, ⟨_, lget_set h1 _, by simpa using h2, fun j hj => ?_⟩, by simp, fun i hi => List.getElem?_set_ne (Ne.symm hi), kp.set hL _⟩
  · rw [e, st_heap h1 (by omega) hv hc hn, Nat.min_eq_left hL]
  · show (blk.c.set k v).get j = _
    rw [get_set]
    simp only [List.length_set] at hj
    by_cases e : k = j
    · subst e; simp [List.getD, hj]
    · rw [if_neg e, h3 j hj]
      simp [List.getD, List.getElem?_set_ne e]


/-- a loop whose state is known for each round -/
theorem loop_st {S R : Type} {b : S → Option (S ⊕ R)} (st : Nat → S) (n : Nat) (step : Nat → Option R) (r0 : R) (hout : b (st n) = some (.inr r0)) (hin : ∀ i, i < n → b (st i) = some (match step i with | some r => .inr r | none => .inl (st (i + 1)))) :
    ∀ (k i : Nat), i + k = n → loopX b (st i) = some ((firstS step k i).getD r0)
  | 0, i, hi => by
    simp only [Nat.add_zero] at hi
    subst hi
    exact loopX_out hout
  | k + 1, i, hi => by
    have h1 := hin i (by omega)
    unfold firstS
    cases hs : step i with
    | some r => rw [hs] at h1; exact loopX_out h1
    | none =>
      rw [hs] at h1
      exact loopX_on h1 (loop_st st n step r0 hout hin k (i + 1) (by omega))
/-- one that runs to its end -/
theorem loop_run {S R : Type} {b : S → Option (S ⊕ R)} (st : Nat → S) (n : Nat) {r0 : R} (hout : b (st n) = some (.inr r0)) (hin : ∀ i, i < n → b (st i) = some (.inl (st (i + 1)))) : loopX b (st 0) = some r0 := by
  have := loop_st st n (fun _ => none) r0 hout hin n 0 (by omega)
  rw [firstS_none.2 fun _ _ _ => rfl] at this
  exact this
/-- one that looks for something -/
theorem loop_if {S R : Type} {b : S → Option (S ⊕ R)} (st : Nat → S) (n : Nat) (P : Nat → Prop) [DecidablePred P] (r0 r1 : R) (hout : b (st n) = some (.inr r0)) (hin : ∀ i, i < n → P i → b (st i) = some (.inl (st (i + 1)))) (hno : ∀ i, i < n → ¬ P i → b (st i) = some (.inr r1)) :
    loopX b (st 0) = some (if (∀ i, i < n → P i) then r0 else r1) := by
  have := loop_st st n (fun i => if P i then none else some r1) r0 hout (fun i hi => by
    by_cases hp : P i
    · rw [if_pos hp]; exact hin i hi hp
    · rw [if_neg hp]; exact hno i hi hp) n 0 (by omega)
  rw [this]
  by_cases hall : ∀ i, i < n → P i
  · rw [if_pos hall, firstS_none.2 fun j _ h2 => by rw [if_pos (hall j (by omega))]]; rfl
  · rw [if_neg hall]
    cases hf : firstS (fun i => if P i then none else some r1) n 0 with
    | none =>
      refine absurd (fun i hi => ?_) hall
      have := firstS_none.1 hf i (by omega) (by omega)
      simpa using this
    | some r =>
      obtain ⟨j, -, -, h3, -⟩ := firstS_some hf
      by_cases hc : P j
      · rw [if_pos hc] at h3; cases h3
      · rw [if_neg hc] at h3; cases h3; rfl

theorem dT {p : Prop} [Decidable p] (h : p) : decide p = true := decide_eq_true h
theorem dF {p : Prop} [Decidable p] (h : ¬ p) : decide p = false := decide_eq_false h
theorem cp {F : Tab} {ro : List ABlk} {h : Heap} {f : Nat} {a : List AVal} {v : AVal} {l p : Nat} (e : callX F ro f a h = some (v, h, h.length, h.length)) (hl : l ≤ h.length) (hp : p ≤ h.length) : callM (callX F ro) ⟨h, l, p⟩ f a = some (v, ⟨h, l, p⟩) :=
  callM_pure e hl hp
theorem cp0 {F : Tab} {ro : List ABlk} {h : Heap} {f : Nat} {a : List AVal} {v : AVal} (e : callX F ro f a h = some (v, h, h.length, h.length)) : callM (callX F ro) ⟨h, h.length, h.length⟩ f a = some (v, ⟨h, h.length, h.length⟩) :=
  callM_pure e (Nat.le_refl _) (Nat.le_refl _)


theorem cM {F : Tab} {ro : List ABlk} {h H : Heap} {f : Nat} {a : List AVal} {v : AVal} {l p : Nat} (e : callX F ro f a h = some (v, H, h.length, h.length)) (hl : l ≤ h.length) (hp : p ≤ h.length) : callM (callX F ro) ⟨h, l, p⟩ f a = some (v, ⟨H, l, p⟩) := by
  rw [callM_eq e, Nat.min_eq_left hl, Nat.min_eq_left hp]
theorem fin_any {h H : Heap} {w : AVal} (k : Keep h H) : ∃ H', finM h.length w ⟨H, h.length, h.length⟩ = some (w, H', h.length, h.length) ∧ Keep h H' ∧ (w.bel h.length = false → H' = H) := by
  obtain ⟨y, h1, h2⟩ := fin_gen (h := h) (h' := H) (v := w) (l := h.length) (p := h.length) k.1 k.2
  exact ⟨h ++ y, h1, Keep.app y, h2⟩
/-- a list read in a heap that keeps another one, below that one's length, is in that one -/
theorem row_down {ro : List ABlk} {h H : Heap} {v : AVal} {z : List Int} (k : Keep h H) (a : IsRow ro H v z) (hb : v.bel h.length = true) : IsRow ro h v z := by
  rcases a with ⟨rfl, rfl⟩ | ⟨q, cap, blk, rfl, hb2, hn, hc⟩
  · exact .inl ⟨rfl, rfl⟩
  · refine .inr ⟨q, cap, blk, rfl, ?_, hn, hc⟩
    have h1 : (q.ro || Nat.blt q.b h.length) = true := by simpa [AVal.bel] using hb
    unfold rdB at hb2 ⊢
    cases hr : q.ro
    · rw [hr] at h1 hb2
      have h2 : q.b < h.length := by simpa [Nat.blt_eq] using h1
      simp only [cond_false] at hb2 ⊢
      rw [← lget_of (k.2 q.b h2)]; exact hb2
    · rw [hr] at hb2; exact hb2
theorem fin_rowW {ro : List ABlk} {h H : Heap} {v w : AVal} {z : List Int} (k : Keep h H) (a : IsRow ro H v z) (hw : w.bel h.length = v.bel h.length) :
    ∃ H', finM h.length w ⟨H, h.length, h.length⟩ = some (w, H', h.length, h.length) ∧ Keep h H' ∧ IsRow ro H' v z := by
  obtain ⟨H', h1, h2, h3⟩ := fin_any (w := w) k
  refine ⟨H', h1, h2, ?_⟩
  cases hb : w.bel h.length
  · rw [h3 hb]; exact a
  · exact row_by (row_down k a (by rw [← hw]; exact hb)) h2
theorem loop_exit {S R : Type} {b : S → Option (S ⊕ R)} (n : Nat) (I : Nat → S → Prop) (Q : R → Prop)
    (hin : ∀ i s, i < n → I i s → (∃ s', b s = some (.inl s') ∧ I (i + 1) s') ∨ ∃ r, b s = some (.inr r) ∧ Q r) (hout : ∀ s, I n s → ∃ r, b s = some (.inr r) ∧ Q r) :
    ∀ (k i : Nat) (s : S), i + k = n → I i s → ∃ r, loopX b s = some r ∧ Q r
  | 0, i, s, hk, hi => by
    obtain rfl : i = n := by omega
    obtain ⟨r, h1, h2⟩ := hout s hi
    exact ⟨r, loopX_out h1, h2⟩
  | k + 1, i, s, hk, hi => by
    rcases hin i s (by omega) hi with ⟨s1, h1, h2⟩ | ⟨r, h1, h2⟩
    · obtain ⟨r, h3, h4⟩ := loop_exit n I Q hin hout k (i + 1) s1 (by omega) h2
      exact ⟨r, loopX_on h1 h3, h4⟩
    · exact ⟨r, loopX_out h1, h2⟩

end Go.Proofs.Ytobmcofkcfifkaa.T

/- Lists that a function makes by append. -/
open Go.Vm
set_option linter.unusedVariables false
namespace Go.Proofs.Ytobmcofkcfifkaa.T
open Go

/-- a list made by append, in a block from L on -/
def GV (hp : Heap) (L e es : Nat) (v : AVal) (k : Nat) (cs : List AVal) : Prop :=
  (v = .nsl ∧ k = 0 ∧ cs = []) ∨ ∃ b blk, v = .sl ⟨false, b, 0⟩ k .grow ∧ 0 < k ∧ L ≤ b ∧ lget hp b = some (some blk) ∧ blk.e = e ∧ cs.length = k * es ∧ k * es ≤ blk.n ∧ ∀ j, j < k * es → blk.c.get j = cs.getD j und
theorem GV.nil (hp : Heap) (L e es : Nat) : GV hp L e es .nsl 0 [] := .inl ⟨rfl, rfl, rfl⟩
/-- blocks below L, and those above that are kept, hold the list as before -/
theorem GV.by {hp hp' : Heap} {L e es k : Nat} {v : AVal} {cs : List AVal} (g : GV hp L e es v k cs) (kp : Keep hp hp') : GV hp' L e es v k cs := by
  rcases g with h | ⟨b, blk, h1, h2, h3, h4, h5⟩
  · exact .inl h
  · exact .inr ⟨b, blk, h1, h2, h3, by rw [lget_of (kp.2 b (lget_lt h4))]; exact h4, h5⟩
theorem row_row {t : Tr} : ∀ (n i : Nat) (cs : List AVal), cs.length = n → (∀ j, j < n → t.get (i + j) = cs.getD j und) → t.row i n = cs := by
  intro n i cs hl h
  subst hl
  exact row_list cs i h
theorem GV.push {ro : List ABlk} {hp : Heap} {L0 L e es bytes k : Nat} {z : List AVal} {v w : AVal} {cs ws : List AVal} (g : GV hp L e es v k cs) (hL0 : L0 ≤ L) (hL : L ≤ hp.length) (hk : k ≤ 100000) (hb : bytes ≤ 1000) (hes : 0 < es) (hz : z.length = es) (hw : w.cells = ws) (hwl : ws.length = es) (ho : ones ws = true) (hsp : splice z 0 ws = ws) :
    ∃ v2 hp2 v3 hp3, stepM ro ⟨hp, L0, L0⟩ (.bsl e es z 1 [((0, es), .c w)]) = some (v2, ⟨hp2, L0, L0⟩) ∧ stepM ro ⟨hp2, L0, L0⟩ (.app e es bytes z (.c v) (.c v2)) = some (v3, ⟨hp3, L0, L0⟩) ∧
      GV hp3 L e es v3 (k + 1) (cs ++ ws) ∧ hp.length ≤ hp3.length ∧ ∀ i, i < L → hp3[i]? = hp[i]? := by
  have s1 : stepM ro ⟨hp, L0, L0⟩ (.bsl e es z 1 [((0, es), .c w)]) = some (.sl ⟨false, hp.length, 0⟩ 1 (.known 1), ⟨hp ++ [some (blkOf e ws)], L0, L0⟩) := by
    simp [stepM, stepK, st_bsl, rep, fillA, opd, hw, hwl, hz, hsp, newB, St.mm]
  have src : app_src ro (hp ++ [some (blkOf e ws)]) es (.sl ⟨false, hp.length, 0⟩ 1 (.known 1)) = some (ws, 1) := by
    have hbq : rdB ro (hp ++ [some (blkOf e ws)]) ⟨false, hp.length, 0⟩ = some (blkOf e ws) := by simp [rdB, lget_eq]
    have hg : (blkOf e ws).c.row 0 es = ws := row_row es 0 ws hwl fun j hj => by rw [Nat.zero_add, get_blk]
    have hble : Nat.ble (0 + 1 * es) (blkOf e ws).n = true := by rw [Nat.ble_eq]; show 0 + 1 * es ≤ ws.length; omega
    simp only [app_src, hbq, hble, cond_true]
    rw [show 1 * es = es by omega, hg]
  rcases g with ⟨rfl, rfl, rfl⟩ | ⟨b, blk, rfl, hpos, hLb, hbk, hbe, hcl, hbn, hrows⟩
  · refine ⟨_, _, .sl ⟨false, hp.length + 1, 0⟩ 1 .grow, hp ++ [some (blkOf e ws)] ++ [some (blkOf e ws)], s1, ?_, .inr ⟨hp.length + 1, blkOf e ws, rfl, by omega, by omega, ?_, rfl, by simp; omega, by show 1 * es ≤ ws.length; omega, fun j hj => ?_⟩, by simp, fun i hi => ?_⟩
    · have hb1 : Nat.beq 1 0 = false := rfl
      simp only [stepM, stepK, opd, st_app, src, hb1, cond_false, fits_small (by omega : 1 ≤ 1000000) hb, cond_true, newB, St.mm, List.length_append, List.length_cons, List.length_nil, Nat.zero_add]
    · have := lget_last (hp ++ [some (blkOf e ws)]) (some (blkOf e ws))
      rwa [List.length_append, List.length_singleton] at this
    · rw [get_blk]; simp
    · rw [List.append_assoc, List.getElem?_append_left (by omega)]
  · obtain ⟨hp2, e2⟩ : ∃ hp2, hp2 = hp ++ [some (blkOf e ws)] := ⟨_, rfl⟩
    rw [← e2] at src s1
    have hlt : b < hp.length := lget_lt hbk
    have hb2 : lget hp2 b = some (some blk) := by rw [e2]; exact lget_ext hbk _
    have hlen2 : hp2.length = hp.length + 1 := by rw [e2]; simp
    have hrow : blk.c.row 0 (k * es) = cs := row_row (k * es) 0 cs hcl fun j hj => by rw [Nat.zero_add]; exact hrows j hj
    have hke : 0 < k * es := Nat.mul_pos hpos hes
    refine ⟨_, _, .sl ⟨false, hp2.length, 0⟩ (k + 1) .grow, lset none hp2 b ++ [some (blkOf e (cs ++ ws))], s1, ?_, .inr ⟨hp2.length, blkOf e (cs ++ ws), rfl, by omega, by omega, ?_, rfl, ?_, ?_, fun j hj => ?_⟩, ?_, fun i hi => ?_⟩
    · have h1 : (Nat.beq blk.e e && Nat.ble (k * es) blk.n && fits (k + 1) bytes && ones ws) = true := by
        rw [hbe, fits_small (by omega : k + 1 ≤ 1000000) hb]
        simp [ho, Nat.ble_eq]; omega
      have h2 : (!Nat.beq 0 0) = false := rfl
      have h3 : Nat.blt 0 blk.n = true := by rw [Nat.blt_eq]; omega
      have hb10 : Nat.beq 1 0 = false := rfl
      simp only [stepM, stepK, opd, st_app, src, app_grow, hb10, h2, cond_false, Bool.or_false, Bool.false_or, hb2, h1, h3, Bool.and_self, cond_true, St.mm, hrow, Nat.min_eq_left (Nat.le_trans hL0 hLb)]
    · rw [lget_eq, lset_eq, List.getElem?_append_right (by simp)]
      simp
    · rw [List.length_append, hcl, hwl, Nat.add_mul]; omega
    · show (k + 1) * es ≤ (cs ++ ws).length
      rw [List.length_append, hcl, hwl, Nat.add_mul]; omega
    · rw [get_blk]
    · simp [lset_eq]; omega
    · rw [lset_eq, List.getElem?_append_left (by simp; omega), List.getElem?_set_ne (by omega), e2, List.getElem?_append_left (by omega)]
theorem GV.row {ro : List ABlk} {hp : Heap} {L e : Nat} {v : AVal} {k : Nat} {z : List Int} (g : GV hp L e 1 v k (z.map (AVal.i .i64))) (hk : z.length = k) : IsRow ro hp v z := by
  subst hk
  rcases g with ⟨rfl, h2, -⟩ | ⟨b, blk, rfl, hpos, hLb, hbk, hbe, hcl, hbn, hrows⟩
  · exact .inl ⟨rfl, List.length_eq_zero_iff.1 h2⟩
  · refine .inr ⟨_, _, blk, rfl, rdB_heap hbk 0, by simpa using hbn, fun j hj => ?_⟩
    rw [Nat.zero_add, hrows j (by omega), map_getD hj]
end Go.Proofs.Ytobmcofkcfifkaa.T

/- Fibonacci's numbers: the parts of a number. -/
open Go.Vm
set_option linter.unusedVariables false
namespace Go.Proofs.Ytobmcofkcfifkaa.T
open Go

/-- Fibonacci's numbers -/
def fb : Nat → Nat
  | 0 => 0
  | 1 => 1
  | n + 2 => fb n + fb (n + 1)
theorem fb_two (n : Nat) : fb (n + 2) = fb n + fb (n + 1) := rfl
theorem fb_pos : ∀ n, 0 < fb (n + 1)
  | 0 => by decide
  | n + 1 => by rw [fb_two]; have := fb_pos n; omega
theorem fb_succ : ∀ n, fb n ≤ fb (n + 1)
  | 0 => by decide
  | n + 1 => by rw [fb_two]; omega
theorem fb_le {m n : Nat} (h : m ≤ n) : fb m ≤ fb n := by
  induction h with
  | refl => exact Nat.le_refl _
  | step _ ih => exact Nat.le_trans ih (fb_succ _)
theorem fb88 : fb 88 = 1100087778366101931 := by decide +kernel
theorem fb89 : fb 89 = 1779979416004714189 := by decide +kernel
/-- the sum of what the indices name -/
def sm : List Nat → Nat
  | [] => 0
  | i :: l => fb i + sm l
/-- indices from 2 on, below t, falling, no two neighbours -/
def Zk : Nat → List Nat → Prop
  | _, [] => True
  | t, i :: l => 2 ≤ i ∧ i < t ∧ Zk (i - 1) l
theorem Zk.mono : ∀ {l : List Nat} {t u : Nat}, t ≤ u → Zk t l → Zk u l
  | [], _, _, _, _ => trivial
  | i :: l, t, u, h, ⟨h1, h2, h3⟩ => ⟨h1, by omega, h3⟩
theorem Zk.sum : ∀ {l : List Nat} {t : Nat}, 1 ≤ t → Zk t l → sm l < fb t
  | [], t, ht, _ => by
    obtain ⟨k, rfl⟩ : ∃ k, t = k + 1 := ⟨t - 1, by omega⟩
    exact fb_pos k
  | i :: l, t, ht, ⟨h1, h2, h3⟩ => by
    obtain ⟨k, rfl⟩ : ∃ k, i = k + 1 := ⟨i - 1, by omega⟩
    have := Zk.sum (t := k) (by omega) h3
    have h4 : fb (k + 2) ≤ fb t := fb_le h2
    rw [fb_two] at h4
    show fb (k + 1) + sm l < fb t
    omega
/-- the greatest that fits first -/
def gz : Nat → Nat → List Nat
  | 0, _ => []
  | 1, _ => []
  | i + 2, n => if fb (i + 2) ≤ n then (i + 2) :: gz (i + 1) (n - fb (i + 2)) else gz (i + 1) n
theorem gz_take {i n : Nat} (h : fb (i + 2) ≤ n) : gz (i + 2) n = (i + 2) :: gz (i + 1) (n - fb (i + 2)) := by rw [gz, if_pos h]
theorem gz_skip : ∀ {i n : Nat}, n < fb (i + 1) → gz (i + 1) n = gz i n
  | 0, n, h => rfl
  | i + 1, n, h => by rw [gz, if_neg (by have : fb (i + 1 + 1) = fb (i + 2) := rfl; omega)]
theorem gz_ok : ∀ (i n : Nat), n < fb (i + 1) → Zk (i + 1) (gz i n) ∧ sm (gz i n) = n
  | 0, n, h => by
    have : n = 0 := by have : fb (0 + 1) = 1 := rfl; omega
    subst this; exact ⟨trivial, rfl⟩
  | 1, n, h => by
    have : n = 0 := by have : fb (1 + 1) = 1 := rfl; omega
    subst this; exact ⟨trivial, rfl⟩
  | i + 2, n, h => by
    by_cases hc : fb (i + 2) ≤ n
    · rw [gz_take hc]
      have h2 : n - fb (i + 2) < fb (i + 1) := by
        have e : fb (i + 2 + 1) = fb (i + 1) + fb (i + 2) := rfl
        omega
      rw [gz_skip h2]
      obtain ⟨h3, h4⟩ := gz_ok i _ h2
      refine ⟨⟨by omega, by omega, h3⟩, ?_⟩
      show fb (i + 2) + sm _ = n
      rw [h4]; omega
    · rw [gz, if_neg hc]
      obtain ⟨h3, h4⟩ := gz_ok (i + 1) n (by have : fb (i + 1 + 1) = fb (i + 2) := rfl; omega)
      exact ⟨h3.mono (by omega), h4⟩
theorem gz_uniq : ∀ (t : Nat) {l : List Nat}, Zk (t + 1) l → gz t (sm l) = l
  | 0, l, h => by
    cases l with
    | nil => rfl
    | cons i l => exact absurd h.2.1 (by have := h.1; omega)
  | 1, l, h => by
    cases l with
    | nil => rfl
    | cons i l => exact absurd h.2.1 (by have := h.1; omega)
  | t + 2, [], _ => by
    rw [gz, if_neg (by have : 0 < fb (t + 2) := fb_pos (t + 1); show ¬ fb (t + 2) ≤ 0; omega)]
    exact gz_uniq (t + 1) (l := []) trivial
  | t + 2, i :: l, ⟨h1, h2, h3⟩ => by
    by_cases e : i = t + 2
    · subst e
      have h4 := Zk.sum (t := t + 1) (by omega) (show Zk (t + 1) l from h3)
      have h5 : sm ((t + 2) :: l) = fb (t + 2) + sm l := rfl
      rw [gz_take (by rw [h5]; omega), h5, Nat.add_sub_cancel_left, gz_skip h4, gz_uniq t h3]
    · have hz : Zk (t + 2) (i :: l) := ⟨h1, by omega, h3⟩
      have h4 := Zk.sum (t := t + 2) (by omega) hz
      rw [gz_skip h4]
      exact gz_uniq (t + 1) hz
theorem gz_zero (i : Nat) : gz i 0 = [] := gz_uniq i (l := []) trivial
/-- the number of indices -/
theorem Zk.len : ∀ {l : List Nat} {t : Nat}, Zk t l → 2 * l.length ≤ t
  | [], t, _ => by simp
  | i :: l, t, ⟨h1, h2, h3⟩ => by
    have := Zk.len h3
    simp only [List.length_cons]; omega
theorem Zk.mem : ∀ {l : List Nat} {t i : Nat}, Zk t l → i ∈ l → 2 ≤ i ∧ i < t
  | [], _, _, _, h => by simp at h
  | j :: l, t, i, ⟨h1, h2, h3⟩, hm => by
    rcases List.mem_cons.1 hm with rfl | hm
    · exact ⟨h1, h2⟩
    · have := Zk.mem h3 hm; omega
/-- the parts of a number up to 2^60 -/
abbrev big : Nat := 1152921504606846976
def zk (n : Nat) : List Nat := gz 88 n
theorem zk_ok {n : Nat} (h : n ≤ big) : Zk 89 (zk n) ∧ sm (zk n) = n := gz_ok 88 n (by rw [fb89]; have : big = 1152921504606846976 := rfl; omega)
theorem zk_uniq {l : List Nat} (h : Zk 89 l) : zk (sm l) = l := gz_uniq 88 h
theorem zk_ne {n : Nat} (h : n ≤ big) (h0 : 0 < n) : zk n ≠ [] := fun e => by
  have := (zk_ok h).2
  rw [e] at this
  exact absurd this (by show ¬ 0 = n; omega)
/-- numbers of words of any height -/
theorem gz_big {t u n : Nat} (h : n < fb (t + 1)) (htu : t ≤ u) : gz u n = gz t n := by
  have := gz_ok t n h
  have h2 := gz_uniq u (this.1.mono (by omega))
  rw [this.2] at h2
  exact h2
end Go.Proofs.Ytobmcofkcfifkaa.T

/- Steps; the two Fibonaccis; sums; ranges. -/
open Go.Vm
set_option linter.unusedVariables false
namespace Go.Proofs.Ytobmcofkcfifkaa.T
open Go

section
variable {ro : List ABlk} {h : Heap}
theorem alv {H : Heap} {l p : Nat} (hl : l ≤ H.length) (hp : p ≤ H.length) : callM (callX F1 ro) ⟨H, l, p⟩ 18 [] = some (.b true, ⟨H, l, p⟩) := cp alive_pure hl hp
theorem bindP_of {β : Type} {o : Option (AVal × Mm)} {v : AVal} {m : Mm} {f : AVal → Mm → Option β} (h : o = some (v, m)) : bindP o f = f v m := by rw [h]; rfl
theorem bindO_of {α β : Type} {o : Option α} {v : α} {f : α → Option β} (h : o = some v) : bindO o f = f v := by rw [h]; rfl
theorem pS {β : Type} (v : AVal) (m : Mm) (f : AVal → Mm → Option β) : bindP (some (v, m)) f = f v m := bindP_of (Eq.trans rfl rfl)
theorem oS {α β : Type} (v : α) (f : α → Option β) : bindO (some v) f = f v := bindO_of (Eq.trans rfl rfl)
theorem cT {α : Type} (a b : α) : cond true a b = a := by rw [cond_true]
theorem cF {α : Type} (a b : α) : cond false a b = b := by rw [cond_false]
theorem bS {β : Type} (b : Bool) (f : Bool → Option β) : asB (.b b) f = f b := (asB_b b f).trans (Eq.trans rfl rfl)
theorem iS {β : Type} (k : IntKind) (n : Int) (f : Int → Option β) : asI k (.i k n) f = f n := (asI_i k n f).trans (Eq.trans rfl rfl)
theorem x0 (a : AVal) (l : List AVal) : evP .e (.ext 0 (.c (.tup (a :: l)))) = some a := (ext0 a l).trans (Eq.trans rfl rfl)
theorem x1 (a b : AVal) (l : List AVal) : evP .e (.ext 1 (.c (.tup (a :: b :: l)))) = some b := (ext1 a b l).trans (Eq.trans rfl rfl)
theorem x2 (a b c : AVal) (l : List AVal) : evP .e (.ext 2 (.c (.tup (a :: b :: c :: l)))) = some c := (ext2 a b c l).trans (Eq.trans rfl rfl)
theorem tA (v : AVal) : tupA [v] = v := Eq.trans rfl rfl
theorem tA2 (v w : AVal) : tupA [v, w] = .tup [v, w] := Eq.trans rfl rfl
theorem tA3 (v w x : AVal) : tupA [v, w, x] = .tup [v, w, x] := Eq.trans rfl rfl
theorem nT : (!true) = false := Eq.trans rfl rfl
theorem nF : (!false) = true := Eq.trans rfl rfl
theorem fB {α : Type} (n : Bool) (f : Bool → α) : forceB n f = f n := (forceB_eq n f).trans (Eq.trans rfl rfl)
theorem fI' {α : Type} (n : Int) (f : Int → α) : forceI n f = f n := (forceI_eq n f).trans (Eq.trans rfl rfl)
theorem mC (F : Tab) (ro : List ABlk) : (meansX F ro).call = callX F ro := (meansX_call F ro).trans (Eq.trans rfl rfl)
theorem eqI_self (x : Int) : eqI x x = true := by rw [eqI_eq]; simp
theorem eqI_ne {x y : Int} (h : x ≠ y) : eqI x y = false := by rw [eqI_eq]; simp [h]
theorem ltT {x y : Int} (h : x < y) : ltI x y = true := by rw [ltI_eq]; exact dT h
theorem ltF {x y : Int} (h : ¬ x < y) : ltI x y = false := by rw [ltI_eq]; exact dF h
theorem mxF {a c : Nat} : mxV false (a : Int) (c : Int) = ((min a c : Nat) : Int) := by
  unfold mxV
  simp only [Bool.false_eq_true, if_false]
  split <;> omega
theorem mxF' {a c : Int} : mxV false a c = min a c := by
  unfold mxV
  simp only [Bool.false_eq_true, if_false]
  split <;> omega

/-- Fibonacci's numbers below 0, too -/
def fI : Int → Int
  | .ofNat k => (fb k : Int)
  | .negSucc k => if k % 2 = 0 then (fb (k + 1) : Int) else -(fb (k + 1) : Int)
theorem fI_nat (k : Nat) : fI (k : Int) = (fb k : Int) := rfl
theorem fI_rec (z : Int) : fI (z + 2) = fI z + fI (z + 1) := by
  match z with
  | .ofNat k =>
    show ((fb (k + 2) : Nat) : Int) = (fb k : Int) + (fb (k + 1) : Int)
    rw [fb_two]; omega
  | .negSucc 0 => rfl
  | .negSucc 1 => rfl
  | .negSucc (k + 2) =>
    have e1 : (Int.negSucc (k + 2)) + 2 = Int.negSucc k := by omega
    have e2 : (Int.negSucc (k + 2)) + 1 = Int.negSucc (k + 1) := by omega
    rw [e1, e2]
    show (if k % 2 = 0 then (fb (k + 1) : Int) else -(fb (k + 1) : Int)) = (if (k + 2) % 2 = 0 then (fb (k + 2 + 1) : Int) else -(fb (k + 2 + 1) : Int)) + (if (k + 1) % 2 = 0 then (fb (k + 1 + 1) : Int) else -(fb (k + 1 + 1) : Int))
    have e3 : fb (k + 2 + 1) = fb (k + 1) + fb (k + 1 + 1) := rfl
    rcases Nat.mod_two_eq_zero_or_one k with hk | hk
    · rw [if_pos hk, if_pos (show (k + 2) % 2 = 0 by omega), if_neg (show ¬ (k + 1) % 2 = 0 by omega)]; omega
    · rw [if_neg (show ¬ k % 2 = 0 by omega), if_neg (show ¬ (k + 2) % 2 = 0 by omega), if_pos (show (k + 1) % 2 = 0 by omega)]; omega
theorem fI_abs (z : Int) : -(fb z.natAbs : Int) ≤ fI z ∧ fI z ≤ (fb z.natAbs : Int) := by
  match z with
  | .ofNat k =>
    show -((fb k : Nat) : Int) ≤ (fb k : Int) ∧ (fb k : Int) ≤ (fb k : Int)
    omega
  | .negSucc k =>
    show -((fb (k + 1) : Nat) : Int) ≤ (if k % 2 = 0 then (fb (k + 1) : Int) else -(fb (k + 1) : Int)) ∧ (if k % 2 = 0 then (fb (k + 1) : Int) else -(fb (k + 1) : Int)) ≤ (fb (k + 1) : Int)
    split <;> omega
abbrev tm : Nat := 1152921504606846977
abbrev by61 : Nat := 2305843009213693952
def pF (i : Int) : Int := if 0 ≤ i then ((min (fb i.toNat) tm : Nat) : Int) else fI i
def rF (i : Int) : Int := if 0 ≤ i then ((min (fb i.toNat) by61 : Nat) : Int) else fI i
theorem pF_nat (k : Nat) : pF (k : Int) = ((min (fb k) tm : Nat) : Int) := by unfold pF; rw [if_pos (by omega), Int.toNat_natCast]
theorem rF_nat (k : Nat) : rF (k : Int) = ((min (fb k) by61 : Nat) : Int) := by unfold rF; rw [if_pos (by omega), Int.toNat_natCast]
theorem rF_low {k : Nat} (hk : k ≤ 89) : rF (k : Int) = (fb k : Int) := by
  rw [rF_nat, Nat.min_eq_left]
  have := fb_le hk
  rw [fb89] at this
  have : by61 = 2305843009213693952 := rfl
  omega
theorem pF_low {k : Nat} (hk : k ≤ 88) : pF (k : Int) = (fb k : Int) := by
  rw [pF_nat, Nat.min_eq_left]
  have := fb_le hk
  rw [fb88] at this
  have : tm = 1152921504606846977 := rfl
  omega
theorem lt64 {n : Nat} (h : n ≤ 9223372036854775807) : wr .i64 (n : Int) = (n : Int) := wr_id' (by omega) (by omega)
/-- the program's Fibonacci -/
theorem fib71 {i : Int} (h1 : -88 ≤ i) (h2 : i ≤ 4611686018427387904) : callX F1 ro 71 [.i .i64 i] h = some (.i .i64 (pF i), h, h.length, h.length) := by
  refine g71_ok (meansX_ok F1 ro) rfl ?_
  unfold g71
  simp only [fI', meansX_loop]
  have htm : tm = 1152921504606846977 := rfl
  rcases Int.le_total 0 i with hi | hi
  · obtain ⟨k, rfl⟩ := Int.eq_ofNat_of_zero_le hi
    have hm : mxV false (k : Int) 89 = ((min k 89 : Nat) : Int) := mxF
    rw [hm]
    have hl1 := loop_run (b := fun s : Int × Int × Int => g71_b0 (meansX F1 ro) ro (k : Int) ((min k 89 : Nat) : Int) ⟨h, h.length, h.length⟩ s.1 s.2.1 s.2.2) (fun j => (((min (fb j) tm : Nat) : Int), ((min (fb (j + 1)) tm : Nat) : Int), (j : Int))) (min k 89)
      (r0 := (((min (fb (min k 89)) tm : Nat) : Int), ((min (fb (min k 89 + 1)) tm : Nat) : Int))) ?_ ?_
    · have e : ((((min (fb 0) tm : Nat) : Int), ((min (fb (0 + 1)) tm : Nat) : Int), ((0 : Nat) : Int)) : Int × Int × Int) = (0, 1, 0) := by decide
      rw [e] at hl1
      rw [hl1]
      simp only [oS]
      rw [wr_id' (by omega) (by omega)]
      have hl2 := loopX_out (b := fun s : Int × Int × Int => g71_b1 (meansX F1 ro) ro (0 - (k : Int)) ⟨h, h.length, h.length⟩ s.1 s.2.1 s.2.2) (s := (((min (fb (min k 89)) tm : Nat) : Int), ((min (fb (min k 89 + 1)) tm : Nat) : Int), 0)) (r := ((min (fb (min k 89)) tm : Nat) : Int)) (by
        simp only [g71_b1, fB, ltF (show ¬ (0 : Int) < 0 - (k : Int) by omega), cF])
      rw [hl2]
      simp only [oS, tA]
      have e2 : min (fb (min k 89)) tm = min (fb k) tm := by
        rcases Nat.le_total k 89 with hk | hk
        · rw [Nat.min_eq_left hk]
        · rw [Nat.min_eq_right hk]
          have := fb_le hk
          rw [fb89] at this ⊢
          omega
      rw [e2, pF_nat]
      exact fin_pure rfl
    · simp only [g71_b0, fB, ltF (Int.lt_irrefl _), cF]
    · intro j hj
      have hb1 : min (fb j) tm + min (fb (j + 1)) tm ≤ 9223372036854775807 := by omega
      have e3 : ((min (fb j) tm : Nat) : Int) + ((min (fb (j + 1)) tm : Nat) : Int) = ((min (fb j) tm + min (fb (j + 1)) tm : Nat) : Int) := by omega
      have e4 : mxV false ((min (fb j) tm + min (fb (j + 1)) tm : Nat) : Int) 1152921504606846977 = ((min (fb (j + 2)) tm : Nat) : Int) := by
        rw [show (1152921504606846977 : Int) = ((tm : Nat) : Int) from rfl, mxF, fb_two]; omega
      have e5 : wr .i64 ((j : Int) + 1) = ((j + 1 : Nat) : Int) := wr_next (by omega)
      simp only [g71_b0, fB, ltT (show (j : Int) < ((min k 89 : Nat) : Int) by omega), cT, fI', e3, lt64 hb1, e4, e5]
  · rcases Int.lt_or_eq_of_le hi with hi | rfl
    rotate_left
    · -- zero
      have hm : mxV false (0 : Int) 89 = 0 := by decide
      rw [hm]
      have hl1 := loopX_out (b := fun s : Int × Int × Int => g71_b0 (meansX F1 ro) ro 0 0 ⟨h, h.length, h.length⟩ s.1 s.2.1 s.2.2) (s := (0, 1, 0)) (r := (0, 1)) (by simp only [g71_b0, fB, ltF (Int.lt_irrefl _), cF])
      rw [hl1]
      simp only [oS]
      have e0 : wr .i64 (0 - 0) = 0 := by decide
      rw [e0]
      have hl2 := loopX_out (b := fun s : Int × Int × Int => g71_b1 (meansX F1 ro) ro 0 ⟨h, h.length, h.length⟩ s.1 s.2.1 s.2.2) (s := (0, 1, 0)) (r := 0) (by simp only [g71_b1, fB, ltF (Int.lt_irrefl _), cF])
      rw [hl2]
      simp only [oS, tA]
      exact fin_pure rfl
    obtain ⟨k, hk⟩ : ∃ k : Nat, i = -(k : Int) := ⟨i.natAbs, by omega⟩
    have hm : mxV false i 89 = i := by rw [mxF']; omega
    rw [hm]
    have hl1 := loopX_out (b := fun s : Int × Int × Int => g71_b0 (meansX F1 ro) ro i i ⟨h, h.length, h.length⟩ s.1 s.2.1 s.2.2) (s := (0, 1, 0)) (r := (0, 1)) (by simp only [g71_b0, fB, ltF (show ¬ (0 : Int) < i by omega), cF])
    rw [hl1]
    simp only [oS]
    have e0 : wr .i64 (0 - i) = (k : Int) := by rw [wr_id' (by omega) (by omega)]; omega
    rw [e0]
    have hl2 := loop_run (b := fun s : Int × Int × Int => g71_b1 (meansX F1 ro) ro (k : Int) ⟨h, h.length, h.length⟩ s.1 s.2.1 s.2.2) (fun j => (fI (-(j : Int)), fI (1 - (j : Int)), (j : Int))) k (r0 := fI (-(k : Int))) ?_ ?_
    · have e : ((fI (-((0 : Nat) : Int)), fI (1 - ((0 : Nat) : Int)), ((0 : Nat) : Int)) : Int × Int × Int) = (0, 1, 0) := rfl
      rw [e] at hl2
      rw [hl2]
      simp only [oS, tA]
      unfold pF
      rw [if_neg (by omega), hk]
      exact fin_pure rfl
    · simp only [g71_b1, fB, ltF (Int.lt_irrefl _), cF]
    · intro j hj
      have e3 : fI (1 - (j : Int)) - fI (-(j : Int)) = fI (-((j + 1 : Nat) : Int)) := by
        have := fI_rec (-((j + 1 : Nat) : Int))
        rw [show -((j + 1 : Nat) : Int) + 2 = 1 - (j : Int) by omega, show -((j + 1 : Nat) : Int) + 1 = -(j : Int) by omega] at this
        omega
      have hb := fI_abs (-((j + 1 : Nat) : Int))
      have hle := fb_le (show (-((j + 1 : Nat) : Int)).natAbs ≤ 88 by omega)
      rw [fb88] at hle
      have e5 : wr .i64 ((j : Int) + 1) = ((j + 1 : Nat) : Int) := wr_next (by omega)
      have e6 : fI (1 - ((j + 1 : Nat) : Int)) = fI (-(j : Int)) := by congr 1; omega
      simp only [g71_b1, fB, ltT (show (j : Int) < (k : Int) by omega), cT, fI', e3, wr_id' (show -9223372036854775808 ≤ fI (-((j + 1 : Nat) : Int)) by omega) (show fI (-((j + 1 : Nat) : Int)) ≤ 9223372036854775807 by omega), e5, e6]
/-- is a number in range? -/
def inR (n : Int) : Prop := 0 ≤ n ∧ n ≤ 1152921504606846976
instance (n : Int) : Decidable (inR n) := inferInstanceAs (Decidable (_ ∧ _))
end
end Go.Proofs.Ytobmcofkcfifkaa.T

/- Ranges of several numbers; the parts of a number, by the program and by the reference. -/
open Go.Vm
set_option linter.unusedVariables false
namespace Go.Proofs.Ytobmcofkcfifkaa.T
open Go

section
variable {ro : List ABlk} {h : Heap}
/-- a list of numbers, all in range? -/
theorem all51 {v : AVal} {z : List Int} (a : IsRow ro h v z) (hz : z.length ≤ 1000000) : callX F1 ro 51 [v] h = some (.b (decide (∀ i, i < z.length → inR (z.getD i 0))), h, h.length, h.length) := by
  refine g51_ok (meansX_ok F1 ro) rfl ?_
  unfold g51
  simp only [len_row a, oS, iS, meansX_loop]
  have hl := loop_if (b := fun s => g51_b0 (meansX F1 ro) ro v (z.length : Int) ⟨h, h.length, h.length⟩ s) (fun i => (i : Int)) z.length (fun i => inR (z.getD i 0)) (.inl ()) (.inr false) ?_ ?_ ?_
  · have e0 : ((0 : Nat) : Int) = 0 := rfl
    rw [e0] at hl
    rw [hl]
    by_cases hf : ∀ i, i < z.length → inR (z.getD i 0)
    · rw [if_pos hf]
      simp only [oS, tA, dT hf]
      exact fin_pure rfl
    · rw [if_neg hf]
      simp only [oS, tA, dF hf]
      exact fin_pure rfl
  · simp only [g51_b0, fB, ltF (Int.lt_irrefl _), cF]
  · intro i hi hp
    obtain ⟨p, h1, h2, h3⟩ := at_row (m := ⟨h, h.length, h.length⟩) rfl a hi
    obtain ⟨hp1, hp2⟩ := hp
    simp only [g51_b0, fB, ltT (show (i : Int) < (z.length : Int) by omega), cT, h1, oS, h2, iS, ltF (show ¬ z.getD i 0 < 0 by omega), ltF (show ¬ 1152921504606846976 < z.getD i 0 by omega), cF, fI', wr_next (show i ≤ 1000000 by omega)]
  · intro i hi hp
    obtain ⟨p, h1, h2, h3⟩ := at_row (m := ⟨h, h.length, h.length⟩) rfl a hi
    simp only [g51_b0, fB, ltT (show (i : Int) < (z.length : Int) by omega), cT, h1, oS, h2, iS]
    rcases Int.lt_or_le (z.getD i 0) 0 with hh | hh
    · simp only [ltT hh, cT, oS]
    · have : 1152921504606846976 < z.getD i 0 := by
        rcases Int.lt_or_le 1152921504606846976 (z.getD i 0) with h4 | h4
        · exact h4
        · exact absurd ⟨hh, h4⟩ hp
      simp only [ltF (show ¬ z.getD i 0 < 0 by omega), ltT this, cF, oS, cT]
theorem bsl1 (hp : Heap) (l p : Nat) (x : Int) : stepM ro ⟨hp, l, p⟩ (.bsl 3 1 [(AVal.i IntKind.i64 0)] 1 [((0, 1), .c (.i .i64 x))]) = some (.sl ⟨false, hp.length, 0⟩ 1 (.known 1), ⟨hp ++ [some (blkOf 3 [.i .i64 x])], l, p⟩) := rfl
theorem bsl2 (hp : Heap) (l p : Nat) (x y : Int) : stepM ro ⟨hp, l, p⟩ (.bsl 3 1 [(AVal.i IntKind.i64 0)] 2 [((0, 1), .c (.i .i64 x)), ((1, 1), .c (.i .i64 y))]) = some (.sl ⟨false, hp.length, 0⟩ 2 (.known 2), ⟨hp ++ [some (blkOf 3 [.i .i64 x, .i .i64 y])], l, p⟩) := rfl
theorem newRow (hp : Heap) (z : List Int) (c : Cap) : IsRow ro (hp ++ [some (blkOf 3 (z.map (AVal.i .i64)))]) (.sl ⟨false, hp.length, 0⟩ z.length c) z := by
  refine .inr ⟨_, _, blkOf 3 (z.map (AVal.i .i64)), rfl, rdB_heap (lget_last _ _) 0, by simp [blkOf], fun j hj => ?_⟩
  rw [Nat.zero_add, get_blk, map_getD hj]
/-- one number in range? the list that is made for it is dropped later -/
theorem one51 {x : Int} {l p : Nat} (hl : l ≤ h.length) (hp : p ≤ h.length) : ∃ v H, stepM ro ⟨h, l, p⟩ (.bsl 3 1 [(AVal.i IntKind.i64 0)] 1 [((0, 1), .c (.i .i64 x))]) = some (v, ⟨H, l, p⟩) ∧ callM (callX F1 ro) ⟨H, l, p⟩ 51 [v] = some (.b (decide (inR x)), ⟨H, l, p⟩) ∧ Keep h H := by
  refine ⟨_, _, bsl1 h l p x, ?_, Keep.app _⟩
  have h1 := all51 (ro := ro) (newRow h [x] (.known 1)) (by simp)
  have e : decide (∀ i, i < [x].length → inR ([x].getD i 0)) = decide (inR x) := by
    apply decide_eq_decide.2
    exact ⟨fun hh => hh 0 (by simp), fun hh i hi => by obtain rfl : i = 0 := by simp at hi; omega
                                                       exact hh⟩
  rw [e] at h1
  exact callM_pure h1 (by simp; omega) (by simp; omega)
theorem two51 {x y : Int} {l p : Nat} (hl : l ≤ h.length) (hp : p ≤ h.length) : ∃ v H, stepM ro ⟨h, l, p⟩ (.bsl 3 1 [(AVal.i IntKind.i64 0)] 2 [((0, 1), .c (.i .i64 x)), ((1, 1), .c (.i .i64 y))]) = some (v, ⟨H, l, p⟩) ∧ callM (callX F1 ro) ⟨H, l, p⟩ 51 [v] = some (.b (decide (inR x ∧ inR y)), ⟨H, l, p⟩) ∧ Keep h H := by
  refine ⟨_, _, bsl2 h l p x y, ?_, Keep.app _⟩
  have h1 := all51 (ro := ro) (newRow h [x, y] (.known 2)) (by simp)
  have e : decide (∀ i, i < [x, y].length → inR ([x, y].getD i 0)) = decide (inR x ∧ inR y) := by
    apply decide_eq_decide.2
    refine ⟨fun hh => ⟨hh 0 (by simp), hh 1 (by simp)⟩, fun hh i hi => ?_⟩
    have hi2 : i = 0 ∨ i = 1 := by simp at hi; omega
    rcases hi2 with rfl | rfl
    · exact hh.1
    · exact hh.2
  rw [e] at h1
  exact callM_pure h1 (by simp; omega) (by simp; omega)
/-- numbers as the program's ints -/
abbrev nts (l : List Nat) : List Int := l.map fun n : Nat => ((n : Nat) : Int)
theorem nts_len (l : List Nat) : (nts l).length = l.length := by simp
theorem nts_get {l : List Nat} {i : Nat} (h : i < l.length) : (nts l).getD i 0 = ((l.getD i 0 : Nat) : Int) := by simp [List.getD, h]
/-- the program's parts -/
theorem parts60 {n : Nat} (hn : n ≤ big) : ∃ v H, callX F1 ro 60 [.i .i64 (n : Int)] h = some (v, H, h.length, h.length) ∧ Keep h H ∧ IsRow ro H v (nts (zk n)) := by
  have hbig : big = 1152921504606846976 := rfl
  have e1 : pF 88 = (fb 88 : Int) := pF_low (k := 88) (by omega)
  have e2 : pF 87 = (fb 87 : Int) := pF_low (k := 87) (by omega)
  have key : ∃ r, loopX (fun s : Int × AVal × Int × Int × Int × Mm => g60_b0 (meansX F1 ro) ro s.1 s.2.1 s.2.2.1 s.2.2.2.1 s.2.2.2.2.1 s.2.2.2.2.2) ((n : Int), AVal.nsl, (fb 88 : Int), (fb 87 : Int), 88, ⟨h, h.length, h.length⟩) = some r ∧ ∃ w H, r = (w, ⟨H, h.length, h.length⟩) ∧ Keep h H ∧ IsRow ro H w (nts (zk n)) := by
    refine loop_exit 87 (fun j s => ∃ (r : Nat) (w : AVal) (H : Heap) (l : List Nat), s = ((r : Int), w, (fb (88 - j) : Int), (fb (87 - j) : Int), ((88 - j : Nat) : Int), ⟨H, h.length, h.length⟩) ∧ Keep h H ∧ GV H h.length 3 1 w l.length ((nts l).map (AVal.i .i64)) ∧ l.length ≤ j ∧ l ++ gz (88 - j) r = zk n ∧ r < fb (89 - j)) _ ?_ ?_ 87 0 _ (by omega) ⟨n, .nsl, h, [], rfl, Keep.refl h, GV.nil _ _ _ _, by simp, rfl, by
      show n < fb 89
      rw [fb89]; omega⟩
    · rintro j s hj ⟨r, w, H, l, rfl, kp, g, hlen, hl, hr⟩
      obtain ⟨i, hi⟩ : ∃ i, 88 - j = i + 2 := ⟨86 - j, by omega⟩
      have hi1 : 87 - j = i + 1 := by omega
      have hi2 : 89 - j = i + 3 := by omega
      have hj1 : 88 - (j + 1) = i + 1 := by omega
      have hj2 : 87 - (j + 1) = i := by omega
      have hj3 : 89 - (j + 1) = i + 2 := by omega
      rw [hi] at hl
      rw [hi2] at hr
      simp only [hi, hi1]
      rcases Nat.eq_zero_or_pos r with rfl | hr0
      · refine .inr ⟨(w, ⟨H, h.length, h.length⟩), ?_, w, H, rfl, kp, ?_⟩
        · simp only [g60_b0, fB, ltF (show ¬ (0 : Int) < ((0 : Nat) : Int) by omega), cF]
        · rw [gz_zero, List.append_nil] at hl
          rw [← hl]
          exact GV.row g (nts_len l)
      · have hf := fb_le (show i + 2 ≤ 88 by omega)
        rw [fb88] at hf
        have ef : fb (i + 3) = fb (i + 1) + fb (i + 2) := rfl
        have ef2 : fb (i + 2) = fb i + fb (i + 1) := rfl
        have e3 : wr .i64 ((fb (i + 2) : Int) - (fb (i + 1) : Int)) = (fb i : Int) := by rw [wr_id' (by omega) (by omega)]; omega
        have e4 : wr .i64 (((i + 2 : Nat) : Int) - 1) = ((i + 1 : Nat) : Int) := by rw [wr_id' (by omega) (by omega)]; omega
        refine .inl ?_
        by_cases hc : fb (i + 2) ≤ r
        · obtain ⟨v2, hp2, v3, hp3, s1, s2, g2, k1, k2⟩ := GV.push (ro := ro) (L0 := h.length) (bytes := 8) (z := [AVal.i .i64 0]) (w := .i .i64 ((i + 2 : Nat) : Int)) (ws := [.i .i64 ((i + 2 : Nat) : Int)]) g (Nat.le_refl _) kp.1 (by omega) (by omega) (by omega) rfl rfl rfl rfl rfl
          have e5 : wr .i64 ((r : Int) - (fb (i + 2) : Int)) = ((r - fb (i + 2) : Nat) : Int) := by rw [wr_id' (by omega) (by omega)]; omega
          refine ⟨_, (by simp only [g60_b0, fB, ltT (show (0 : Int) < (r : Int) by omega), cT, ltF (show ¬ (r : Int) < (fb (i + 2) : Int) by omega), nF, s1, pS, s2, fI', e5, oS, e3, e4]; rfl), r - fb (i + 2), v3, hp3, l ++ [i + 2], by rw [hj1, hj2], ⟨Nat.le_trans kp.1 k1, fun q hq => by rw [k2 q hq, kp.2 q hq]⟩, ?_, by simp; omega, ?_, ?_⟩
          · rw [List.length_append, show nts (l ++ [i + 2]) = nts l ++ [((i + 2 : Nat) : Int)] by simp, List.map_append]
            simpa using g2
          · rw [hj1, ← hl, gz_take hc]; simp
          · rw [hj3]; omega
        · refine ⟨_, (by simp only [g60_b0, fB, ltT (show (0 : Int) < (r : Int) by omega), cT, ltT (show (r : Int) < (fb (i + 2) : Int) by omega), nT, cF, oS, fI', e3, e4]; rfl), r, w, H, l, by rw [hj1, hj2], kp, g, by omega, ?_, ?_⟩
          · rw [hj1, ← hl, gz_skip (i := i + 1) (by show r < fb (i + 2); omega)]
          · rw [hj3]; omega
    · rintro s ⟨r, w, H, l, rfl, kp, g, hlen, hl, hr⟩
      have : r = 0 := by have : fb (89 - 87) = 1 := rfl; omega
      subst this
      refine ⟨(w, ⟨H, h.length, h.length⟩), ?_, w, H, rfl, kp, ?_⟩
      · simp only [g60_b0, fB, ltF (show ¬ (0 : Int) < ((0 : Nat) : Int) by omega), cF]
      · rw [gz_zero, List.append_nil] at hl
        rw [← hl]
        exact GV.row g (nts_len l)
  obtain ⟨r, h1, w, H, rfl, kp, hrow⟩ := key
  obtain ⟨H', f1, f2, f3⟩ := fin_rowW (w := w) kp hrow rfl
  refine ⟨w, H', g60_ok (meansX_ok F1 ro) rfl ?_, f2, f3⟩
  unfold g60
  simp only [mC, cp0 (fib71 (i := 88) (by omega) (by omega)), cp0 (fib71 (i := 87) (by omega) (by omega)), pS, iS, e1, e2, meansX_loop]
  rw [h1]
  simp only [oS, tA]
  exact f1
end
end Go.Proofs.Ytobmcofkcfifkaa.T

/- Sums of shifted parts, as the program adds them. -/
open Go.Vm
set_option linter.unusedVariables false
namespace Go.Proofs.Ytobmcofkcfifkaa.T
open Go

theorem fold_take {α : Type} (f : α → Nat → α) (s : α) (l : List Nat) {j : Nat} (hj : j < l.length) : (l.take (j + 1)).foldl f s = f ((l.take j).foldl f s) (l.getD j 0) := by
  rw [List.take_succ_eq_append_getElem hj, List.foldl_append]
  simp [List.getD, hj]
theorem zk_at {n j : Nat} (hn : n ≤ big) (hj : j < (zk n).length) : 2 ≤ (zk n).getD j 0 ∧ (zk n).getD j 0 ≤ 88 := by
  have hm : (zk n).getD j 0 ∈ zk n := by
    have : (zk n).getD j 0 = (zk n)[j] := by simp [List.getD, hj]
    rw [this]; exact List.getElem_mem hj
  have := (zk_ok hn).1.mem hm
  omega
theorem zk_len {n : Nat} (hn : n ≤ big) : (zk n).length ≤ 44 := by
  have := (zk_ok hn).1.len
  omega
theorem fb78 : fb 78 = 8944394323791464 := by decide +kernel
theorem pF_bd {z : Int} (h : -78 ≤ z) : -8944394323791464 ≤ pF z ∧ pF z ≤ (tm : Int) := by
  have htm : tm = 1152921504606846977 := rfl
  unfold pF
  split
  · omega
  · have h1 := fI_abs z
    have h2 := fb_le (show z.natAbs ≤ 78 by omega)
    rw [fb78] at h2
    omega
/-- one part more -/
def stp (b : Int) (s : Int) (i : Nat) : Int := min (s + pF ((i : Int) + b)) (tm : Int)
/-- the program's sum of shifted parts -/
def acc (b : Int) (l : List Nat) : Int := l.foldl (stp b) 0
theorem acc_bdc {b : Int} {c : Nat} (hct : c ≤ tm) : ∀ (l : List Nat) (s : Int) (k : Nat), (∀ i ∈ l, -(c : Int) ≤ pF ((i : Int) + b)) → -((k * c : Nat) : Int) ≤ s → s ≤ (tm : Int) →
    -(((k + l.length) * c : Nat) : Int) ≤ l.foldl (stp b) s ∧ l.foldl (stp b) s ≤ (tm : Int)
  | [], s, k, _, h1, h2 => ⟨h1, h2⟩
  | i :: l, s, k, hi, h1, h2 => by
    have h3 := hi i (by simp)
    have e : (k + 1) * c = k * c + c := Nat.succ_mul k c
    have := acc_bdc hct l (stp b s i) (k + 1) (fun x hx => hi x (by simp [hx])) (by
      rw [e]
      unfold stp
      omega) (by unfold stp; omega)
    rw [List.length_cons, show k + (l.length + 1) = k + 1 + l.length by omega]
    exact this
theorem acc_bd {b : Int} (l : List Nat) (hl : l.length ≤ 44) (hi : ∀ i ∈ l, -78 ≤ (i : Int) + b) : -400000000000000000 ≤ l.foldl (stp b) 0 ∧ l.foldl (stp b) 0 ≤ (tm : Int) := by
  have htm : tm = 1152921504606846977 := rfl
  obtain ⟨h1, h2⟩ := acc_bdc (b := b) (c := 8944394323791464) (by omega) l 0 0 (fun i hm => (pF_bd (hi i hm)).1) (by omega) (by omega)
  refine ⟨?_, h2⟩
  have h3 : (0 + l.length) * 8944394323791464 ≤ 44 * 8944394323791464 := Nat.mul_le_mul_right _ (by omega)
  omega
theorem zk_mem {n j : Nat} (hj : j < (zk n).length) : (zk n).getD j 0 ∈ zk n := by
  have : (zk n).getD j 0 = (zk n)[j] := by simp [List.getD, hj]
  rw [this]; exact List.getElem_mem hj
section
variable {ro : List ABlk} {h : Heap}
theorem shiftedG {n : Nat} (hn : n ≤ big) {b : Int} (hb1 : ∀ i ∈ zk n, -78 ≤ (i : Int) + b) (hb0 : -88 ≤ b) (hb2 : b ≤ 4611686018427387000) : callX F1 ro 63 [.i .i64 (n : Int), .i .i64 b] h = some (.i .i64 (acc b (zk n)), h, h.length, h.length) := by
  obtain ⟨v, H, c1, kp, hv⟩ := parts60 (ro := ro) (h := h) hn
  refine g63_ok (meansX_ok F1 ro) rfl ?_
  unfold g63
  have hlen := zk_len hn
  simp only [mC, cM c1 (Nat.le_refl _) (Nat.le_refl _), pS, len_row hv, oS, iS, meansX_loop]
  rw [nts_len]
  have hl := loop_run (b := fun s : Int × Int × Mm => g63_b0 (meansX F1 ro) ro b v ((zk n).length : Int) s.1 s.2.1 s.2.2) (fun j => (((zk n).take j).foldl (stp b) 0, (j : Int), (⟨H, h.length, h.length⟩ : Mm))) (zk n).length
    (r0 := (((zk n).take (zk n).length).foldl (stp b) 0, (⟨H, h.length, h.length⟩ : Mm))) ?_ ?_
  · have e : ((((zk n).take 0).foldl (stp b) 0, ((0 : Nat) : Int), (⟨H, h.length, h.length⟩ : Mm)) : Int × Int × Mm) = (0, 0, ⟨H, h.length, h.length⟩) := rfl
    rw [e] at hl
    rw [hl]
    simp only [oS, tA, List.take_length]
    exact fin_keep kp rfl
  · simp only [g63_b0, fB, ltF (Int.lt_irrefl _), cF]
  · intro j hj
    obtain ⟨p, h1, h2, h3⟩ := at_row (m := ⟨H, h.length, h.length⟩) rfl hv (show j < (nts (zk n)).length by rw [nts_len]; exact hj)
    rw [nts_get hj] at h2
    obtain ⟨i1, i2⟩ := zk_at hn hj
    have hbd := acc_bd (b := b) ((zk n).take j) (by rw [List.length_take]; omega) (fun x hx => hb1 x (List.mem_of_mem_take hx))
    have hb3 := hb1 _ (zk_mem hj)
    have hpf := pF_bd (z := (((zk n).getD j 0 : Nat) : Int) + b) (by omega)
    have htm : tm = 1152921504606846977 := rfl
    rw [fold_take _ _ _ hj]
    generalize ((zk n).take j).foldl (stp b) 0 = S at hbd ⊢
    have hS : -9223372036854775808 ≤ S + pF ((((zk n).getD j 0 : Nat) : Int) + b) := by omega
    have e1 : wr .i64 ((((zk n).getD j 0 : Nat) : Int) + b) = (((zk n).getD j 0 : Nat) : Int) + b := wr_id' (by omega) (by omega)
    have e2 : wr .i64 (S + pF ((((zk n).getD j 0 : Nat) : Int) + b)) = S + pF ((((zk n).getD j 0 : Nat) : Int) + b) := wr_id' hS (by omega)
    have e3 : mxV false (S + pF ((((zk n).getD j 0 : Nat) : Int) + b)) 1152921504606846977 = stp b S ((zk n).getD j 0) := mxF'
    simp only [g63_b0, fB, ltT (show (j : Int) < ((zk n).length : Int) by omega), cT, h1, oS, h2, iS, fI', e1, mC, cp (fib71 (ro := ro) (h := H) (i := (((zk n).getD j 0 : Nat) : Int) + b) (by omega) (by omega)) kp.1 kp.1, pS, e2, e3, wr_next (show j ≤ 1000000 by omega)]
theorem shifted63 {n : Nat} (hn : n ≤ big) {b : Int} (hb1 : -80 ≤ b) (hb2 : b ≤ 4611686018427387000) : callX F1 ro 63 [.i .i64 (n : Int), .i .i64 b] h = some (.i .i64 (acc b (zk n)), h, h.length, h.length) :=
  shiftedG hn (fun i hi => by have := (zk_ok hn).1.mem hi; omega) (by omega) hb2
/-- the least part's index -/
def lp (n : Nat) : Nat := (zk n).getD ((zk n).length - 1) 0
theorem least72 {n : Nat} (hn : n ≤ big) (h0 : 0 < n) : callX F1 ro 72 [.i .i64 (n : Int)] h = some (.i .i64 (lp n : Int), h, h.length, h.length) := by
  obtain ⟨v, H, c1, kp, hv⟩ := parts60 (ro := ro) (h := h) hn
  refine g72_ok (meansX_ok F1 ro) rfl ?_
  unfold g72
  have hlen := zk_len hn
  have hpos : 0 < (zk n).length := List.length_pos_iff.2 (zk_ne hn h0)
  obtain ⟨p, h1, h2, h3⟩ := at_row (m := ⟨H, h.length, h.length⟩) rfl hv (show (zk n).length - 1 < (nts (zk n)).length by rw [nts_len]; omega)
  rw [nts_get (by omega)] at h2
  have e1 : wr .i64 (((nts (zk n)).length : Int) - 1) = (((zk n).length - 1 : Nat) : Int) := by rw [nts_len, wr_id' (by omega) (by omega)]; omega
  simp only [mC, cM c1 (Nat.le_refl _) (Nat.le_refl _), pS, len_row hv, oS, iS, fI', e1, h1, h2, tA]
  exact fin_keep kp rfl
end
theorem lp_bd {n : Nat} (hn : n ≤ big) (h0 : 0 < n) : 2 ≤ lp n ∧ lp n ≤ 88 := by
  have hpos : 0 < (zk n).length := List.length_pos_iff.2 (zk_ne hn h0)
  exact zk_at hn (by omega)
/-- shifted up -/
def su (b : Nat) : List Nat → Nat
  | [] => 0
  | i :: l => fb (i + b) + su b l
theorem acc_up (b : Nat) : ∀ (l : List Nat) (s : Nat), l.foldl (stp (b : Int)) ((min s tm : Nat) : Int) = ((min (s + su b l) tm : Nat) : Int)
  | [], s => rfl
  | i :: l, s => by
    simp only [List.foldl_cons]
    have e : stp (b : Int) ((min s tm : Nat) : Int) i = ((min (s + fb (i + b)) tm : Nat) : Int) := by
      unfold stp
      rw [show (i : Int) + (b : Int) = ((i + b : Nat) : Int) by omega, pF_nat]; omega
    rw [e, acc_up b l]
    show ((min (s + fb (i + b) + su b l) tm : Nat) : Int) = ((min (s + (fb (i + b) + su b l)) tm : Nat) : Int)
    rw [Nat.add_assoc]
theorem acc_nat (b : Nat) (l : List Nat) : acc (b : Int) l = ((min (su b l) tm : Nat) : Int) := by
  have := acc_up b l 0
  simpa [acc] using this
/-- shifted by any number -/
def si (b : Int) : List Nat → Int
  | [] => 0
  | i :: l => fI ((i : Int) + b) + si b l
def sa (b : Nat) : List Nat → Nat
  | [] => 0
  | i :: l => fb ((i : Int) - (b : Int)).natAbs + sa b l
theorem sa_low (b : Nat) : ∀ (l : List Nat) (t : Nat), Zk t l → 1 ≤ t → t ≤ b → fb (b - t) + sa b l ≤ fb b
  | [], t, _, h1, h2 => fb_le (by omega)
  | i :: l, t, ⟨i1, i2, i3⟩, h1, h2 => by
    have h4 := sa_low b l (i - 1) i3 (by omega) (by omega)
    have e1 : ((i : Int) - (b : Int)).natAbs = b - i := by omega
    have h5 : fb (b - t) ≤ fb (b - i - 1) := fb_le (by omega)
    obtain ⟨k, hk⟩ : ∃ k, b - i = k + 1 := ⟨b - i - 1, by omega⟩
    have e2 : b - (i - 1) = k + 2 := by omega
    have e3 : b - i - 1 = k := by omega
    rw [e2, fb_two] at h4
    rw [e3] at h5
    show fb (b - t) + (fb ((i : Int) - (b : Int)).natAbs + sa b l) ≤ fb b
    rw [e1, hk]; omega
theorem sa_bd (b : Nat) (hb : 1 ≤ b) : ∀ (l : List Nat) (t : Nat), Zk t l → b < t → sa b l ≤ fb (t - b) + fb b
  | [], t, _, h1 => Nat.zero_le _
  | i :: l, t, ⟨i1, i2, i3⟩, h1 => by
    show fb ((i : Int) - (b : Int)).natAbs + sa b l ≤ _
    rcases Nat.lt_or_ge i b with hi | hi
    · have := sa_low b (i :: l) (i + 1) ⟨i1, by omega, i3⟩ (by omega) (by omega)
      have : sa b (i :: l) = fb ((i : Int) - (b : Int)).natAbs + sa b l := rfl
      omega
    · have e1 : ((i : Int) - (b : Int)).natAbs = i - b := by omega
      rw [e1]
      rcases Nat.lt_or_ge b (i - 1) with h2 | h2
      · have h4 := sa_bd b hb l (i - 1) i3 h2
        obtain ⟨k, hk⟩ : ∃ k, i - b = k + 1 := ⟨i - b - 1, by omega⟩
        have e2 : i - 1 - b = k := by omega
        have h5 : fb (k + 2) ≤ fb (t - b) := fb_le (by omega)
        rw [fb_two] at h5
        rw [e2] at h4
        rw [hk]; omega
      · have h4 : sa b l ≤ fb b := by
          rcases Nat.lt_or_ge b (i - 1) with h | h
          · omega
          · have := sa_low b l (i - 1) i3 (by omega) h; omega
        have h5 : fb (i - b) ≤ fb (t - b) := fb_le (by omega)
        omega
theorem acc_dn (b : Nat) : ∀ (l : List Nat) (s : Int), (∀ i ∈ l, (i : Int) - (b : Int) ≤ 88) → s.natAbs + sa b l ≤ tm → l.foldl (stp (-(b : Int))) s = s + si (-(b : Int)) l
  | [], s, _, _ => by simp [si]
  | i :: l, s, hi, hs => by
    simp only [List.foldl_cons]
    have hs' : s.natAbs + (fb ((i : Int) - (b : Int)).natAbs + sa b l) ≤ tm := hs
    have e0 : (i : Int) + -(b : Int) = (i : Int) - (b : Int) := by omega
    have h1 := fI_abs ((i : Int) - (b : Int))
    have e1 : pF ((i : Int) + -(b : Int)) = fI ((i : Int) - (b : Int)) := by
      rw [e0]
      unfold pF
      split
      · rename_i h2
        obtain ⟨k, hk⟩ := Int.eq_ofNat_of_zero_le h2
        rw [hk, fI_nat, Int.toNat_natCast, Nat.min_eq_left]
        rw [hk] at hs'
        have : (k : Int).natAbs = k := by omega
        rw [this] at hs'
        omega
      · rfl
    have e2 : min (s + fI ((i : Int) - (b : Int))) (tm : Int) = s + fI ((i : Int) - (b : Int)) := by omega
    have e3 : stp (-(b : Int)) s i = s + fI ((i : Int) - (b : Int)) := by unfold stp; rw [e1, e2]
    rw [e3, acc_dn b l _ (fun x hx => hi x (by simp [hx])) (by omega)]
    show _ = s + (fI ((i : Int) + -(b : Int)) + si (-(b : Int)) l)
    rw [e0]; omega
/-- downwards the sum is never too much -/
theorem sa_max {b : Nat} (h1 : 1 ≤ b) (h2 : b ≤ 88) : fb (89 - b) + fb b ≤ 1152921504606846976 := by
  have : ∀ b, b < 88 → fb (89 - (b + 1)) + fb (b + 1) ≤ 1152921504606846976 := by decide +kernel
  have := this (b - 1) (by omega)
  rwa [show b - 1 + 1 = b by omega] at this
theorem acc_neg {b n : Nat} (hn : n ≤ big) (h1 : 1 ≤ b) (h2 : b ≤ 88) : acc (-(b : Int)) (zk n) = si (-(b : Int)) (zk n) ∧ (si (-(b : Int)) (zk n)).natAbs ≤ 1152921504606846976 := by
  have h3 := sa_bd b h1 (zk n) 89 (zk_ok hn).1 (by omega)
  have h4 := sa_max h1 h2
  have htm : tm = 1152921504606846977 := rfl
  have h5 := acc_dn b (zk n) 0 (fun i hi => by have := (zk_ok hn).1.mem hi; omega) (by simp; omega)
  rw [Int.zero_add] at h5
  refine ⟨h5, ?_⟩
  have : ∀ l : List Nat, (si (-(b : Int)) l).natAbs ≤ sa b l := fun l => by
    induction l with
    | nil => simp [si]
    | cons i l ih =>
      show (fI ((i : Int) + -(b : Int)) + si (-(b : Int)) l).natAbs ≤ fb ((i : Int) - (b : Int)).natAbs + sa b l
      have := fI_abs ((i : Int) - (b : Int))
      rw [show (i : Int) + -(b : Int) = (i : Int) - (b : Int) by omega]
      omega
  have := this (zk n)
  omega
end Go.Proofs.Ytobmcofkcfifkaa.T

/- Take, by the program and by the reference. -/
open Go.Vm
set_option linter.unusedVariables false
namespace Go.Proofs.Ytobmcofkcfifkaa.T
open Go

section
variable {ro : List ABlk} {h : Heap}
theorem inR_nat {n : Int} (hr : inR n) : ∃ k : Nat, n = (k : Int) ∧ k ≤ big := by
  obtain ⟨k, rfl⟩ := Int.eq_ofNat_of_zero_le hr.1
  have := hr.2
  exact ⟨k, rfl, by have : big = 1152921504606846976 := rfl; omega⟩
theorem nat_inR {k : Nat} (h : k ≤ big) : inR (k : Int) := ⟨by omega, by have : big = 1152921504606846976 := rfl; omega⟩
/-- two results -/
def ret2 (p : Int × Int) : AVal := .tup [.i .i64 p.1, .i .i64 p.2]
def ret3 (p : Int × Int × Int) : AVal := .tup [.i .i64 p.1, .i .i64 p.2.1, .i .i64 p.2.2]
theorem r20 (p : Int × Int) : evP .e (.ext 0 (.c (ret2 p))) = some (.i .i64 p.1) := x0 _ _
theorem r21 (p : Int × Int) : evP .e (.ext 1 (.c (ret2 p))) = some (.i .i64 p.2) := x1 _ _ _
theorem r30 (p : Int × Int × Int) : evP .e (.ext 0 (.c (ret3 p))) = some (.i .i64 p.1) := x0 _ _
theorem r31 (p : Int × Int × Int) : evP .e (.ext 1 (.c (ret3 p))) = some (.i .i64 p.2.1) := x1 _ _ _
theorem r32 (p : Int × Int × Int) : evP .e (.ext 2 (.c (ret3 p))) = some (.i .i64 p.2.2) := x2 _ _ _ _
theorem fb_lp {n : Nat} (hn : n ≤ big) (h0 : 0 < n) : pF (lp n : Int) = (fb (lp n) : Int) ∧ rF (lp n : Int) = (fb (lp n) : Int) := by
  have := lp_bd hn h0
  exact ⟨pF_low this.2, rF_low (by omega)⟩

/- Take -/
end
theorem exC {ro : List ABlk} {k : Nat} {l : List AVal} {h : Heap} {n m : Nat} {H : Heap} (e : callX F1 ro k l h = some (.b true, H, n, m)) : ∃ h' lw lp, callX F1 ro k l h = some (.b true, h', lw, lp) := ⟨_, _, _, e⟩
end Go.Proofs.Ytobmcofkcfifkaa.T

/- Shift, by the program and by the reference. -/
open Go.Vm
set_option linter.unusedVariables false
namespace Go.Proofs.Ytobmcofkcfifkaa.T
open Go

theorem take_one {l : List Nat} {j : Nat} (hj : j < l.length) : l.take (j + 1) = l.take j ++ [l.getD j 0] := by
  rw [List.take_succ_eq_append_getElem hj]; simp [List.getD, hj]
/- Shift -/
section
variable {ro : List ABlk} {h : Heap}
end
end Go.Proofs.Ytobmcofkcfifkaa.T

/- Circle, by the program and by the reference; the law of circles. -/
open Go.Vm
set_option linter.unusedVariables false
namespace Go.Proofs.Ytobmcofkcfifkaa.T
open Go

/- Circle -/
section
variable {ro : List ABlk} {h : Heap}
end
end Go.Proofs.Ytobmcofkcfifkaa.T

/- Array and Where, by the program and by the reference. -/
open Go.Vm
set_option linter.unusedVariables false
namespace Go.Proofs.Ytobmcofkcfifkaa.T
open Go

/- Array -/
def arrN (r c : Nat) : Nat := su (2 + c) (zk r) + fb (2 + c)
def arrV (r c : Int) : Int × Int := if ¬ (inR r ∧ inR c) then (0, 4) else if 1152921504606846976 < (arrN r.toNat c.toNat : Int) then (0, 4) else ((arrN r.toNat c.toNat : Int), 0)
section
variable {ro : List ABlk} {h : Heap}
theorem array41 {r c : Int} : callX F1 ro 41 [.i .i64 r, .i .i64 c] h = some (ret2 (arrV r c), h, h.length, h.length) := by
  refine g41_ok (meansX_ok F1 ro) rfl ?_
  obtain ⟨v, H, s1, s2, kp⟩ := two51 (ro := ro) (h := h) (x := r) (y := c) (Nat.le_refl _) (Nat.le_refl _)
  unfold g41
  simp only [s1, pS, mC, s2, bS, fB]
  unfold arrV
  by_cases hr : inR r ∧ inR c
  rotate_left
  · rw [dF hr, if_pos hr]
    simp only [nF, cT, tA2]
    exact fin_keep kp rfl
  rw [dT hr, if_neg (fun e => e hr)]
  simp only [nT, cF]
  obtain ⟨k, rfl, hk⟩ := inR_nat hr.1
  obtain ⟨m, rfl, hm⟩ := inR_nat hr.2
  have hbig : big = 1152921504606846976 := rfl
  have htm : tm = 1152921504606846977 := rfl
  have e1 : wr .i64 (2 + (m : Int)) = ((2 + m : Nat) : Int) := by rw [wr_id' (by omega) (by omega)]; omega
  have e2 : acc ((2 + m : Nat) : Int) (zk k) = ((min (su (2 + m) (zk k)) tm : Nat) : Int) := acc_nat _ _
  have e3 : pF ((2 + m : Nat) : Int) = ((min (fb (2 + m)) tm : Nat) : Int) := pF_nat _
  simp only [fI', e1, cp (shifted63 (ro := ro) (h := H) hk (b := ((2 + m : Nat) : Int)) (by omega) (by omega)) kp.1 kp.1, pS, iS, cp (fib71 (ro := ro) (h := H) (i := ((2 + m : Nat) : Int)) (by omega) (by omega)) kp.1 kp.1, e2, e3, Int.toNat_natCast]
  have e4 : wr .i64 (((min (su (2 + m) (zk k)) tm : Nat) : Int) + ((min (fb (2 + m)) tm : Nat) : Int)) = ((min (su (2 + m) (zk k)) tm + min (fb (2 + m)) tm : Nat) : Int) := by rw [wr_id' (by omega) (by omega)]; omega
  have ea : arrN k m = su (2 + m) (zk k) + fb (2 + m) := rfl
  rw [e4, ea]
  by_cases hs : 1152921504606846976 < ((su (2 + m) (zk k) + fb (2 + m) : Nat) : Int)
  · rw [ltT (by omega), if_pos hs]
    simp only [cT, tA2]
    exact fin_keep kp rfl
  · rw [ltF (by omega), if_neg hs, Nat.min_eq_left (by omega), Nat.min_eq_left (by omega)]
    simp only [cF, tA2]
    exact fin_keep kp rfl
end
/- Where -/
theorem Zk.pre : ∀ {l : List Nat} {t : Nat} (j : Nat), Zk t l → Zk t (l.take j)
  | [], t, j, _ => by rw [List.take_nil]; trivial
  | i :: l, t, 0, _ => trivial
  | i :: l, t, j + 1, ⟨h1, h2, h3⟩ => ⟨h1, h2, Zk.pre j h3⟩
theorem Zk.snoc : ∀ {l : List Nat} {t x i : Nat}, Zk t (l ++ [x]) → i ∈ l → x + 2 ≤ i
  | [], _, _, _, _, h => by simp at h
  | a :: l, t, x, i, ⟨h1, h2, h3⟩, hm => by
    rcases List.mem_cons.1 hm with rfl | hm
    · have := h3.mem (i := x) (by simp)
      omega
    · exact Zk.snoc h3 hm
theorem sm_app : ∀ l m : List Nat, sm (l ++ m) = sm l + sm m
  | [], m => by simp [sm]
  | i :: l, m => by
    show fb i + sm (l ++ m) = fb i + sm l + sm m
    rw [sm_app l m]; omega
theorem zk_last {n : Nat} (hn : n ≤ big) (h0 : 0 < n) : zk n = (zk n).take ((zk n).length - 1) ++ [lp n] := by
  have hpos : 0 < (zk n).length := List.length_pos_iff.2 (zk_ne hn h0)
  have h := take_one (l := zk n) (j := (zk n).length - 1) (by omega)
  rw [show (zk n).length - 1 + 1 = (zk n).length by omega, List.take_length] at h
  exact h
/-- what is left without the least part -/
theorem zk_less {n : Nat} (hn : n ≤ big) (h0 : 0 < n) : fb (lp n) ≤ n ∧ zk (n - fb (lp n)) = (zk n).take ((zk n).length - 1) := by
  obtain ⟨h1, h2⟩ := zk_ok hn
  have h3 := congrArg sm (zk_last hn h0)
  rw [sm_app, h2] at h3
  have h4 : sm [lp n] = fb (lp n) := rfl
  have h5 := zk_uniq (Zk.pre ((zk n).length - 1) h1)
  refine ⟨by omega, ?_⟩
  rw [show n - fb (lp n) = sm ((zk n).take ((zk n).length - 1)) by omega, h5]
def whereV (n : Int) : Int × Int × Int := if ¬ inR n then (0, 0, 4) else if n = 0 then (0, 0, 2) else (si (-(lp n.toNat : Int)) (zk (n.toNat - fb (lp n.toNat))), ((lp n.toNat - 2 : Nat) : Int), 0)
section
variable {ro : List ABlk} {h : Heap}
theorem where43 {n : Int} : callX F1 ro 43 [.i .i64 n] h = some (ret3 (whereV n), h, h.length, h.length) := by
  refine g43_ok (meansX_ok F1 ro) rfl ?_
  obtain ⟨v, H, s1, s2, kp⟩ := one51 (ro := ro) (h := h) (x := n) (Nat.le_refl _) (Nat.le_refl _)
  unfold g43
  simp only [s1, pS, mC, s2, bS, fB]
  unfold whereV
  by_cases hr : inR n
  rotate_left
  · rw [dF hr, if_pos hr]
    simp only [nF, cT, tA3]
    exact fin_keep kp rfl
  rw [dT hr, if_neg (fun e => e hr)]
  simp only [nT, cF]
  obtain ⟨k, rfl, hk⟩ := inR_nat hr
  rcases Nat.eq_zero_or_pos k with rfl | h0
  · have e : eqI ((0 : Nat) : Int) 0 = true := rfl
    simp only [e, cT, if_pos (show ((0 : Nat) : Int) = 0 from rfl), tA3]
    exact fin_keep kp rfl
  have hbig : big = 1152921504606846976 := rfl
  obtain ⟨l1, l2⟩ := lp_bd hk h0
  obtain ⟨z1, z2⟩ := zk_less hk h0
  have hle : k - fb (lp k) ≤ big := by omega
  obtain ⟨a1, a2⟩ := acc_neg hle (b := lp k) (by omega) l2
  have e1 : wr .i64 ((k : Int) - (fb (lp k) : Int)) = ((k - fb (lp k) : Nat) : Int) := by rw [wr_id' (by omega) (by omega)]; omega
  have e2 : wr .i64 (0 - (lp k : Int)) = -(lp k : Int) := by rw [wr_id' (by omega) (by omega)]; omega
  have e3 : wr .i64 ((lp k : Int) - 2) = ((lp k - 2 : Nat) : Int) := by rw [wr_id' (by omega) (by omega)]; omega
  simp only [eqI_ne (show (k : Int) ≠ 0 by omega), cF, if_neg (show ¬ (k : Int) = 0 by omega), cp (least72 (ro := ro) (h := H) hk h0) kp.1 kp.1, pS, iS, cp (fib71 (ro := ro) (h := H) (i := (lp k : Int)) (by omega) (by omega)) kp.1 kp.1, (fb_lp hk h0).1, Int.toNat_natCast, fI', e1, e2]
  have hmem : ∀ i ∈ zk (k - fb (lp k)), -78 ≤ (i : Int) + -(lp k : Int) := fun i hi => by
    rw [z2] at hi
    have hz := (zk_ok hk).1
    rw [zk_last hk h0] at hz
    have := hz.snoc hi
    omega
  simp only [cp (shiftedG (ro := ro) (h := H) hle (b := -(lp k : Int)) hmem (by omega) (by omega)) kp.1 kp.1, pS, iS, e3, a1, tA3]
  exact fin_keep kp rfl
end
end Go.Proofs.Ytobmcofkcfifkaa.T

/- The product of numbers by their parts: Knuth's theorem. -/
open Go.Vm
set_option linter.unusedVariables false
namespace Go.Proofs.Ytobmcofkcfifkaa.T
open Go

end Go.Proofs.Ytobmcofkcfifkaa.T

/- Numbers made smaller; Knuth's law. -/
open Go.Vm
set_option linter.unusedVariables false
namespace Go.Proofs.Ytobmcofkcfifkaa.T
open Go

section
variable {ro : List ABlk} {h : Heap}
theorem u64_pos {n : Int} (h : (Lit.int .u64 n).wf = true) : 0 ≤ n := by
  simp [Lit.wf] at h
  exact h.1
theorem u8_bd {n : Int} (h : (Lit.int .u8 n).wf = true) : 0 ≤ n ∧ n ≤ 255 := by
  simp [Lit.wf] at h
  exact ⟨h.1, h.2⟩
/-- a number made smaller -/
theorem small47 {n : Int} (h0 : 0 ≤ n) : ∃ k : Nat, k < 33554432 ∧ ∀ H, callX F1 ro 47 [.i .u64 n] H = some (.i .i64 (k : Int), H, H.length, H.length) := by
  obtain ⟨m, rfl⟩ := Int.eq_ofNat_of_zero_le h0
  refine ⟨m % 33554432, Nat.mod_lt _ (by decide), fun H => g47_ok (meansX_ok F1 ro) rfl ?_⟩
  unfold g47
  have e : Int.tmod (m : Int) 33554432 = ((m % 33554432 : Nat) : Int) := rfl
  have h1 : m % 33554432 < 33554432 := Nat.mod_lt _ (by decide)
  simp only [fI', e, lt64 (show m % 33554432 ≤ 9223372036854775807 by omega), tA]
  exact fin_pure rfl
theorem number45 {n : Int} (h0 : 0 ≤ n) : ∃ k : Nat, k ≤ big ∧ ∀ H, callX F1 ro 45 [.i .u64 n] H = some (.i .i64 (k : Int), H, H.length, H.length) := by
  obtain ⟨m, rfl⟩ := Int.eq_ofNat_of_zero_le h0
  have h1 : m % 1152921504606846977 < 1152921504606846977 := Nat.mod_lt _ (by decide)
  refine ⟨m % 1152921504606846977, by have : big = 1152921504606846976 := rfl; omega, fun H => g45_ok (meansX_ok F1 ro) rfl ?_⟩
  unfold g45
  have e : Int.tmod (m : Int) 1152921504606846977 = ((m % 1152921504606846977 : Nat) : Int) := rfl
  simp only [fI', e, lt64 (show m % 1152921504606846977 ≤ 9223372036854775807 by omega), tA]
  exact fin_pure rfl
end
end Go.Proofs.Ytobmcofkcfifkaa.T

/- Blocks of bytes; copies; zeros as many as one likes. -/
open Go.Vm
set_option linter.unusedVariables false
namespace Go.Proofs.Ytobmcofkcfifkaa.T
open Go

/-- a block of values, no more to it -/
def HB (hp : Heap) (b : Nat) (vs : List AVal) : Prop := ∃ blk, lget hp b = some (some blk) ∧ blk.g = none ∧ blk.n = vs.length ∧ ∀ j, j < vs.length → blk.c.get j = vs.getD j und
theorem HB.holds {hp : Heap} {b : Nat} {vs : List AVal} (a : HB hp b vs) : Holds hp b vs := by
  obtain ⟨blk, h1, -, h2, h3⟩ := a
  exact ⟨blk, h1, h2, h3⟩
theorem HB.lt {hp : Heap} {b : Nat} {vs : List AVal} (a : HB hp b vs) : b < hp.length := a.holds.lt
theorem HB.keep {hp hp' : Heap} {b : Nat} {vs : List AVal} (a : HB hp b vs) (hk : hp'[b]? = hp[b]?) : HB hp' b vs := by
  obtain ⟨blk, h1, h2⟩ := a
  exact ⟨blk, by rw [lget_of hk]; exact h1, h2⟩
theorem getD_map_range {α : Type} (f : Nat → α) (d : α) {n j : Nat} (hj : j < n) : ((List.range n).map f).getD j d = f j := by
  simp [List.getD, hj]
theorem wrH_off {hp : Heap} {b off : Nat} {blk : ABlk} {vs : List AVal} (hb : lget hp b = some (some blk)) (hn : off + vs.length ≤ blk.n) (ho : ones vs = true) : wrH hp ⟨false, b, off⟩ vs = some (hp.set b (some { blk with c := blk.c.splice off vs })) := by
  have : (Nat.ble (off + vs.length) blk.n && ones vs) = true := by rw [ho, Bool.and_true, Nat.ble_eq]; omega
  simp only [wrH, cond_false, hb, this, cond_true, lset_eq]
/-- values in the middle of a block -/
theorem HB.wr {hp : Heap} {b off n : Nat} {f g : Nat → AVal} {vs : List AVal} (a : HB hp b ((List.range n).map f)) (hn : off + vs.length ≤ n) (ho : ones vs = true) (hg : ∀ j, j < n → g j = if off ≤ j ∧ j < off + vs.length then vs.getD (j - off) und else f j) :
    ∃ hp', wrH hp ⟨false, b, off⟩ vs = some hp' ∧ HB hp' b ((List.range n).map g) ∧ hp'.length = hp.length ∧ ∀ i, i ≠ b → hp'[i]? = hp[i]? := by
  obtain ⟨blk, h1, h2, h3, h4⟩ := a
  have hl : ∀ k : Nat → AVal, ((List.range n).map k).length = n := fun k => by simp
  rw [hl] at h3 h4
  refine ⟨_, wrH_off h1 (by omega) ho, ⟨_, lget_set h1 _, h2, ?_, fun j hj => ?_⟩, by simp, fun i hi => List.getElem?_set_ne (Ne.symm hi)⟩
  · rw [hl]; exact h3
  · rw [hl] at hj
    rw [getD_map_range g und hj, hg j hj]
    show (blk.c.splice off vs).get j = _
    rw [spliceGet]
    split
    · rfl
    · rw [h4 j hj, getD_map_range f und hj]
section
variable {ro : List ABlk} {h : Heap}
end
end Go.Proofs.Ytobmcofkcfifkaa.T

/- The program's word of a number. -/
open Go.Vm
set_option linter.unusedVariables false
namespace Go.Proofs.Ytobmcofkcfifkaa.T
open Go

/-- the digits of a number whose greatest part has the index f -/
def dg (l : List Nat) (i : Nat) : UInt8 := if i ∈ l then 49 else 48
def wd (f : Nat) (l : List Nat) : List UInt8 := (List.range (f - 1)).map fun p => dg l (f - p)
def word (n : Nat) : List UInt8 := if n = 0 then [48] else wd ((zk n).getD 0 0) (zk n)
section
variable {ro : List ABlk} {h : Heap}
end
end Go.Proofs.Ytobmcofkcfifkaa.T

/- Write; words of shifted numbers. -/
open Go.Vm
set_option linter.unusedVariables false
namespace Go.Proofs.Ytobmcofkcfifkaa.T
open Go

section
variable {ro : List ABlk} {h : Heap}
end
/- shifted lists -/
theorem Zk.up (a : Nat) : ∀ {l : List Nat} {t : Nat}, Zk t l → Zk (t + a) (l.map (· + a))
  | [], _, _ => trivial
  | i :: l, t, ⟨h1, h2, h3⟩ => by
    have := Zk.up a h3
    rw [show i - 1 + a = i + a - 1 by omega] at this
    refine ⟨?_, ?_, this⟩
    · show 2 ≤ i + a; omega
    · show i + a < t + a; omega
theorem sm_up (a : Nat) : ∀ l : List Nat, sm (l.map (· + a)) = su a l
  | [] => rfl
  | i :: l => by show fb (i + a) + sm _ = fb (i + a) + su a l; rw [sm_up a l]
theorem si_dn (a : Nat) : ∀ l : List Nat, si (-(a : Int)) (l.map (· + a)) = (sm l : Int)
  | [] => rfl
  | i :: l => by
    show fI (((i + a : Nat) : Int) + -(a : Int)) + si (-(a : Int)) (l.map (· + a)) = ((fb i + sm l : Nat) : Int)
    rw [si_dn a l, show ((i + a : Nat) : Int) + -(a : Int) = (i : Int) by omega, fI_nat]; omega
end Go.Proofs.Ytobmcofkcfifkaa.T

/- The law of shifts. -/
open Go.Vm
set_option linter.unusedVariables false
namespace Go.Proofs.Ytobmcofkcfifkaa.T
open Go

section
variable {ro : List ABlk} {h : Heap}
end
end Go.Proofs.Ytobmcofkcfifkaa.T

/- The law of the array. -/
open Go.Vm
set_option linter.unusedVariables false
namespace Go.Proofs.Ytobmcofkcfifkaa.T
open Go

/-- the last part of a number in the array -/
theorem arr_list {r c : Nat} (hr : r ≤ big) : Zk (91 + c) ((zk r).map (· + (2 + c)) ++ [2 + c]) ∧ sm ((zk r).map (· + (2 + c)) ++ [2 + c]) = arrN r c := by
  constructor
  · have h1 := (zk_ok hr).1
    have key : ∀ (l : List Nat) (t : Nat), 1 ≤ t → Zk t l → Zk (t + (2 + c)) (l.map (· + (2 + c)) ++ [2 + c]) := by
      intro l
      induction l with
      | nil => intro t ht _; refine ⟨?_, ?_, trivial⟩ <;> omega
      | cons i l ih =>
        intro t ht hz
        obtain ⟨h1, h2, h3⟩ := hz
        have := ih (i - 1) (by omega) h3
        rw [show i - 1 + (2 + c) = i + (2 + c) - 1 by omega] at this
        refine ⟨?_, ?_, this⟩
        · show 2 ≤ i + (2 + c); omega
        · show i + (2 + c) < t + (2 + c); omega
    have := key (zk r) 89 (by omega) h1
    rw [show 89 + (2 + c) = 91 + c by omega] at this
    exact this
  · rw [sm_app, sm_up]; rfl
theorem arr_zk {r c : Nat} (hr : r ≤ big) (ha : arrN r c ≤ big) : zk (arrN r c) = (zk r).map (· + (2 + c)) ++ [2 + c] := by
  obtain ⟨h1, h2⟩ := arr_list (c := c) hr
  have h3 := gz_uniq (90 + c) (l := (zk r).map (· + (2 + c)) ++ [2 + c]) (by rw [show 90 + c + 1 = 91 + c by omega]; exact h1)
  have hbig : big = 1152921504606846976 := rfl
  rw [h2, gz_big (t := 88) (by rw [fb89]; omega) (by omega)] at h3
  exact h3
theorem su_arr (r c : Nat) : arrN r (c + 2) = arrN r c + arrN r (c + 1) := by
  have : ∀ l : List Nat, su (2 + (c + 2)) l = su (2 + c) l + su (2 + (c + 1)) l := fun l => by
    induction l with
    | nil => rfl
    | cons i l ih =>
      show fb (i + (2 + (c + 2))) + su (2 + (c + 2)) l = (fb (i + (2 + c)) + su (2 + c) l) + (fb (i + (2 + (c + 1))) + su (2 + (c + 1)) l)
      have e : fb (i + (2 + (c + 2))) = fb (i + (2 + c)) + fb (i + (2 + (c + 1))) := rfl
      rw [ih, e]; omega
  unfold arrN
  rw [this]
  have e : fb (2 + (c + 2)) = fb (2 + c) + fb (2 + (c + 1)) := rfl
  rw [e]; omega
theorem arr_mono (r c : Nat) : arrN r c ≤ arrN r (c + 1) := by
  have : ∀ l : List Nat, su (2 + c) l ≤ su (2 + (c + 1)) l := fun l => by
    induction l with
    | nil => exact Nat.le_refl _
    | cons i l ih =>
      show fb (i + (2 + c)) + su (2 + c) l ≤ fb (i + (2 + (c + 1))) + su (2 + (c + 1)) l
      have := fb_le (show i + (2 + c) ≤ i + (2 + (c + 1)) by omega)
      omega
  unfold arrN
  have h1 := this (zk r)
  have := fb_le (show 2 + c ≤ 2 + (c + 1) by omega)
  omega
theorem arr_pos (r c : Nat) : 0 < arrN r c := by
  unfold arrN
  have := fb_pos (1 + c)
  rw [show 1 + c + 1 = 2 + c by omega] at this
  omega
/-- a list lower by b, all of it from b + 2 on -/
theorem low_list {b : Nat} : ∀ {l : List Nat} {t : Nat}, Zk t l → (∀ i ∈ l, b + 2 ≤ i) → Zk t (l.map (· - b)) ∧ (l.map (· - b)).map (· + b) = l
  | [], _, _, _ => ⟨trivial, rfl⟩
  | i :: l, t, ⟨h1, h2, h3⟩, hm => by
    have hi := hm i (by simp)
    have key : Zk (i - b - 1) (l.map (· - b)) ∧ (l.map (· - b)).map (· + b) = l := by
      have h4 := low_list (b := b) h3 fun x hx => hm x (by simp [hx])
      refine ⟨?_, h4.2⟩
      cases l with
      | nil => trivial
      | cons x l =>
        obtain ⟨g1, g2, g3⟩ := h4.1
        obtain ⟨k1, k2, k3⟩ := h3
        have := hm x (by simp)
        refine ⟨g1, ?_, g3⟩
        show x - b < i - b - 1
        omega
    refine ⟨⟨?_, ?_, key.1⟩, ?_⟩
    · show 2 ≤ i - b; omega
    · show i - b < t; omega
    · show (i - b + b) :: (l.map (· - b)).map (· + b) = i :: l
      rw [key.2, show i - b + b = i by omega]
/-- the place of a number -/
theorem where_ok {n : Nat} (hn : n ≤ big) (h0 : 0 < n) : ∃ r, r ≤ big ∧ r ≤ n ∧ si (-(lp n : Int)) (zk (n - fb (lp n))) = (r : Int) ∧ arrN r (lp n - 2) = n := by
  obtain ⟨l1, l2⟩ := lp_bd hn h0
  obtain ⟨z1, z2⟩ := zk_less hn h0
  have hle : n - fb (lp n) ≤ big := by omega
  obtain ⟨h1, h2⟩ := zk_ok hle
  have hz := (zk_ok hn).1
  rw [zk_last hn h0] at hz
  have hm : ∀ i ∈ zk (n - fb (lp n)), lp n + 2 ≤ i := fun i hi => by
    rw [z2] at hi
    exact hz.snoc hi
  obtain ⟨h3, h4⟩ := low_list h1 hm
  obtain ⟨l, hl⟩ : ∃ l, l = (zk (n - fb (lp n))).map (· - lp n) := ⟨_, rfl⟩
  rw [← hl] at h3 h4
  have h5 : sm l ≤ su (lp n) l := by
    clear h3 h4 hl
    induction l with
    | nil => exact Nat.le_refl _
    | cons i l ih =>
      show fb i + sm l ≤ fb (i + lp n) + su (lp n) l
      have := fb_le (show i ≤ i + lp n by omega)
      omega
  have h6 : su (lp n) l = n - fb (lp n) := by rw [← sm_up, h4, h2]
  refine ⟨sm l, by omega, by omega, ?_, ?_⟩
  · rw [← h4, si_dn]
  · have hzl := zk_uniq h3
    unfold arrN
    rw [hzl, show 2 + (lp n - 2) = lp n by omega, h6]; omega
theorem lp_of {n : Nat} {l : List Nat} {x : Nat} (h : zk n = l ++ [x]) : lp n = x := by
  unfold lp
  rw [h]
  simp [List.getD]
section
variable {ro : List ABlk} {h : Heap}
theorem arrV_ok {r c : Nat} (hr : r ≤ big) (hc : c ≤ big) (ha : arrN r c ≤ big) : arrV (r : Int) (c : Int) = ((arrN r c : Int), 0) := by
  have hbig : big = 1152921504606846976 := rfl
  unfold arrV
  rw [if_neg (fun e => e ⟨nat_inR hr, nat_inR hc⟩), Int.toNat_natCast, Int.toNat_natCast, if_neg (by omega)]
theorem arrV_no {r c : Nat} (hr : r ≤ big) (hc : c ≤ big) (ha : ¬ arrN r c ≤ big) : arrV (r : Int) (c : Int) = (0, 4) := by
  have hbig : big = 1152921504606846976 := rfl
  unfold arrV
  rw [if_neg (fun e => e ⟨nat_inR hr, nat_inR hc⟩), Int.toNat_natCast, Int.toNat_natCast, if_pos (by omega)]
theorem whereV_zero : whereV 0 = (0, 0, 2) := by
  unfold whereV
  rw [if_neg (fun e => e ⟨by omega, by omega⟩), if_pos rfl]
theorem whereV_ok {n : Nat} (hn : n ≤ big) (h0 : 0 < n) {r : Nat} (hr : si (-(lp n : Int)) (zk (n - fb (lp n))) = (r : Int)) : whereV (n : Int) = ((r : Int), ((lp n - 2 : Nat) : Int), 0) := by
  unfold whereV
  rw [if_neg (fun e => e (nat_inR hn)), if_neg (by omega), Int.toNat_natCast, hr]
/-- Where of what Array says -/
theorem where_arr {r c : Nat} (hr : r ≤ big) (ha : arrN r c ≤ big) : whereV ((arrN r c : Nat) : Int) = ((r : Int), (c : Int), 0) := by
  have hz := arr_zk hr ha
  have hl := lp_of hz
  have h0 := arr_pos r c
  obtain ⟨z1, z2⟩ := zk_less ha h0
  have e1 : zk (arrN r c - fb (lp (arrN r c))) = (zk r).map (· + (2 + c)) := by rw [z2, hz]; simp
  have e2 : si (-(lp (arrN r c) : Int)) (zk (arrN r c - fb (lp (arrN r c)))) = (r : Int) := by rw [e1, hl, si_dn, (zk_ok hr).2]
  rw [whereV_ok ha h0 e2, hl, show 2 + c - 2 = c by omega]
theorem law15 {n r c : Int} (hn : 0 ≤ n) (hr : 0 ≤ r) (hc : 0 ≤ c) : callX F1 ro 15 [.i .u64 n, .i .u64 r, .i .u8 c] h = some (.b true, h, h.length, h.length) := by
  obtain ⟨x, hx, cx⟩ := number45 (ro := ro) hn
  obtain ⟨p, hp, cp'⟩ := small47 (ro := ro) hr
  obtain ⟨c0, rfl⟩ := Int.eq_ofNat_of_zero_le hc
  have hbig : big = 1152921504606846976 := rfl
  have e1 : Int.tmod (c0 : Int) 40 = ((c0 % 40 : Nat) : Int) := rfl
  obtain ⟨q, hq⟩ : ∃ q, q = c0 % 40 := ⟨_, rfl⟩
  have hq1 : q < 40 := by rw [hq]; exact Nat.mod_lt _ (by decide)
  rw [← hq] at e1
  have bp : p ≤ big := by omega
  refine g15_ok (meansX_ok F1 ro) rfl ?_
  unfold g15
  have e2 : wr .i64 ((q : Int) + 1) = ((q + 1 : Nat) : Int) := wr_next (by omega)
  have e3 : wr .i64 ((q : Int) + 2) = ((q + 2 : Nat) : Int) := by rw [wr_id' (by omega) (by omega)]; omega
  have hrec := su_arr p q
  have hal := alv (ro := ro) (H := h) (Nat.le_refl h.length) (Nat.le_refl h.length)
  have hcase : (x = 0) ∨ (0 < x ∧ ∃ w : Nat, whereV (x : Int) = ((w : Int), ((lp x - 2 : Nat) : Int), 0) ∧ arrV (w : Int) ((lp x - 2 : Nat) : Int) = ((x : Int), 0)) := by
    rcases Nat.eq_zero_or_pos x with h0 | h0
    · exact .inl h0
    · obtain ⟨w, w1, w2, w3, w4⟩ := where_ok hx h0
      have l2 := (lp_bd hx h0).2
      refine .inr ⟨h0, w, whereV_ok hx h0 w3, ?_⟩
      have := arrV_ok w1 (show lp x - 2 ≤ big by omega) (by rw [w4]; exact hx)
      rw [w4] at this
      exact this
  have e0 : ((0 : Nat) : Int) = 0 := rfl
  have tail : (bindO (cond (!eqI (arrV (p : Int) (q : Int)).2 0) (some true) (some (!eqI (arrV (p : Int) ((q + 1 : Nat) : Int)).2 0))) fun c82 =>
      bindO (cond c82 (some true) (some (!eqI (arrV (p : Int) ((q + 2 : Nat) : Int)).2 0))) fun c86 =>
        cond c86 (
          bindO (cond (eqI (arrV (p : Int) (q : Int)).2 0) (some true) (some (eqI (arrV (p : Int) (q : Int)).2 4))) fun c92 =>
            bindO (cond c92 (
                bindO (cond (eqI (arrV (p : Int) ((q + 1 : Nat) : Int)).2 0) (some true) (some (eqI (arrV (p : Int) ((q + 1 : Nat) : Int)).2 4))) fun c43 => some c43) (some false)) fun c100 =>
              bindO (cond c100 (some (eqI (arrV (p : Int) ((q + 2 : Nat) : Int)).2 4)) (some false)) fun c104 =>
                bindO (cond c104 (
                    bindP (callM (callX F1 ro) ⟨h, h.length, h.length⟩ 18 []) fun v106 m_10 => asB v106 fun c106 => some (c106, m_10)) (some (false, (⟨h, h.length, h.length⟩ : Mm)))) fun x => finM h.length (tupA [AVal.b x.1]) x.2) (
          bindO (cond (eqI (arrV (p : Int) ((q + 2 : Nat) : Int)).1 (wr IntKind.i64 ((arrV (p : Int) (q : Int)).1 + (arrV (p : Int) ((q + 1 : Nat) : Int)).1))) (
              some (eqI (whereV (arrV (p : Int) (q : Int)).1).2.2 0)) (some false)) fun c122 =>
            bindO (cond c122 (some (eqI (whereV (arrV (p : Int) (q : Int)).1).1 (p : Int))) (some false)) fun c127 =>
              bindO (cond c127 (some (eqI (whereV (arrV (p : Int) (q : Int)).1).2.1 (q : Int))) (some false)) fun c104 =>
                bindO (cond c104 (
                    bindP (callM (callX F1 ro) ⟨h, h.length, h.length⟩ 18 []) fun v106 m_10 => asB v106 fun c106 => some (c106, m_10)) (some (false, (⟨h, h.length, h.length⟩ : Mm)))) fun x => finM h.length (tupA [AVal.b x.1]) x.2)) = some (AVal.b true, h, h.length, h.length) := by
    have d4 : eqI 4 0 = false := eqI_ne (by decide)
    rcases Nat.lt_or_ge big (arrN p (q + 2)) with g | g
    · have g3 := arrV_no bp (show q + 2 ≤ big by omega) (by omega : ¬ arrN p (q + 2) ≤ big)
      rw [g3]
      rcases Nat.lt_or_ge big (arrN p (q + 1)) with g1 | g1
      · rw [arrV_no bp (show q + 1 ≤ big by omega) (by omega : ¬ arrN p (q + 1) ≤ big)]
        rcases Nat.lt_or_ge big (arrN p q) with g0 | g0
        · rw [arrV_no bp (show q ≤ big by omega) (by omega : ¬ arrN p q ≤ big)]
          simp only [d4, eqI_self, nF, nT, cT, cF, oS, hal, pS, bS, tA]
          exact fin_pure rfl
        · rw [arrV_ok bp (show q ≤ big by omega) g0]
          simp only [d4, eqI_self, nF, nT, cT, cF, oS, hal, pS, bS, tA]
          exact fin_pure rfl
      · rw [arrV_ok bp (show q + 1 ≤ big by omega) g1, arrV_ok bp (show q ≤ big by omega) (by have := su_arr p q; have h9 : arrN p q ≤ arrN p (q + 1) := arr_mono p q; omega)]
        simp only [d4, eqI_self, nF, nT, cT, cF, oS, hal, pS, bS, tA]
        exact fin_pure rfl
    · have g1 : arrN p (q + 1) ≤ big := by omega
      have g0 : arrN p q ≤ big := by omega
      have e5 : wr .i64 ((arrN p q : Int) + (arrN p (q + 1) : Int)) = (arrN p (q + 2) : Int) := by rw [wr_id' (by omega) (by omega)]; omega
      rw [arrV_ok bp (show q ≤ big by omega) g0, arrV_ok bp (show q + 1 ≤ big by omega) g1, arrV_ok bp (show q + 2 ≤ big by omega) g]
      simp only [eqI_self, nT, cT, cF, oS, e5, where_arr bp g0, hal, pS, bS, tA]
      exact fin_pure rfl
  rcases hcase with rfl | ⟨h0, w, w1, w2⟩
  · simp only [mC, cp0 (cx h), pS, iS, cp0 (where43 (ro := ro) (h := h)), r30, r31, r32, oS, fB, e0, whereV_zero, ltF (Int.lt_irrefl 0), cF, eqI_self, nT, cp0 (cp' h), fI', e1, lt64 (show q ≤ 9223372036854775807 by omega), e2, e3, cp0 (array41 (ro := ro) (h := h)), r20, r21]
    exact tail
  · simp only [mC, cp0 (cx h), pS, iS, cp0 (where43 (ro := ro) (h := h)), r30, r31, r32, oS, fB, w1, w2, ltT (show (0 : Int) < (x : Int) by omega), cT, cF, eqI_self, nT, cp0 (cp' h), fI', e1, lt64 (show q ≤ 9223372036854775807 by omega), e2, e3, cp0 (array41 (ro := ro) (h := h)), r20, r21]
    exact tail
end
end Go.Proofs.Ytobmcofkcfifkaa.T

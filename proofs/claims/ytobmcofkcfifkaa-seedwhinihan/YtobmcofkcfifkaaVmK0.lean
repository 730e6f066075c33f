/- Contracts of the functions: what each of them answers. -/
import Derived.Test.YtobmcofkcfifkaaVmGa0
import Derived.Test.YtobmcofkcfifkaaVmFO
import Derived.Test.YtobmcofkcfifkaaVmGt
import Derived.Test.YtobmcofkcfifkaaVmAE
import Derived.Test.YtobmcofkcfifkaaVmAF
import Derived.Test.YtobmcofkcfifkaaRows
import Derived.WalkKit
import Derived.ProofKit
import Derived.OpenShut
import Derived.Carry
import Derived.Deep.Slices
/- From the small machine to the statement: lists of numbers and lists of such lists, in memory that is only read. -/
open Go.Vm
set_option linter.unusedVariables false
namespace Go.Proofs.Ytobmcofkcfifkaa.T
open Go Go.RowKit Go.Deep Go.WideShapes Go.ChangeShapes

abbrev F1 : Tab := ⟨F, known0 18 (.b true)⟩
theorem own : ownKnob Try.prog.godebug = none := by kernel_rfl

section
variable {H : Type} {enc : TypeId × Value → H} {W : World} {v0 : Value} {d : DataW H} {p : List MemPlace}
end

theorem env_ok {W : World} {ro : List ABlk} {rl : Rl} (h : ∀ (i : Nat) (b : ABlk), ro[i]? = some b → ∃ x, rl[i]? = some x ∧ ∀ j, j < b.n → x.block < W.heap.size ∧ ∃ v', W.cell? (x.add j) = some v' ∧ VR rl [] (b.c.get j) v') :
    (Env.mk Try.prog W.heap.size W ro rl).Ok := ⟨fun i b hb => h i b hb, Nat.le_refl _⟩
/-- what lies in the read-only blocks; more may come behind -/
def RoP (W : World) (ro : List ABlk) (rl : Rl) : Prop := ∀ (i : Nat) (b : ABlk), ro[i]? = some b → ∃ x, rl[i]? = some x ∧ ∀ j, j < b.n → x.block < W.heap.size ∧ ∃ v', W.cell? (x.add j) = some v' ∧ ∀ y, VR (rl ++ y) [] (b.c.get j) v'
theorem RoP.nil (W : World) : RoP W [] [] := fun i b hb => by simp at hb
theorem RoP.snoc {W : World} {ro ro' : List ABlk} {rl rl' : Rl} (hl : ro.length = rl.length) (h : RoP W ro rl)
    (h' : ∀ (i : Nat) (b : ABlk), ro'[i]? = some b → ∃ x, rl'[i]? = some x ∧ ∀ j, j < b.n → x.block < W.heap.size ∧ ∃ v', W.cell? (x.add j) = some v' ∧ ∀ y, VR y [] (b.c.get j) v') : RoP W (ro ++ ro') (rl ++ rl') := by
  intro i b hb
  rcases Nat.lt_or_ge i ro.length with hi | hi
  · rw [List.getElem?_append_left hi] at hb
    obtain ⟨x, h1, h2⟩ := h i b hb
    refine ⟨x, by rw [List.getElem?_append_left (by omega)]; exact h1, fun j hj => ?_⟩
    obtain ⟨h3, v', h4, h5⟩ := h2 j hj
    exact ⟨h3, v', h4, fun y => by rw [List.append_assoc]; exact h5 _⟩
  · rw [List.getElem?_append_right hi] at hb
    obtain ⟨x, h1, h2⟩ := h' _ b hb
    refine ⟨x, by rw [List.getElem?_append_right (by omega), ← hl]; exact h1, fun j hj => ?_⟩
    obtain ⟨h3, v', h4, h5⟩ := h2 j hj
    exact ⟨h3, v', h4, fun y => h5 _⟩

/-- the call of the model: true, and below nothing has turned -/
theorem call_of {W : World} {ro : List ABlk} {rl : Rl} (hE : (Env.mk Try.prog W.heap.size W ro rl).Ok) {K : Nat} {vs : List AVal} {args : Array Value}
    (hv : LR rl [] vs args) {h' : Heap} {lw lp : Nat} (hc : callX F1 ro K vs [] = some (.b true, h', lw, lp)) : Calls Try.prog K args W fun e W' => e = .returned (.bool true) ∧ Below W.heap.size W W' := by
  have hm : (Env.mk Try.prog W.heap.size W ro rl).P.follows .mixedOrders = true := Try.checked.mixed
  have hO : CallOk (Env.mk Try.prog W.heap.size W ro rl) (known0 18 (.b true)) := known0_of hE hm fok alive0 rfl
  obtain ⟨-, h2⟩ := callX_sound hE hm (F := F1) fok hO K vs [] _ _ _ _ hc
  refine Calls.mono (h2 [] W args ⟨Below.refl _ _, rfl, by simp, fun i b r K hl => by simp [Live] at hl, fun i j b b' r K K' hl => by simp [Live] at hl⟩ hv) fun e w' hq => ?_
  obtain ⟨v', rfl, m', hvr, T⟩ := hq
  exact ⟨by rw [hvr.inv_b], T.hr.below⟩
theorem alive_pure {ro : List ABlk} {h : Heap} : callX F1 ro 18 [] h = some (.b true, h, h.length, h.length) := callX_ov rfl
end Go.Proofs.Ytobmcofkcfifkaa.T

/- Blocks that a function makes for itself; loops whose state is known. -/
open Go.Vm
set_option linter.unusedVariables false
namespace Go.Proofs.Ytobmcofkcfifkaa.T
open Go

/-- a block of the heap that holds these values -/
def Holds (hp : Heap) (b : Nat) (vs : List AVal) : Prop := ∃ blk : ABlk, lget hp b = some (some blk) ∧ blk.n = vs.length ∧ ∀ j, j < vs.length → blk.c.get j = vs.getD j und
/-- what was there is still there -/
def Keep (h hp : Heap) : Prop := h.length ≤ hp.length ∧ ∀ i, i < h.length → hp[i]? = h[i]?

section
variable {ro : List ABlk} {h hp hp' : Heap} {b k e n l p : Nat} {vs : List AVal}
theorem Keep.refl (h : Heap) : Keep h h := ⟨Nat.le_refl _, fun _ _ => rfl⟩
theorem Keep.trans {h1 : Heap} (a : Keep h h1) (c : Keep h1 hp) : Keep h hp := ⟨Nat.le_trans a.1 c.1, fun i hi => by rw [c.2 i (by have := a.1; omega), a.2 i hi]⟩
theorem Keep.app (x : Heap) : Keep h (h ++ x) := ⟨by simp, fun i hi => List.getElem?_append_left hi⟩
theorem Keep.set (a : Keep h hp) (hb : h.length ≤ b) (x : Option ABlk) : Keep h (hp.set b x) := ⟨by simpa using a.1, fun i hi => by rw [List.getElem?_set_ne (by omega)]; exact a.2 i hi⟩
theorem Keep.eq (a : Keep h hp) : hp.take h.length = h := by
  refine List.ext_getElem? fun i => ?_
  rcases Nat.lt_or_ge i h.length with hi | hi
  · rw [List.getElem?_take_of_lt hi, a.2 i hi]
  · rw [List.getElem?_eq_none (by simp; omega), List.getElem?_eq_none hi]
theorem fin_keep {v : AVal} (a : Keep h hp) (hv : v.bel h.length = true) : finM h.length v ⟨hp, h.length, h.length⟩ = some (v, h, h.length, h.length) := by
  rw [fin_take hv, a.eq]
theorem Holds.lt (a : Holds hp b vs) : b < hp.length := by obtain ⟨blk, h1, -⟩ := a; exact lget_lt h1
theorem Holds.new (hp : Heap) (e : Nat) (vs : List AVal) : Holds (hp ++ [some (blkOf e vs)]) hp.length vs := ⟨_, lget_last _ _, rfl, fun j _ => get_blk e vs j⟩
theorem Holds.keep (a : Holds hp b vs) (hk : hp'[b]? = hp[b]?) : Holds hp' b vs := by
  obtain ⟨blk, h1, h2⟩ := a
  exact ⟨blk, by rw [lget_of hk]; exact h1, h2⟩
theorem Holds.ext (a : Holds hp b vs) (x : Heap) : Holds (hp ++ x) b vs := a.keep (List.getElem?_append_left a.lt)
theorem Holds.by (a : Holds hp b vs) (k : Keep hp hp') : Holds hp' b vs := a.keep (k.2 b a.lt)
theorem Holds.one (a : Holds hp b vs) (hk : k < vs.length) : ldM ro ⟨hp, l, p⟩ true 1 (.p (some ⟨false, b, 0 + k⟩)) = some (vs.getD k und) := by
  obtain ⟨blk, h1, h2, h3⟩ := a
  rw [ld_heap rfl h1 (by omega), ← h3 k hk, Nat.zero_add]
theorem row_list {t : Tr} : ∀ (vs : List AVal) (i : Nat), (∀ j, j < vs.length → t.get (i + j) = vs.getD j und) → t.row i vs.length = vs
  | [], i, _ => rfl
  | v :: vs, i, h => by
    simp only [List.length_cons, Tr.row]
    rw [show t.get i = v by simpa using h 0 (by simp), row_list vs (i + 1) fun j hj => by have := h (j + 1) (by simp; omega); rw [show i + 1 + j = i + (j + 1) by omega, this]; simp]
theorem Holds.rd (a : Holds hp b vs) (hn : n = vs.length) : Go.Vm.rd ro hp false n ⟨false, b, 0⟩ = some (.agg vs) := by
  subst hn
  obtain ⟨blk, h1, h2, h3⟩ := a
  have hc : Nat.ble (0 + vs.length) blk.n = true := by rw [Nat.ble_eq]; omega
  simp only [Go.Vm.rd, rdB_heap h1, cond_false, hc, cond_true]
  rw [row_list vs 0 fun j hj => by rw [Nat.zero_add]; exact h3 j hj]
theorem Holds.all (a : Holds hp b vs) (hn : n = vs.length) : ldM ro ⟨hp, l, p⟩ false n (.p (some ⟨false, b, 0⟩)) = some (.agg vs) := by
  simp only [ldM, a.rd hn]
theorem spliceGet (t : Tr) : ∀ (vs : List AVal) (i j : Nat), (t.splice i vs).get j = if i ≤ j ∧ j < i + vs.length then vs.getD (j - i) und else t.get j
  | [], i, j => by simp [Tr.splice]; intro h1 h2; omega
  | v :: vs, i, j => by
    rw [Tr.splice, spliceGet (t.set i v) vs (i + 1) j, get_set]
    by_cases e : i = j
    · subst e
      rw [if_neg (by omega), if_pos rfl, if_pos (by simp)]; simp
    · by_cases h2 : i ≤ j ∧ j < i + (v :: vs).length
      · have h3 : i + 1 ≤ j ∧ j < i + 1 + vs.length := by simp at h2; omega
        rw [if_pos h2, if_pos h3]
        obtain ⟨q, rfl⟩ : ∃ q, j = i + 1 + q := ⟨j - (i + 1), by omega⟩
        rw [show i + 1 + q - i = q + 1 by omega, show i + 1 + q - (i + 1) = q by omega]
        simp
      · have h3 : ¬ (i + 1 ≤ j ∧ j < i + 1 + vs.length) := by simp at h2; omega
        rw [if_neg h2, if_neg h3, if_neg e]
theorem wrH_all {blk : ABlk} (hb : lget hp b = some (some blk)) (hn : vs.length ≤ blk.n) (ho : ones vs = true) : wrH hp ⟨false, b, 0⟩ vs = some (hp.set b (some { blk with c := blk.c.splice 0 vs })) := by
  have : (Nat.ble (0 + vs.length) blk.n && ones vs) = true := by rw [ho, Bool.and_true, Nat.ble_eq]; omega
  simp only [wrH, cond_false, hb, this, cond_true, lset_eq]
/-- a block is written whole -/
theorem Holds.st {vs' : List AVal} {v : AVal} (a : Holds hp b vs) (hv : v.cells = vs') (hn : n = vs'.length) (hl : vs'.length = vs.length) (ho : ones vs' = true) (hL : h.length ≤ b) (kp : Keep h hp) :
    ∃ hp', stepM ro ⟨hp, h.length, h.length⟩ (.st n (.c (.p (some ⟨false, b, 0⟩))) (.c v)) = some (und, ⟨hp', h.length, h.length⟩) ∧ Holds hp' b vs' ∧ hp'.length = hp.length ∧ (∀ i, i ≠ b → hp'[i]? = hp[i]?) ∧ Keep h hp' := by
  obtain ⟨blk, h1, h2, h3⟩ := a
  subst hv hn
  have hw := wrH_all h1 (vs := v.cells) (by omega) ho
  refine ⟨hp.set b (some { blk with c := blk.c.splice 0 v.cells }), ?_, ⟨_, lget_set h1 _, by simpa using (h2.trans hl.symm), fun j hj => ?_⟩, by simp, fun i hi => List.getElem?_set_ne (Ne.symm hi), kp.set hL _⟩
  · have hbq : Nat.beq v.cells.length v.cells.length = true := Nat.beq_refl _
    have e : (cond (nonp v.cells) h.length h.length) = h.length := by cases nonp v.cells <;> rfl
    simp only [stepM, stepK, opd, st_st, hbq, cond_true, hw, St.mm, Nat.min_eq_left hL, e]
  · show (blk.c.splice 0 v.cells).get j = _
    rw [spliceGet, if_pos (by omega)]; simp
end

theorem ext0 (a : AVal) (l : List AVal) : evP .e (.ext 0 (.c (.tup (a :: l)))) = some a := rfl
theorem ext1 (a b : AVal) (l : List AVal) : evP .e (.ext 1 (.c (.tup (a :: b :: l)))) = some b := rfl
theorem ext2 (a b c : AVal) (l : List AVal) : evP .e (.ext 2 (.c (.tup (a :: b :: c :: l)))) = some c := rfl
section
variable {ro : List ABlk} {h : Heap} {v : AVal}
theorem row_by {hp : Heap} {z : List Int} (a : IsRow ro h v z) (k : Keep h hp) : IsRow ro hp v z := by
  rw [take_eq k.1 k.2]; exact a.ext _
end

/-- one cell of a block is written -/
theorem Holds.set {ro : List ABlk} {h hp : Heap} {b k : Nat} {vs : List AVal} {v : AVal} (a : Holds hp b vs) (hk : k < vs.length) (hv : v.one = true) (hc : v.cells = [v]) (hn : nonp [v] = true) (hL : h.length ≤ b) (kp : Keep h hp) :
    ∃ hp', stepM ro ⟨hp, h.length, h.length⟩ (.st 1 (.c (.p (some ⟨false, b, 0 + k * 1⟩))) (.c v)) = some (und, ⟨hp', h.length, h.length⟩) ∧ Holds hp' b (vs.set k v) ∧ hp'.length = hp.length ∧ (∀ i, i ≠ b → hp'[i]? = hp[i]?) ∧ Keep h hp' := by
  obtain ⟨blk, h1, h2, h3⟩ := a
  have e : 0 + k * 1 = k := by omega
  refine ⟨hp.set b (some { blk with c := blk.c.set k v }), ?_, ⟨_, lget_set h1 _, by simpa using h2, fun j hj => ?_⟩, by simp, fun i hi => List.getElem?_set_ne (Ne.symm hi), kp.set hL _⟩
  · rw [e, st_heap h1 (by omega) hv hc hn, Nat.min_eq_left hL]
  · show (blk.c.set k v).get j = _
    rw [get_set]
    simp only [List.length_set] at hj
    by_cases e : k = j
    · subst e; simp [List.getD, hj]
    · rw [if_neg e, h3 j hj]
      simp [List.getD, List.getElem?_set_ne e]


/-- a loop whose state is known for each round -/
theorem loop_st {S R : Type} {b : S → Option (S ⊕ R)} (st : Nat → S) (n : Nat) (step : Nat → Option R) (r0 : R) (hout : b (st n) = some (.inr r0)) (hin : ∀ i, i < n → b (st i) = some (match step i with | some r => .inr r | none => .inl (st (i + 1)))) :
    ∀ (k i : Nat), i + k = n → loopX b (st i) = some ((firstS step k i).getD r0)
  | 0, i, hi => by
    simp only [Nat.add_zero] at hi
    subst hi
    exact loopX_out hout
  | k + 1, i, hi => by
    have h1 := hin i (by omega)
    unfold firstS
    cases hs : step i with
    | some r => rw [hs] at h1; exact loopX_out h1
    | none =>
      rw [hs] at h1
      exact loopX_on h1 (loop_st st n step r0 hout hin k (i + 1) (by omega))
/-- one that runs to its end -/
theorem loop_run {S R : Type} {b : S → Option (S ⊕ R)} (st : Nat → S) (n : Nat) {r0 : R} (hout : b (st n) = some (.inr r0)) (hin : ∀ i, i < n → b (st i) = some (.inl (st (i + 1)))) : loopX b (st 0) = some r0 := by
  have := loop_st st n (fun _ => none) r0 hout hin n 0 (by omega)
  rw [firstS_none.2 fun _ _ _ => rfl] at this
  exact this
/-- one that looks for something -/
theorem loop_if {S R : Type} {b : S → Option (S ⊕ R)} (st : Nat → S) (n : Nat) (P : Nat → Prop) [DecidablePred P] (r0 r1 : R) (hout : b (st n) = some (.inr r0)) (hin : ∀ i, i < n → P i → b (st i) = some (.inl (st (i + 1)))) (hno : ∀ i, i < n → ¬ P i → b (st i) = some (.inr r1)) :
    loopX b (st 0) = some (if (∀ i, i < n → P i) then r0 else r1) := by
  have := loop_st st n (fun i => if P i then none else some r1) r0 hout (fun i hi => by
    by_cases hp : P i
    · rw [if_pos hp]; exact hin i hi hp
    · rw [if_neg hp]; exact hno i hi hp) n 0 (by omega)
  rw [this]
  by_cases hall : ∀ i, i < n → P i
  · rw [if_pos hall, firstS_none.2 fun j _ h2 => by rw [if_pos (hall j (by omega))]]; rfl
  · rw [if_neg hall]
    cases hf : firstS (fun i => if P i then none else some r1) n 0 with
    | none =>
      refine absurd (fun i hi => ?_) hall
      have := firstS_none.1 hf i (by omega) (by omega)
      simpa using this
    | some r =>
      obtain ⟨j, -, -, h3, -⟩ := firstS_some hf
      by_cases hc : P j
      · rw [if_pos hc] at h3; cases h3
      · rw [if_neg hc] at h3; cases h3; rfl

theorem dT {p : Prop} [Decidable p] (h : p) : decide p = true := decide_eq_true h
theorem dF {p : Prop} [Decidable p] (h : ¬ p) : decide p = false := decide_eq_false h
theorem cp {F : Tab} {ro : List ABlk} {h : Heap} {f : Nat} {a : List AVal} {v : AVal} {l p : Nat} (e : callX F ro f a h = some (v, h, h.length, h.length)) (hl : l ≤ h.length) (hp : p ≤ h.length) : callM (callX F ro) ⟨h, l, p⟩ f a = some (v, ⟨h, l, p⟩) :=
  callM_pure e hl hp
theorem cp0 {F : Tab} {ro : List ABlk} {h : Heap} {f : Nat} {a : List AVal} {v : AVal} (e : callX F ro f a h = some (v, h, h.length, h.length)) : callM (callX F ro) ⟨h, h.length, h.length⟩ f a = some (v, ⟨h, h.length, h.length⟩) :=
  callM_pure e (Nat.le_refl _) (Nat.le_refl _)


theorem cM {F : Tab} {ro : List ABlk} {h H : Heap} {f : Nat} {a : List AVal} {v : AVal} {l p : Nat} (e : callX F ro f a h = some (v, H, h.length, h.length)) (hl : l ≤ h.length) (hp : p ≤ h.length) : callM (callX F ro) ⟨h, l, p⟩ f a = some (v, ⟨H, l, p⟩) := by
  rw [callM_eq e, Nat.min_eq_left hl, Nat.min_eq_left hp]
theorem fin_any {h H : Heap} {w : AVal} (k : Keep h H) : ∃ H', finM h.length w ⟨H, h.length, h.length⟩ = some (w, H', h.length, h.length) ∧ Keep h H' ∧ (w.bel h.length = false → H' = H) := by
  obtain ⟨y, h1, h2⟩ := fin_gen (h := h) (h' := H) (v := w) (l := h.length) (p := h.length) k.1 k.2
  exact ⟨h ++ y, h1, Keep.app y, h2⟩
/-- a list read in a heap that keeps another one, below that one's length, is in that one -/
theorem row_down {ro : List ABlk} {h H : Heap} {v : AVal} {z : List Int} (k : Keep h H) (a : IsRow ro H v z) (hb : v.bel h.length = true) : IsRow ro h v z := by
  rcases a with ⟨rfl, rfl⟩ | ⟨q, cap, blk, rfl, hb2, hn, hc⟩
  · exact .inl ⟨rfl, rfl⟩
  · refine .inr ⟨q, cap, blk, rfl, ?_, hn, hc⟩
    have h1 : (q.ro || Nat.blt q.b h.length) = true := by simpa [AVal.bel] using hb
    unfold rdB at hb2 ⊢
    cases hr : q.ro
    · rw [hr] at h1 hb2
      have h2 : q.b < h.length := by simpa [Nat.blt_eq] using h1
      simp only [cond_false] at hb2 ⊢
      rw [← lget_of (k.2 q.b h2)]; exact hb2
    · rw [hr] at hb2; exact hb2
theorem fin_rowW {ro : List ABlk} {h H : Heap} {v w : AVal} {z : List Int} (k : Keep h H) (a : IsRow ro H v z) (hw : w.bel h.length = v.bel h.length) :
    ∃ H', finM h.length w ⟨H, h.length, h.length⟩ = some (w, H', h.length, h.length) ∧ Keep h H' ∧ IsRow ro H' v z := by
  obtain ⟨H', h1, h2, h3⟩ := fin_any (w := w) k
  refine ⟨H', h1, h2, ?_⟩
  cases hb : w.bel h.length
  · rw [h3 hb]; exact a
  · exact row_by (row_down k a (by rw [← hw]; exact hb)) h2
theorem loop_gen {S R : Type} {b : S → Option (S ⊕ R)} (n : Nat) (I : Nat → S → Prop) (Q : R → Prop)
    (hin : ∀ i s, i < n → I i s → ∃ s', b s = some (.inl s') ∧ I (i + 1) s') (hout : ∀ s, I n s → ∃ r, b s = some (.inr r) ∧ Q r) :
    ∀ (k i : Nat) (s : S), i + k = n → I i s → ∃ r, loopX b s = some r ∧ Q r
  | 0, i, s, hk, hi => by
    obtain rfl : i = n := by omega
    obtain ⟨r, h1, h2⟩ := hout s hi
    exact ⟨r, loopX_out h1, h2⟩
  | k + 1, i, s, hk, hi => by
    obtain ⟨s1, h1, h2⟩ := hin i s (by omega) hi
    obtain ⟨r, h3, h4⟩ := loop_gen n I Q hin hout k (i + 1) s1 (by omega) h2
    exact ⟨r, loopX_on h1 h3, h4⟩
theorem loop_exit {S R : Type} {b : S → Option (S ⊕ R)} (n : Nat) (I : Nat → S → Prop) (Q : R → Prop)
    (hin : ∀ i s, i < n → I i s → (∃ s', b s = some (.inl s') ∧ I (i + 1) s') ∨ ∃ r, b s = some (.inr r) ∧ Q r) (hout : ∀ s, I n s → ∃ r, b s = some (.inr r) ∧ Q r) :
    ∀ (k i : Nat) (s : S), i + k = n → I i s → ∃ r, loopX b s = some r ∧ Q r
  | 0, i, s, hk, hi => by
    obtain rfl : i = n := by omega
    obtain ⟨r, h1, h2⟩ := hout s hi
    exact ⟨r, loopX_out h1, h2⟩
  | k + 1, i, s, hk, hi => by
    rcases hin i s (by omega) hi with ⟨s1, h1, h2⟩ | ⟨r, h1, h2⟩
    · obtain ⟨r, h3, h4⟩ := loop_exit n I Q hin hout k (i + 1) s1 (by omega) h2
      exact ⟨r, loopX_on h1 h3, h4⟩
    · exact ⟨r, loopX_out h1, h2⟩

end Go.Proofs.Ytobmcofkcfifkaa.T

/- Lists that a function makes by append. -/
open Go.Vm
set_option linter.unusedVariables false
namespace Go.Proofs.Ytobmcofkcfifkaa.T
open Go

/-- a list made by append, in a block from L on -/
def GV (hp : Heap) (L e es : Nat) (v : AVal) (k : Nat) (cs : List AVal) : Prop :=
  (v = .nsl ∧ k = 0 ∧ cs = []) ∨ ∃ b blk, v = .sl ⟨false, b, 0⟩ k .grow ∧ 0 < k ∧ L ≤ b ∧ lget hp b = some (some blk) ∧ blk.e = e ∧ cs.length = k * es ∧ k * es ≤ blk.n ∧ ∀ j, j < k * es → blk.c.get j = cs.getD j und
theorem GV.nil (hp : Heap) (L e es : Nat) : GV hp L e es .nsl 0 [] := .inl ⟨rfl, rfl, rfl⟩
/-- blocks below L, and those above that are kept, hold the list as before -/
theorem GV.by {hp hp' : Heap} {L e es k : Nat} {v : AVal} {cs : List AVal} (g : GV hp L e es v k cs) (kp : Keep hp hp') : GV hp' L e es v k cs := by
  rcases g with h | ⟨b, blk, h1, h2, h3, h4, h5⟩
  · exact .inl h
  · exact .inr ⟨b, blk, h1, h2, h3, by rw [lget_of (kp.2 b (lget_lt h4))]; exact h4, h5⟩
theorem row_row {t : Tr} : ∀ (n i : Nat) (cs : List AVal), cs.length = n → (∀ j, j < n → t.get (i + j) = cs.getD j und) → t.row i n = cs := by
  intro n i cs hl h
  subst hl
  exact row_list cs i h
theorem GV.push {ro : List ABlk} {hp : Heap} {L0 L e es bytes k : Nat} {z : List AVal} {v w : AVal} {cs ws : List AVal} (g : GV hp L e es v k cs) (hL0 : L0 ≤ L) (hL : L ≤ hp.length) (hk : k ≤ 100000) (hb : bytes ≤ 1000) (hes : 0 < es) (hz : z.length = es) (hw : w.cells = ws) (hwl : ws.length = es) (ho : ones ws = true) (hsp : splice z 0 ws = ws) :
    ∃ v2 hp2 v3 hp3, stepM ro ⟨hp, L0, L0⟩ (.bsl e es z 1 [((0, es), .c w)]) = some (v2, ⟨hp2, L0, L0⟩) ∧ stepM ro ⟨hp2, L0, L0⟩ (.app e es bytes z (.c v) (.c v2)) = some (v3, ⟨hp3, L0, L0⟩) ∧
      GV hp3 L e es v3 (k + 1) (cs ++ ws) ∧ hp.length ≤ hp3.length ∧ ∀ i, i < L → hp3[i]? = hp[i]? := by
  have s1 : stepM ro ⟨hp, L0, L0⟩ (.bsl e es z 1 [((0, es), .c w)]) = some (.sl ⟨false, hp.length, 0⟩ 1 (.known 1), ⟨hp ++ [some (blkOf e ws)], L0, L0⟩) := by
    simp [stepM, stepK, st_bsl, rep, fillA, opd, hw, hwl, hz, hsp, newB, St.mm]
  have src : app_src ro (hp ++ [some (blkOf e ws)]) es (.sl ⟨false, hp.length, 0⟩ 1 (.known 1)) = some (ws, 1) := by
    have hbq : rdB ro (hp ++ [some (blkOf e ws)]) ⟨false, hp.length, 0⟩ = some (blkOf e ws) := by simp [rdB, lget_eq]
    have hg : (blkOf e ws).c.row 0 es = ws := row_row es 0 ws hwl fun j hj => by rw [Nat.zero_add, get_blk]
    have hble : Nat.ble (0 + 1 * es) (blkOf e ws).n = true := by rw [Nat.ble_eq]; show 0 + 1 * es ≤ ws.length; omega
    simp only [app_src, hbq, hble, cond_true]
    rw [show 1 * es = es by omega, hg]
  rcases g with ⟨rfl, rfl, rfl⟩ | ⟨b, blk, rfl, hpos, hLb, hbk, hbe, hcl, hbn, hrows⟩
  · refine ⟨_, _, .sl ⟨false, hp.length + 1, 0⟩ 1 .grow, hp ++ [some (blkOf e ws)] ++ [some (blkOf e ws)], s1, ?_, .inr ⟨hp.length + 1, blkOf e ws, rfl, by omega, by omega, ?_, rfl, by simp; omega, by show 1 * es ≤ ws.length; omega, fun j hj => ?_⟩, by simp, fun i hi => ?_⟩
    · have hb1 : Nat.beq 1 0 = false := rfl
      simp only [stepM, stepK, opd, st_app, src, hb1, cond_false, fits_small (by omega : 1 ≤ 1000000) hb, cond_true, newB, St.mm, List.length_append, List.length_cons, List.length_nil, Nat.zero_add]
    · have := lget_last (hp ++ [some (blkOf e ws)]) (some (blkOf e ws))
      rwa [List.length_append, List.length_singleton] at this
    · rw [get_blk]; simp
    · rw [List.append_assoc, List.getElem?_append_left (by omega)]
  · obtain ⟨hp2, e2⟩ : ∃ hp2, hp2 = hp ++ [some (blkOf e ws)] := ⟨_, rfl⟩
    rw [← e2] at src s1
    have hlt : b < hp.length := lget_lt hbk
    have hb2 : lget hp2 b = some (some blk) := by rw [e2]; exact lget_ext hbk _
    have hlen2 : hp2.length = hp.length + 1 := by rw [e2]; simp
    have hrow : blk.c.row 0 (k * es) = cs := row_row (k * es) 0 cs hcl fun j hj => by rw [Nat.zero_add]; exact hrows j hj
    have hke : 0 < k * es := Nat.mul_pos hpos hes
    refine ⟨_, _, .sl ⟨false, hp2.length, 0⟩ (k + 1) .grow, lset none hp2 b ++ [some (blkOf e (cs ++ ws))], s1, ?_, .inr ⟨hp2.length, blkOf e (cs ++ ws), rfl, by omega, by omega, ?_, rfl, ?_, ?_, fun j hj => ?_⟩, ?_, fun i hi => ?_⟩
    · have h1 : (Nat.beq blk.e e && Nat.ble (k * es) blk.n && fits (k + 1) bytes && ones ws) = true := by
        rw [hbe, fits_small (by omega : k + 1 ≤ 1000000) hb]
        simp [ho, Nat.ble_eq]; omega
      have h2 : (!Nat.beq 0 0) = false := rfl
      have h3 : Nat.blt 0 blk.n = true := by rw [Nat.blt_eq]; omega
      have hb10 : Nat.beq 1 0 = false := rfl
      simp only [stepM, stepK, opd, st_app, src, app_grow, hb10, h2, cond_false, Bool.or_false, Bool.false_or, hb2, h1, h3, Bool.and_self, cond_true, St.mm, hrow, Nat.min_eq_left (Nat.le_trans hL0 hLb)]
    · rw [lget_eq, lset_eq, List.getElem?_append_right (by simp)]
      simp
    · rw [List.length_append, hcl, hwl, Nat.add_mul]; omega
    · show (k + 1) * es ≤ (cs ++ ws).length
      rw [List.length_append, hcl, hwl, Nat.add_mul]; omega
    · rw [get_blk]
    · simp [lset_eq]; omega
    · rw [lset_eq, List.getElem?_append_left (by simp; omega), List.getElem?_set_ne (by omega), e2, List.getElem?_append_left (by omega)]
theorem GV.row {ro : List ABlk} {hp : Heap} {L e : Nat} {v : AVal} {k : Nat} {z : List Int} (g : GV hp L e 1 v k (z.map (AVal.i .i64))) (hk : z.length = k) : IsRow ro hp v z := by
  subst hk
  rcases g with ⟨rfl, h2, -⟩ | ⟨b, blk, rfl, hpos, hLb, hbk, hbe, hcl, hbn, hrows⟩
  · exact .inl ⟨rfl, List.length_eq_zero_iff.1 h2⟩
  · refine .inr ⟨_, _, blk, rfl, rdB_heap hbk 0, by simpa using hbn, fun j hj => ?_⟩
    rw [Nat.zero_add, hrows j (by omega), map_getD hj]
end Go.Proofs.Ytobmcofkcfifkaa.T

/- Fibonacci's numbers: the parts of a number. -/
open Go.Vm
set_option linter.unusedVariables false
namespace Go.Proofs.Ytobmcofkcfifkaa.T
open Go

/-- Fibonacci's numbers -/
def fb : Nat → Nat
  | 0 => 0
  | 1 => 1
  | n + 2 => fb n + fb (n + 1)
theorem fb_two (n : Nat) : fb (n + 2) = fb n + fb (n + 1) := rfl
theorem fb_pos : ∀ n, 0 < fb (n + 1)
  | 0 => by decide
  | n + 1 => by rw [fb_two]; have := fb_pos n; omega
theorem fb_succ : ∀ n, fb n ≤ fb (n + 1)
  | 0 => by decide
  | n + 1 => by rw [fb_two]; omega
theorem fb_le {m n : Nat} (h : m ≤ n) : fb m ≤ fb n := by
  induction h with
  | refl => exact Nat.le_refl _
  | step _ ih => exact Nat.le_trans ih (fb_succ _)
theorem fb88 : fb 88 = 1100087778366101931 := by decide +kernel
theorem fb89 : fb 89 = 1779979416004714189 := by decide +kernel
/-- the sum of what the indices name -/
def sm : List Nat → Nat
  | [] => 0
  | i :: l => fb i + sm l
/-- indices from 2 on, below t, falling, no two neighbours -/
def Zk : Nat → List Nat → Prop
  | _, [] => True
  | t, i :: l => 2 ≤ i ∧ i < t ∧ Zk (i - 1) l
theorem Zk.mono : ∀ {l : List Nat} {t u : Nat}, t ≤ u → Zk t l → Zk u l
  | [], _, _, _, _ => trivial
  | i :: l, t, u, h, ⟨h1, h2, h3⟩ => ⟨h1, by omega, h3⟩
theorem Zk.sum : ∀ {l : List Nat} {t : Nat}, 1 ≤ t → Zk t l → sm l < fb t
  | [], t, ht, _ => by
    obtain ⟨k, rfl⟩ : ∃ k, t = k + 1 := ⟨t - 1, by omega⟩
    exact fb_pos k
  | i :: l, t, ht, ⟨h1, h2, h3⟩ => by
    obtain ⟨k, rfl⟩ : ∃ k, i = k + 1 := ⟨i - 1, by omega⟩
    have := Zk.sum (t := k) (by omega) h3
    have h4 : fb (k + 2) ≤ fb t := fb_le h2
    rw [fb_two] at h4
    show fb (k + 1) + sm l < fb t
    omega
/-- the greatest that fits first -/
def gz : Nat → Nat → List Nat
  | 0, _ => []
  | 1, _ => []
  | i + 2, n => if fb (i + 2) ≤ n then (i + 2) :: gz (i + 1) (n - fb (i + 2)) else gz (i + 1) n
theorem gz_take {i n : Nat} (h : fb (i + 2) ≤ n) : gz (i + 2) n = (i + 2) :: gz (i + 1) (n - fb (i + 2)) := by rw [gz, if_pos h]
theorem gz_skip : ∀ {i n : Nat}, n < fb (i + 1) → gz (i + 1) n = gz i n
  | 0, n, h => rfl
  | i + 1, n, h => by rw [gz, if_neg (by have : fb (i + 1 + 1) = fb (i + 2) := rfl; omega)]
theorem gz_ok : ∀ (i n : Nat), n < fb (i + 1) → Zk (i + 1) (gz i n) ∧ sm (gz i n) = n
  | 0, n, h => by
    have : n = 0 := by have : fb (0 + 1) = 1 := rfl; omega
    subst this; exact ⟨trivial, rfl⟩
  | 1, n, h => by
    have : n = 0 := by have : fb (1 + 1) = 1 := rfl; omega
    subst this; exact ⟨trivial, rfl⟩
  | i + 2, n, h => by
    by_cases hc : fb (i + 2) ≤ n
    · rw [gz_take hc]
      have h2 : n - fb (i + 2) < fb (i + 1) := by
        have e : fb (i + 2 + 1) = fb (i + 1) + fb (i + 2) := rfl
        omega
      rw [gz_skip h2]
      obtain ⟨h3, h4⟩ := gz_ok i _ h2
      refine ⟨⟨by omega, by omega, h3⟩, ?_⟩
      show fb (i + 2) + sm _ = n
      rw [h4]; omega
    · rw [gz, if_neg hc]
      obtain ⟨h3, h4⟩ := gz_ok (i + 1) n (by have : fb (i + 1 + 1) = fb (i + 2) := rfl; omega)
      exact ⟨h3.mono (by omega), h4⟩
theorem gz_uniq : ∀ (t : Nat) {l : List Nat}, Zk (t + 1) l → gz t (sm l) = l
  | 0, l, h => by
    cases l with
    | nil => rfl
    | cons i l => exact absurd h.2.1 (by have := h.1; omega)
  | 1, l, h => by
    cases l with
    | nil => rfl
    | cons i l => exact absurd h.2.1 (by have := h.1; omega)
  | t + 2, [], _ => by
    rw [gz, if_neg (by have : 0 < fb (t + 2) := fb_pos (t + 1); show ¬ fb (t + 2) ≤ 0; omega)]
    exact gz_uniq (t + 1) (l := []) trivial
  | t + 2, i :: l, ⟨h1, h2, h3⟩ => by
    by_cases e : i = t + 2
    · subst e
      have h4 := Zk.sum (t := t + 1) (by omega) (show Zk (t + 1) l from h3)
      have h5 : sm ((t + 2) :: l) = fb (t + 2) + sm l := rfl
      rw [gz_take (by rw [h5]; omega), h5, Nat.add_sub_cancel_left, gz_skip h4, gz_uniq t h3]
    · have hz : Zk (t + 2) (i :: l) := ⟨h1, by omega, h3⟩
      have h4 := Zk.sum (t := t + 2) (by omega) hz
      rw [gz_skip h4]
      exact gz_uniq (t + 1) hz
theorem gz_zero (i : Nat) : gz i 0 = [] := gz_uniq i (l := []) trivial
/-- the number of indices -/
theorem Zk.len : ∀ {l : List Nat} {t : Nat}, Zk t l → 2 * l.length ≤ t
  | [], t, _ => by simp
  | i :: l, t, ⟨h1, h2, h3⟩ => by
    have := Zk.len h3
    simp only [List.length_cons]; omega
theorem Zk.mem : ∀ {l : List Nat} {t i : Nat}, Zk t l → i ∈ l → 2 ≤ i ∧ i < t
  | [], _, _, _, h => by simp at h
  | j :: l, t, i, ⟨h1, h2, h3⟩, hm => by
    rcases List.mem_cons.1 hm with rfl | hm
    · exact ⟨h1, h2⟩
    · have := Zk.mem h3 hm; omega
/-- the parts of a number up to 2^60 -/
abbrev big : Nat := 1152921504606846976
def zk (n : Nat) : List Nat := gz 88 n
theorem zk_ok {n : Nat} (h : n ≤ big) : Zk 89 (zk n) ∧ sm (zk n) = n := gz_ok 88 n (by rw [fb89]; have : big = 1152921504606846976 := rfl; omega)
theorem zk_uniq {l : List Nat} (h : Zk 89 l) : zk (sm l) = l := gz_uniq 88 h
theorem zk_ne {n : Nat} (h : n ≤ big) (h0 : 0 < n) : zk n ≠ [] := fun e => by
  have := (zk_ok h).2
  rw [e] at this
  exact absurd this (by show ¬ 0 = n; omega)
/-- numbers of words of any height -/
theorem gz_big {t u n : Nat} (h : n < fb (t + 1)) (htu : t ≤ u) : gz u n = gz t n := by
  have := gz_ok t n h
  have h2 := gz_uniq u (this.1.mono (by omega))
  rw [this.2] at h2
  exact h2
end Go.Proofs.Ytobmcofkcfifkaa.T

/- Steps; the two Fibonaccis; sums; ranges. -/
open Go.Vm
set_option linter.unusedVariables false
namespace Go.Proofs.Ytobmcofkcfifkaa.T
open Go

section
variable {ro : List ABlk} {h : Heap}
theorem alv {H : Heap} {l p : Nat} (hl : l ≤ H.length) (hp : p ≤ H.length) : callM (callX F1 ro) ⟨H, l, p⟩ 18 [] = some (.b true, ⟨H, l, p⟩) := cp alive_pure hl hp
theorem bindP_of {β : Type} {o : Option (AVal × Mm)} {v : AVal} {m : Mm} {f : AVal → Mm → Option β} (h : o = some (v, m)) : bindP o f = f v m := by rw [h]; rfl
theorem bindO_of {α β : Type} {o : Option α} {v : α} {f : α → Option β} (h : o = some v) : bindO o f = f v := by rw [h]; rfl
theorem pS {β : Type} (v : AVal) (m : Mm) (f : AVal → Mm → Option β) : bindP (some (v, m)) f = f v m := bindP_of (Eq.trans rfl rfl)
theorem oS {α β : Type} (v : α) (f : α → Option β) : bindO (some v) f = f v := bindO_of (Eq.trans rfl rfl)
theorem cT {α : Type} (a b : α) : cond true a b = a := by rw [cond_true]
theorem cF {α : Type} (a b : α) : cond false a b = b := by rw [cond_false]
theorem bS {β : Type} (b : Bool) (f : Bool → Option β) : asB (.b b) f = f b := (asB_b b f).trans (Eq.trans rfl rfl)
theorem sS {β : Type} (l : List UInt8) (f : List UInt8 → Option β) : asS (.s l) f = f l := Eq.trans rfl rfl
theorem iS {β : Type} (k : IntKind) (n : Int) (f : Int → Option β) : asI k (.i k n) f = f n := (asI_i k n f).trans (Eq.trans rfl rfl)
theorem x0 (a : AVal) (l : List AVal) : evP .e (.ext 0 (.c (.tup (a :: l)))) = some a := (ext0 a l).trans (Eq.trans rfl rfl)
theorem x1 (a b : AVal) (l : List AVal) : evP .e (.ext 1 (.c (.tup (a :: b :: l)))) = some b := (ext1 a b l).trans (Eq.trans rfl rfl)
theorem x2 (a b c : AVal) (l : List AVal) : evP .e (.ext 2 (.c (.tup (a :: b :: c :: l)))) = some c := (ext2 a b c l).trans (Eq.trans rfl rfl)
theorem tA (v : AVal) : tupA [v] = v := Eq.trans rfl rfl
theorem tA2 (v w : AVal) : tupA [v, w] = .tup [v, w] := Eq.trans rfl rfl
theorem nT : (!true) = false := Eq.trans rfl rfl
theorem nF : (!false) = true := Eq.trans rfl rfl
theorem fB {α : Type} (n : Bool) (f : Bool → α) : forceB n f = f n := (forceB_eq n f).trans (Eq.trans rfl rfl)
theorem fI' {α : Type} (n : Int) (f : Int → α) : forceI n f = f n := (forceI_eq n f).trans (Eq.trans rfl rfl)
theorem mC (F : Tab) (ro : List ABlk) : (meansX F ro).call = callX F ro := (meansX_call F ro).trans (Eq.trans rfl rfl)
theorem eqI_self (x : Int) : eqI x x = true := by rw [eqI_eq]; simp
theorem eqI_ne {x y : Int} (h : x ≠ y) : eqI x y = false := by rw [eqI_eq]; simp [h]
theorem ltT {x y : Int} (h : x < y) : ltI x y = true := by rw [ltI_eq]; exact dT h
theorem ltF {x y : Int} (h : ¬ x < y) : ltI x y = false := by rw [ltI_eq]; exact dF h
theorem mxF {a c : Nat} : mxV false (a : Int) (c : Int) = ((min a c : Nat) : Int) := by
  unfold mxV
  simp only [Bool.false_eq_true, if_false]
  split <;> omega
theorem mxF' {a c : Int} : mxV false a c = min a c := by
  unfold mxV
  simp only [Bool.false_eq_true, if_false]
  split <;> omega

/-- Fibonacci's numbers below 0, too -/
def fI : Int → Int
  | .ofNat k => (fb k : Int)
  | .negSucc k => if k % 2 = 0 then (fb (k + 1) : Int) else -(fb (k + 1) : Int)
theorem fI_rec (z : Int) : fI (z + 2) = fI z + fI (z + 1) := by
  match z with
  | .ofNat k =>
    show ((fb (k + 2) : Nat) : Int) = (fb k : Int) + (fb (k + 1) : Int)
    rw [fb_two]; omega
  | .negSucc 0 => rfl
  | .negSucc 1 => rfl
  | .negSucc (k + 2) =>
    have e1 : (Int.negSucc (k + 2)) + 2 = Int.negSucc k := by omega
    have e2 : (Int.negSucc (k + 2)) + 1 = Int.negSucc (k + 1) := by omega
    rw [e1, e2]
    show (if k % 2 = 0 then (fb (k + 1) : Int) else -(fb (k + 1) : Int)) = (if (k + 2) % 2 = 0 then (fb (k + 2 + 1) : Int) else -(fb (k + 2 + 1) : Int)) + (if (k + 1) % 2 = 0 then (fb (k + 1 + 1) : Int) else -(fb (k + 1 + 1) : Int))
    have e3 : fb (k + 2 + 1) = fb (k + 1) + fb (k + 1 + 1) := rfl
    rcases Nat.mod_two_eq_zero_or_one k with hk | hk
    · rw [if_pos hk, if_pos (show (k + 2) % 2 = 0 by omega), if_neg (show ¬ (k + 1) % 2 = 0 by omega)]; omega
    · rw [if_neg (show ¬ k % 2 = 0 by omega), if_neg (show ¬ (k + 2) % 2 = 0 by omega), if_pos (show (k + 1) % 2 = 0 by omega)]; omega
theorem fI_abs (z : Int) : -(fb z.natAbs : Int) ≤ fI z ∧ fI z ≤ (fb z.natAbs : Int) := by
  match z with
  | .ofNat k =>
    show -((fb k : Nat) : Int) ≤ (fb k : Int) ∧ (fb k : Int) ≤ (fb k : Int)
    omega
  | .negSucc k =>
    show -((fb (k + 1) : Nat) : Int) ≤ (if k % 2 = 0 then (fb (k + 1) : Int) else -(fb (k + 1) : Int)) ∧ (if k % 2 = 0 then (fb (k + 1) : Int) else -(fb (k + 1) : Int)) ≤ (fb (k + 1) : Int)
    split <;> omega
abbrev tm : Nat := 1152921504606846977
abbrev by61 : Nat := 2305843009213693952
def pF (i : Int) : Int := if 0 ≤ i then ((min (fb i.toNat) tm : Nat) : Int) else fI i
def rF (i : Int) : Int := if 0 ≤ i then ((min (fb i.toNat) by61 : Nat) : Int) else fI i
theorem pF_nat (k : Nat) : pF (k : Int) = ((min (fb k) tm : Nat) : Int) := by unfold pF; rw [if_pos (by omega), Int.toNat_natCast]
theorem rF_nat (k : Nat) : rF (k : Int) = ((min (fb k) by61 : Nat) : Int) := by unfold rF; rw [if_pos (by omega), Int.toNat_natCast]
theorem rF_low {k : Nat} (hk : k ≤ 89) : rF (k : Int) = (fb k : Int) := by
  rw [rF_nat, Nat.min_eq_left]
  have := fb_le hk
  rw [fb89] at this
  have : by61 = 2305843009213693952 := rfl
  omega
theorem pF_low {k : Nat} (hk : k ≤ 88) : pF (k : Int) = (fb k : Int) := by
  rw [pF_nat, Nat.min_eq_left]
  have := fb_le hk
  rw [fb88] at this
  have : tm = 1152921504606846977 := rfl
  omega
theorem lt64 {n : Nat} (h : n ≤ 9223372036854775807) : wr .i64 (n : Int) = (n : Int) := wr_id' (by omega) (by omega)
/-- the program's Fibonacci -/
theorem fib71 {i : Int} (h1 : -88 ≤ i) (h2 : i ≤ 4611686018427387904) : callX F1 ro 71 [.i .i64 i] h = some (.i .i64 (pF i), h, h.length, h.length) := by
  refine g71_ok (meansX_ok F1 ro) rfl ?_
  unfold g71
  simp only [fI', meansX_loop]
  have htm : tm = 1152921504606846977 := rfl
  rcases Int.le_total 0 i with hi | hi
  · obtain ⟨k, rfl⟩ := Int.eq_ofNat_of_zero_le hi
    have hm : mxV false (k : Int) 89 = ((min k 89 : Nat) : Int) := mxF
    rw [hm]
    have hl1 := loop_run (b := fun s : Int × Int × Int => g71_b0 (meansX F1 ro) ro (k : Int) ((min k 89 : Nat) : Int) ⟨h, h.length, h.length⟩ s.1 s.2.1 s.2.2) (fun j => (((min (fb j) tm : Nat) : Int), ((min (fb (j + 1)) tm : Nat) : Int), (j : Int))) (min k 89)
      (r0 := (((min (fb (min k 89)) tm : Nat) : Int), ((min (fb (min k 89 + 1)) tm : Nat) : Int))) ?_ ?_
    · have e : ((((min (fb 0) tm : Nat) : Int), ((min (fb (0 + 1)) tm : Nat) : Int), ((0 : Nat) : Int)) : Int × Int × Int) = (0, 1, 0) := by decide
      rw [e] at hl1
      rw [hl1]
      simp only [oS]
      rw [wr_id' (by omega) (by omega)]
      have hl2 := loopX_out (b := fun s : Int × Int × Int => g71_b1 (meansX F1 ro) ro (0 - (k : Int)) ⟨h, h.length, h.length⟩ s.1 s.2.1 s.2.2) (s := (((min (fb (min k 89)) tm : Nat) : Int), ((min (fb (min k 89 + 1)) tm : Nat) : Int), 0)) (r := ((min (fb (min k 89)) tm : Nat) : Int)) (by
        simp only [g71_b1, fB, ltF (show ¬ (0 : Int) < 0 - (k : Int) by omega), cF])
      rw [hl2]
      simp only [oS, tA]
      have e2 : min (fb (min k 89)) tm = min (fb k) tm := by
        rcases Nat.le_total k 89 with hk | hk
        · rw [Nat.min_eq_left hk]
        · rw [Nat.min_eq_right hk]
          have := fb_le hk
          rw [fb89] at this ⊢
          omega
      rw [e2, pF_nat]
      exact fin_pure rfl
    · simp only [g71_b0, fB, ltF (Int.lt_irrefl _), cF]
    · intro j hj
      have hb1 : min (fb j) tm + min (fb (j + 1)) tm ≤ 9223372036854775807 := by omega
      have e3 : ((min (fb j) tm : Nat) : Int) + ((min (fb (j + 1)) tm : Nat) : Int) = ((min (fb j) tm + min (fb (j + 1)) tm : Nat) : Int) := by omega
      have e4 : mxV false ((min (fb j) tm + min (fb (j + 1)) tm : Nat) : Int) 1152921504606846977 = ((min (fb (j + 2)) tm : Nat) : Int) := by
        rw [show (1152921504606846977 : Int) = ((tm : Nat) : Int) from rfl, mxF, fb_two]; omega
      have e5 : wr .i64 ((j : Int) + 1) = ((j + 1 : Nat) : Int) := wr_next (by omega)
      simp only [g71_b0, fB, ltT (show (j : Int) < ((min k 89 : Nat) : Int) by omega), cT, fI', e3, lt64 hb1, e4, e5]
  · rcases Int.lt_or_eq_of_le hi with hi | rfl
    rotate_left
    · -- zero
      have hm : mxV false (0 : Int) 89 = 0 := by decide
      rw [hm]
      have hl1 := loopX_out (b := fun s : Int × Int × Int => g71_b0 (meansX F1 ro) ro 0 0 ⟨h, h.length, h.length⟩ s.1 s.2.1 s.2.2) (s := (0, 1, 0)) (r := (0, 1)) (by simp only [g71_b0, fB, ltF (Int.lt_irrefl _), cF])
      rw [hl1]
      simp only [oS]
      have e0 : wr .i64 (0 - 0) = 0 := by decide
      rw [e0]
      have hl2 := loopX_out (b := fun s : Int × Int × Int => g71_b1 (meansX F1 ro) ro 0 ⟨h, h.length, h.length⟩ s.1 s.2.1 s.2.2) (s := (0, 1, 0)) (r := 0) (by simp only [g71_b1, fB, ltF (Int.lt_irrefl _), cF])
      rw [hl2]
      simp only [oS, tA]
      exact fin_pure rfl
    obtain ⟨k, hk⟩ : ∃ k : Nat, i = -(k : Int) := ⟨i.natAbs, by omega⟩
    have hm : mxV false i 89 = i := by rw [mxF']; omega
    rw [hm]
    have hl1 := loopX_out (b := fun s : Int × Int × Int => g71_b0 (meansX F1 ro) ro i i ⟨h, h.length, h.length⟩ s.1 s.2.1 s.2.2) (s := (0, 1, 0)) (r := (0, 1)) (by simp only [g71_b0, fB, ltF (show ¬ (0 : Int) < i by omega), cF])
    rw [hl1]
    simp only [oS]
    have e0 : wr .i64 (0 - i) = (k : Int) := by rw [wr_id' (by omega) (by omega)]; omega
    rw [e0]
    have hl2 := loop_run (b := fun s : Int × Int × Int => g71_b1 (meansX F1 ro) ro (k : Int) ⟨h, h.length, h.length⟩ s.1 s.2.1 s.2.2) (fun j => (fI (-(j : Int)), fI (1 - (j : Int)), (j : Int))) k (r0 := fI (-(k : Int))) ?_ ?_
    · have e : ((fI (-((0 : Nat) : Int)), fI (1 - ((0 : Nat) : Int)), ((0 : Nat) : Int)) : Int × Int × Int) = (0, 1, 0) := rfl
      rw [e] at hl2
      rw [hl2]
      simp only [oS, tA]
      unfold pF
      rw [if_neg (by omega), hk]
      exact fin_pure rfl
    · simp only [g71_b1, fB, ltF (Int.lt_irrefl _), cF]
    · intro j hj
      have e3 : fI (1 - (j : Int)) - fI (-(j : Int)) = fI (-((j + 1 : Nat) : Int)) := by
        have := fI_rec (-((j + 1 : Nat) : Int))
        rw [show -((j + 1 : Nat) : Int) + 2 = 1 - (j : Int) by omega, show -((j + 1 : Nat) : Int) + 1 = -(j : Int) by omega] at this
        omega
      have hb := fI_abs (-((j + 1 : Nat) : Int))
      have hle := fb_le (show (-((j + 1 : Nat) : Int)).natAbs ≤ 88 by omega)
      rw [fb88] at hle
      have e5 : wr .i64 ((j : Int) + 1) = ((j + 1 : Nat) : Int) := wr_next (by omega)
      have e6 : fI (1 - ((j + 1 : Nat) : Int)) = fI (-(j : Int)) := by congr 1; omega
      simp only [g71_b1, fB, ltT (show (j : Int) < (k : Int) by omega), cT, fI', e3, wr_id' (show -9223372036854775808 ≤ fI (-((j + 1 : Nat) : Int)) by omega) (show fI (-((j + 1 : Nat) : Int)) ≤ 9223372036854775807 by omega), e5, e6]
/-- is a number in range? -/
def inR (n : Int) : Prop := 0 ≤ n ∧ n ≤ 1152921504606846976
instance (n : Int) : Decidable (inR n) := inferInstanceAs (Decidable (_ ∧ _))
end
end Go.Proofs.Ytobmcofkcfifkaa.T

/- Ranges of several numbers; the parts of a number, by the program and by the reference. -/
open Go.Vm
set_option linter.unusedVariables false
namespace Go.Proofs.Ytobmcofkcfifkaa.T
open Go

section
variable {ro : List ABlk} {h : Heap}
/-- a list of numbers, all in range? -/
theorem all51 {v : AVal} {z : List Int} (a : IsRow ro h v z) (hz : z.length ≤ 1000000) : callX F1 ro 51 [v] h = some (.b (decide (∀ i, i < z.length → inR (z.getD i 0))), h, h.length, h.length) := by
  refine g51_ok (meansX_ok F1 ro) rfl ?_
  unfold g51
  simp only [len_row a, oS, iS, meansX_loop]
  have hl := loop_if (b := fun s => g51_b0 (meansX F1 ro) ro v (z.length : Int) ⟨h, h.length, h.length⟩ s) (fun i => (i : Int)) z.length (fun i => inR (z.getD i 0)) (.inl ()) (.inr false) ?_ ?_ ?_
  · have e0 : ((0 : Nat) : Int) = 0 := rfl
    rw [e0] at hl
    rw [hl]
    by_cases hf : ∀ i, i < z.length → inR (z.getD i 0)
    · rw [if_pos hf]
      simp only [oS, tA, dT hf]
      exact fin_pure rfl
    · rw [if_neg hf]
      simp only [oS, tA, dF hf]
      exact fin_pure rfl
  · simp only [g51_b0, fB, ltF (Int.lt_irrefl _), cF]
  · intro i hi hp
    obtain ⟨p, h1, h2, h3⟩ := at_row (m := ⟨h, h.length, h.length⟩) rfl a hi
    obtain ⟨hp1, hp2⟩ := hp
    simp only [g51_b0, fB, ltT (show (i : Int) < (z.length : Int) by omega), cT, h1, oS, h2, iS, ltF (show ¬ z.getD i 0 < 0 by omega), ltF (show ¬ 1152921504606846976 < z.getD i 0 by omega), cF, fI', wr_next (show i ≤ 1000000 by omega)]
  · intro i hi hp
    obtain ⟨p, h1, h2, h3⟩ := at_row (m := ⟨h, h.length, h.length⟩) rfl a hi
    simp only [g51_b0, fB, ltT (show (i : Int) < (z.length : Int) by omega), cT, h1, oS, h2, iS]
    rcases Int.lt_or_le (z.getD i 0) 0 with hh | hh
    · simp only [ltT hh, cT, oS]
    · have : 1152921504606846976 < z.getD i 0 := by
        rcases Int.lt_or_le 1152921504606846976 (z.getD i 0) with h4 | h4
        · exact h4
        · exact absurd ⟨hh, h4⟩ hp
      simp only [ltF (show ¬ z.getD i 0 < 0 by omega), ltT this, cF, oS, cT]
theorem bsl1 (hp : Heap) (l p : Nat) (x : Int) : stepM ro ⟨hp, l, p⟩ (.bsl 3 1 [(AVal.i IntKind.i64 0)] 1 [((0, 1), .c (.i .i64 x))]) = some (.sl ⟨false, hp.length, 0⟩ 1 (.known 1), ⟨hp ++ [some (blkOf 3 [.i .i64 x])], l, p⟩) := rfl
theorem newRow (hp : Heap) (z : List Int) (c : Cap) : IsRow ro (hp ++ [some (blkOf 3 (z.map (AVal.i .i64)))]) (.sl ⟨false, hp.length, 0⟩ z.length c) z := by
  refine .inr ⟨_, _, blkOf 3 (z.map (AVal.i .i64)), rfl, rdB_heap (lget_last _ _) 0, by simp [blkOf], fun j hj => ?_⟩
  rw [Nat.zero_add, get_blk, map_getD hj]
/-- one number in range? the list that is made for it is dropped later -/
theorem one51 {x : Int} {l p : Nat} (hl : l ≤ h.length) (hp : p ≤ h.length) : ∃ v H, stepM ro ⟨h, l, p⟩ (.bsl 3 1 [(AVal.i IntKind.i64 0)] 1 [((0, 1), .c (.i .i64 x))]) = some (v, ⟨H, l, p⟩) ∧ callM (callX F1 ro) ⟨H, l, p⟩ 51 [v] = some (.b (decide (inR x)), ⟨H, l, p⟩) ∧ Keep h H := by
  refine ⟨_, _, bsl1 h l p x, ?_, Keep.app _⟩
  have h1 := all51 (ro := ro) (newRow h [x] (.known 1)) (by simp)
  have e : decide (∀ i, i < [x].length → inR ([x].getD i 0)) = decide (inR x) := by
    apply decide_eq_decide.2
    exact ⟨fun hh => hh 0 (by simp), fun hh i hi => by obtain rfl : i = 0 := by simp at hi; omega
                                                       exact hh⟩
  rw [e] at h1
  exact callM_pure h1 (by simp; omega) (by simp; omega)
/-- numbers as the program's ints -/
abbrev nts (l : List Nat) : List Int := l.map fun n : Nat => ((n : Nat) : Int)
theorem nts_len (l : List Nat) : (nts l).length = l.length := by simp
theorem nts_get {l : List Nat} {i : Nat} (h : i < l.length) : (nts l).getD i 0 = ((l.getD i 0 : Nat) : Int) := by simp [List.getD, h]
/-- the program's parts -/
theorem parts60 {n : Nat} (hn : n ≤ big) : ∃ v H, callX F1 ro 60 [.i .i64 (n : Int)] h = some (v, H, h.length, h.length) ∧ Keep h H ∧ IsRow ro H v (nts (zk n)) := by
  have hbig : big = 1152921504606846976 := rfl
  have e1 : pF 88 = (fb 88 : Int) := pF_low (k := 88) (by omega)
  have e2 : pF 87 = (fb 87 : Int) := pF_low (k := 87) (by omega)
  have key : ∃ r, loopX (fun s : Int × AVal × Int × Int × Int × Mm => g60_b0 (meansX F1 ro) ro s.1 s.2.1 s.2.2.1 s.2.2.2.1 s.2.2.2.2.1 s.2.2.2.2.2) ((n : Int), AVal.nsl, (fb 88 : Int), (fb 87 : Int), 88, ⟨h, h.length, h.length⟩) = some r ∧ ∃ w H, r = (w, ⟨H, h.length, h.length⟩) ∧ Keep h H ∧ IsRow ro H w (nts (zk n)) := by
    refine loop_exit 87 (fun j s => ∃ (r : Nat) (w : AVal) (H : Heap) (l : List Nat), s = ((r : Int), w, (fb (88 - j) : Int), (fb (87 - j) : Int), ((88 - j : Nat) : Int), ⟨H, h.length, h.length⟩) ∧ Keep h H ∧ GV H h.length 3 1 w l.length ((nts l).map (AVal.i .i64)) ∧ l.length ≤ j ∧ l ++ gz (88 - j) r = zk n ∧ r < fb (89 - j)) _ ?_ ?_ 87 0 _ (by omega) ⟨n, .nsl, h, [], rfl, Keep.refl h, GV.nil _ _ _ _, by simp, rfl, by
      show n < fb 89
      rw [fb89]; omega⟩
    · rintro j s hj ⟨r, w, H, l, rfl, kp, g, hlen, hl, hr⟩
      obtain ⟨i, hi⟩ : ∃ i, 88 - j = i + 2 := ⟨86 - j, by omega⟩
      have hi1 : 87 - j = i + 1 := by omega
      have hi2 : 89 - j = i + 3 := by omega
      have hj1 : 88 - (j + 1) = i + 1 := by omega
      have hj2 : 87 - (j + 1) = i := by omega
      have hj3 : 89 - (j + 1) = i + 2 := by omega
      rw [hi] at hl
      rw [hi2] at hr
      simp only [hi, hi1]
      rcases Nat.eq_zero_or_pos r with rfl | hr0
      · refine .inr ⟨(w, ⟨H, h.length, h.length⟩), ?_, w, H, rfl, kp, ?_⟩
        · simp only [g60_b0, fB, ltF (show ¬ (0 : Int) < ((0 : Nat) : Int) by omega), cF]
        · rw [gz_zero, List.append_nil] at hl
          rw [← hl]
          exact GV.row g (nts_len l)
      · have hf := fb_le (show i + 2 ≤ 88 by omega)
        rw [fb88] at hf
        have ef : fb (i + 3) = fb (i + 1) + fb (i + 2) := rfl
        have ef2 : fb (i + 2) = fb i + fb (i + 1) := rfl
        have e3 : wr .i64 ((fb (i + 2) : Int) - (fb (i + 1) : Int)) = (fb i : Int) := by rw [wr_id' (by omega) (by omega)]; omega
        have e4 : wr .i64 (((i + 2 : Nat) : Int) - 1) = ((i + 1 : Nat) : Int) := by rw [wr_id' (by omega) (by omega)]; omega
        refine .inl ?_
        by_cases hc : fb (i + 2) ≤ r
        · obtain ⟨v2, hp2, v3, hp3, s1, s2, g2, k1, k2⟩ := GV.push (ro := ro) (L0 := h.length) (bytes := 8) (z := [AVal.i .i64 0]) (w := .i .i64 ((i + 2 : Nat) : Int)) (ws := [.i .i64 ((i + 2 : Nat) : Int)]) g (Nat.le_refl _) kp.1 (by omega) (by omega) (by omega) rfl rfl rfl rfl rfl
          have e5 : wr .i64 ((r : Int) - (fb (i + 2) : Int)) = ((r - fb (i + 2) : Nat) : Int) := by rw [wr_id' (by omega) (by omega)]; omega
          refine ⟨_, (by simp only [g60_b0, fB, ltT (show (0 : Int) < (r : Int) by omega), cT, ltF (show ¬ (r : Int) < (fb (i + 2) : Int) by omega), nF, s1, pS, s2, fI', e5, oS, e3, e4]; rfl), r - fb (i + 2), v3, hp3, l ++ [i + 2], by rw [hj1, hj2], ⟨Nat.le_trans kp.1 k1, fun q hq => by rw [k2 q hq, kp.2 q hq]⟩, ?_, by simp; omega, ?_, ?_⟩
          · rw [List.length_append, show nts (l ++ [i + 2]) = nts l ++ [((i + 2 : Nat) : Int)] by simp, List.map_append]
            simpa using g2
          · rw [hj1, ← hl, gz_take hc]; simp
          · rw [hj3]; omega
        · refine ⟨_, (by simp only [g60_b0, fB, ltT (show (0 : Int) < (r : Int) by omega), cT, ltT (show (r : Int) < (fb (i + 2) : Int) by omega), nT, cF, oS, fI', e3, e4]; rfl), r, w, H, l, by rw [hj1, hj2], kp, g, by omega, ?_, ?_⟩
          · rw [hj1, ← hl, gz_skip (i := i + 1) (by show r < fb (i + 2); omega)]
          · rw [hj3]; omega
    · rintro s ⟨r, w, H, l, rfl, kp, g, hlen, hl, hr⟩
      have : r = 0 := by have : fb (89 - 87) = 1 := rfl; omega
      subst this
      refine ⟨(w, ⟨H, h.length, h.length⟩), ?_, w, H, rfl, kp, ?_⟩
      · simp only [g60_b0, fB, ltF (show ¬ (0 : Int) < ((0 : Nat) : Int) by omega), cF]
      · rw [gz_zero, List.append_nil] at hl
        rw [← hl]
        exact GV.row g (nts_len l)
  obtain ⟨r, h1, w, H, rfl, kp, hrow⟩ := key
  obtain ⟨H', f1, f2, f3⟩ := fin_rowW (w := w) kp hrow rfl
  refine ⟨w, H', g60_ok (meansX_ok F1 ro) rfl ?_, f2, f3⟩
  unfold g60
  simp only [mC, cp0 (fib71 (i := 88) (by omega) (by omega)), cp0 (fib71 (i := 87) (by omega) (by omega)), pS, iS, e1, e2, meansX_loop]
  rw [h1]
  simp only [oS, tA]
  exact f1
end
end Go.Proofs.Ytobmcofkcfifkaa.T

/- Sums of shifted parts, as the program adds them. -/
open Go.Vm
set_option linter.unusedVariables false
namespace Go.Proofs.Ytobmcofkcfifkaa.T
open Go

theorem zk_at {n j : Nat} (hn : n ≤ big) (hj : j < (zk n).length) : 2 ≤ (zk n).getD j 0 ∧ (zk n).getD j 0 ≤ 88 := by
  have hm : (zk n).getD j 0 ∈ zk n := by
    have : (zk n).getD j 0 = (zk n)[j] := by simp [List.getD, hj]
    rw [this]; exact List.getElem_mem hj
  have := (zk_ok hn).1.mem hm
  omega
theorem zk_len {n : Nat} (hn : n ≤ big) : (zk n).length ≤ 44 := by
  have := (zk_ok hn).1.len
  omega
theorem zk_mem {n j : Nat} (hj : j < (zk n).length) : (zk n).getD j 0 ∈ zk n := by
  have : (zk n).getD j 0 = (zk n)[j] := by simp [List.getD, hj]
  rw [this]; exact List.getElem_mem hj
section
variable {ro : List ABlk} {h : Heap}
/-- the least part's index -/
def lp (n : Nat) : Nat := (zk n).getD ((zk n).length - 1) 0
theorem least72 {n : Nat} (hn : n ≤ big) (h0 : 0 < n) : callX F1 ro 72 [.i .i64 (n : Int)] h = some (.i .i64 (lp n : Int), h, h.length, h.length) := by
  obtain ⟨v, H, c1, kp, hv⟩ := parts60 (ro := ro) (h := h) hn
  refine g72_ok (meansX_ok F1 ro) rfl ?_
  unfold g72
  have hlen := zk_len hn
  have hpos : 0 < (zk n).length := List.length_pos_iff.2 (zk_ne hn h0)
  obtain ⟨p, h1, h2, h3⟩ := at_row (m := ⟨H, h.length, h.length⟩) rfl hv (show (zk n).length - 1 < (nts (zk n)).length by rw [nts_len]; omega)
  rw [nts_get (by omega)] at h2
  have e1 : wr .i64 (((nts (zk n)).length : Int) - 1) = (((zk n).length - 1 : Nat) : Int) := by rw [nts_len, wr_id' (by omega) (by omega)]; omega
  simp only [mC, cM c1 (Nat.le_refl _) (Nat.le_refl _), pS, len_row hv, oS, iS, fI', e1, h1, h2, tA]
  exact fin_keep kp rfl
end
theorem lp_bd {n : Nat} (hn : n ≤ big) (h0 : 0 < n) : 2 ≤ lp n ∧ lp n ≤ 88 := by
  have hpos : 0 < (zk n).length := List.length_pos_iff.2 (zk_ne hn h0)
  exact zk_at hn (by omega)
/-- shifted up -/
def su (b : Nat) : List Nat → Nat
  | [] => 0
  | i :: l => fb (i + b) + su b l
end Go.Proofs.Ytobmcofkcfifkaa.T

/- Take, by the program and by the reference. -/
open Go.Vm
set_option linter.unusedVariables false
namespace Go.Proofs.Ytobmcofkcfifkaa.T
open Go

section
variable {ro : List ABlk} {h : Heap}
theorem inR_nat {n : Int} (hr : inR n) : ∃ k : Nat, n = (k : Int) ∧ k ≤ big := by
  obtain ⟨k, rfl⟩ := Int.eq_ofNat_of_zero_le hr.1
  have := hr.2
  exact ⟨k, rfl, by have : big = 1152921504606846976 := rfl; omega⟩
theorem nat_inR {k : Nat} (h : k ≤ big) : inR (k : Int) := ⟨by omega, by have : big = 1152921504606846976 := rfl; omega⟩
/-- two results -/
def ret2 (p : Int × Int) : AVal := .tup [.i .i64 p.1, .i .i64 p.2]
theorem r20 (p : Int × Int) : evP .e (.ext 0 (.c (ret2 p))) = some (.i .i64 p.1) := x0 _ _
theorem r21 (p : Int × Int) : evP .e (.ext 1 (.c (ret2 p))) = some (.i .i64 p.2) := x1 _ _ _
theorem fb_lp {n : Nat} (hn : n ≤ big) (h0 : 0 < n) : pF (lp n : Int) = (fb (lp n) : Int) ∧ rF (lp n : Int) = (fb (lp n) : Int) := by
  have := lp_bd hn h0
  exact ⟨pF_low this.2, rF_low (by omega)⟩

/- Take -/
def takeV (n m : Int) : Int × Int := if ¬ inR n then (0, 4) else if m < 1 then (0, 2) else if n = 0 then (0, 10) else if m < (fb (lp n.toNat) : Int) then (0, 10) else ((fb (lp n.toNat) : Int), 0)
theorem take39 {n m : Int} : callX F1 ro 39 [.i .i64 n, .i .i64 m] h = some (ret2 (takeV n m), h, h.length, h.length) := by
  refine g39_ok (meansX_ok F1 ro) rfl ?_
  obtain ⟨v, H, s1, s2, kp⟩ := one51 (ro := ro) (h := h) (x := n) (Nat.le_refl _) (Nat.le_refl _)
  unfold g39
  simp only [s1, pS, mC, s2, bS, fB]
  unfold takeV
  by_cases hr : inR n
  · rw [dT hr, if_neg (fun e => e hr)]
    simp only [nT, cF]
    rcases Int.lt_or_le m 1 with hm | hm
    · simp only [ltT hm, cT, if_pos hm, tA2]
      exact fin_keep kp rfl
    · simp only [ltF (show ¬ m < 1 by omega), cF, if_neg (show ¬ m < 1 by omega)]
      obtain ⟨k, rfl, hk⟩ := inR_nat hr
      rcases Nat.eq_zero_or_pos k with rfl | h0
      · have e : eqI ((0 : Nat) : Int) 0 = true := rfl
        simp only [e, cT, if_pos (show ((0 : Nat) : Int) = 0 from rfl), tA2]
        exact fin_keep kp rfl
      · obtain ⟨l1, l2⟩ := lp_bd hk h0
        simp only [eqI_ne (show (k : Int) ≠ 0 by omega), cF, if_neg (show ¬ (k : Int) = 0 by omega), cp (least72 (ro := ro) (h := H) hk h0) kp.1 kp.1, pS, iS, cp (fib71 (ro := ro) (h := H) (i := (lp k : Int)) (by omega) (by omega)) kp.1 kp.1, (fb_lp hk h0).1, Int.toNat_natCast]
        rcases Int.lt_or_le m (fb (lp k) : Int) with hf | hf
        · simp only [ltT hf, cT, if_pos hf, tA2]
          exact fin_keep kp rfl
        · simp only [ltF (show ¬ m < (fb (lp k) : Int) by omega), cF, if_neg (show ¬ m < (fb (lp k) : Int) by omega), tA2]
          exact fin_keep kp rfl
  · rw [dF hr, if_pos hr]
    simp only [nF, cT, tA2]
    exact fin_keep kp rfl
end
theorem exC {ro : List ABlk} {k : Nat} {l : List AVal} {h : Heap} {n m : Nat} {H : Heap} (e : callX F1 ro k l h = some (.b true, H, n, m)) : ∃ h' lw lp, callX F1 ro k l h = some (.b true, h', lw, lp) := ⟨_, _, _, e⟩
end Go.Proofs.Ytobmcofkcfifkaa.T

/- Shift, by the program and by the reference. -/
open Go.Vm
set_option linter.unusedVariables false
namespace Go.Proofs.Ytobmcofkcfifkaa.T
open Go

theorem take_one {l : List Nat} {j : Nat} (hj : j < l.length) : l.take (j + 1) = l.take j ++ [l.getD j 0] := by
  rw [List.take_succ_eq_append_getElem hj]; simp [List.getD, hj]
/- Shift -/
section
variable {ro : List ABlk} {h : Heap}
end
end Go.Proofs.Ytobmcofkcfifkaa.T

/- Circle, by the program and by the reference; the law of circles. -/
open Go.Vm
set_option linter.unusedVariables false
namespace Go.Proofs.Ytobmcofkcfifkaa.T
open Go

/- Circle -/
section
variable {ro : List ABlk} {h : Heap}
end
end Go.Proofs.Ytobmcofkcfifkaa.T

/- Array and Where, by the program and by the reference. -/
open Go.Vm
set_option linter.unusedVariables false
namespace Go.Proofs.Ytobmcofkcfifkaa.T
open Go

/- Array -/
section
variable {ro : List ABlk} {h : Heap}
end
/- Where -/
theorem Zk.pre : ∀ {l : List Nat} {t : Nat} (j : Nat), Zk t l → Zk t (l.take j)
  | [], t, j, _ => by rw [List.take_nil]; trivial
  | i :: l, t, 0, _ => trivial
  | i :: l, t, j + 1, ⟨h1, h2, h3⟩ => ⟨h1, h2, Zk.pre j h3⟩
theorem Zk.snoc : ∀ {l : List Nat} {t x i : Nat}, Zk t (l ++ [x]) → i ∈ l → x + 2 ≤ i
  | [], _, _, _, _, h => by simp at h
  | a :: l, t, x, i, ⟨h1, h2, h3⟩, hm => by
    rcases List.mem_cons.1 hm with rfl | hm
    · have := h3.mem (i := x) (by simp)
      omega
    · exact Zk.snoc h3 hm
theorem sm_app : ∀ l m : List Nat, sm (l ++ m) = sm l + sm m
  | [], m => by simp [sm]
  | i :: l, m => by
    show fb i + sm (l ++ m) = fb i + sm l + sm m
    rw [sm_app l m]; omega
theorem zk_last {n : Nat} (hn : n ≤ big) (h0 : 0 < n) : zk n = (zk n).take ((zk n).length - 1) ++ [lp n] := by
  have hpos : 0 < (zk n).length := List.length_pos_iff.2 (zk_ne hn h0)
  have h := take_one (l := zk n) (j := (zk n).length - 1) (by omega)
  rw [show (zk n).length - 1 + 1 = (zk n).length by omega, List.take_length] at h
  exact h
/-- what is left without the least part -/
theorem zk_less {n : Nat} (hn : n ≤ big) (h0 : 0 < n) : fb (lp n) ≤ n ∧ zk (n - fb (lp n)) = (zk n).take ((zk n).length - 1) := by
  obtain ⟨h1, h2⟩ := zk_ok hn
  have h3 := congrArg sm (zk_last hn h0)
  rw [sm_app, h2] at h3
  have h4 : sm [lp n] = fb (lp n) := rfl
  have h5 := zk_uniq (Zk.pre ((zk n).length - 1) h1)
  refine ⟨by omega, ?_⟩
  rw [show n - fb (lp n) = sm ((zk n).take ((zk n).length - 1)) by omega, h5]
section
variable {ro : List ABlk} {h : Heap}
end
end Go.Proofs.Ytobmcofkcfifkaa.T

/- The product of numbers by their parts: Knuth's theorem. -/
open Go.Vm
set_option linter.unusedVariables false
namespace Go.Proofs.Ytobmcofkcfifkaa.T
open Go

/-- a sum over a list -/
def sg (f : Nat → Nat) : List Nat → Nat
  | [] => 0
  | i :: l => f i + sg f l
/-- the parts one lower -/
def sd (l : List Nat) : Nat := sg (fun i => fb (i - 1)) l
end Go.Proofs.Ytobmcofkcfifkaa.T

/- Numbers made smaller; Knuth's law. -/
open Go.Vm
set_option linter.unusedVariables false
namespace Go.Proofs.Ytobmcofkcfifkaa.T
open Go

section
variable {ro : List ABlk} {h : Heap}
theorem u64_pos {n : Int} (h : (Lit.int .u64 n).wf = true) : 0 ≤ n := by
  simp [Lit.wf] at h
  exact h.1
theorem u8_bd {n : Int} (h : (Lit.int .u8 n).wf = true) : 0 ≤ n ∧ n ≤ 255 := by
  simp [Lit.wf] at h
  exact ⟨h.1, h.2⟩
theorem number45 {n : Int} (h0 : 0 ≤ n) : ∃ k : Nat, k ≤ big ∧ ∀ H, callX F1 ro 45 [.i .u64 n] H = some (.i .i64 (k : Int), H, H.length, H.length) := by
  obtain ⟨m, rfl⟩ := Int.eq_ofNat_of_zero_le h0
  have h1 : m % 1152921504606846977 < 1152921504606846977 := Nat.mod_lt _ (by decide)
  refine ⟨m % 1152921504606846977, by have : big = 1152921504606846976 := rfl; omega, fun H => g45_ok (meansX_ok F1 ro) rfl ?_⟩
  unfold g45
  have e : Int.tmod (m : Int) 1152921504606846977 = ((m % 1152921504606846977 : Nat) : Int) := rfl
  simp only [fI', e, lt64 (show m % 1152921504606846977 ≤ 9223372036854775807 by omega), tA]
  exact fin_pure rfl
end
end Go.Proofs.Ytobmcofkcfifkaa.T

/- Blocks of bytes; copies; zeros as many as one likes. -/
open Go.Vm
set_option linter.unusedVariables false
namespace Go.Proofs.Ytobmcofkcfifkaa.T
open Go

/-- a byte -/
def bv (c : UInt8) : AVal := .i .u8 (c.toNat : Int)
/-- a block of values, no more to it -/
def HB (hp : Heap) (b : Nat) (vs : List AVal) : Prop := ∃ blk, lget hp b = some (some blk) ∧ blk.g = none ∧ blk.n = vs.length ∧ ∀ j, j < vs.length → blk.c.get j = vs.getD j und
theorem HB.holds {hp : Heap} {b : Nat} {vs : List AVal} (a : HB hp b vs) : Holds hp b vs := by
  obtain ⟨blk, h1, -, h2, h3⟩ := a
  exact ⟨blk, h1, h2, h3⟩
theorem HB.lt {hp : Heap} {b : Nat} {vs : List AVal} (a : HB hp b vs) : b < hp.length := a.holds.lt
theorem HB.new (hp : Heap) (e : Nat) (vs : List AVal) : HB (hp ++ [some (blkOf e vs)]) hp.length vs := ⟨_, lget_last _ _, rfl, rfl, fun j _ => get_blk e vs j⟩
theorem HB.keep {hp hp' : Heap} {b : Nat} {vs : List AVal} (a : HB hp b vs) (hk : hp'[b]? = hp[b]?) : HB hp' b vs := by
  obtain ⟨blk, h1, h2⟩ := a
  exact ⟨blk, by rw [lget_of hk]; exact h1, h2⟩
theorem getD_map_range {α : Type} (f : Nat → α) (d : α) {n j : Nat} (hj : j < n) : ((List.range n).map f).getD j d = f j := by
  simp [List.getD, hj]
theorem wrH_off {hp : Heap} {b off : Nat} {blk : ABlk} {vs : List AVal} (hb : lget hp b = some (some blk)) (hn : off + vs.length ≤ blk.n) (ho : ones vs = true) : wrH hp ⟨false, b, off⟩ vs = some (hp.set b (some { blk with c := blk.c.splice off vs })) := by
  have : (Nat.ble (off + vs.length) blk.n && ones vs) = true := by rw [ho, Bool.and_true, Nat.ble_eq]; omega
  simp only [wrH, cond_false, hb, this, cond_true, lset_eq]
/-- values in the middle of a block -/
theorem HB.wr {hp : Heap} {b off n : Nat} {f g : Nat → AVal} {vs : List AVal} (a : HB hp b ((List.range n).map f)) (hn : off + vs.length ≤ n) (ho : ones vs = true) (hg : ∀ j, j < n → g j = if off ≤ j ∧ j < off + vs.length then vs.getD (j - off) und else f j) :
    ∃ hp', wrH hp ⟨false, b, off⟩ vs = some hp' ∧ HB hp' b ((List.range n).map g) ∧ hp'.length = hp.length ∧ ∀ i, i ≠ b → hp'[i]? = hp[i]? := by
  obtain ⟨blk, h1, h2, h3, h4⟩ := a
  have hl : ∀ k : Nat → AVal, ((List.range n).map k).length = n := fun k => by simp
  rw [hl] at h3 h4
  refine ⟨_, wrH_off h1 (by omega) ho, ⟨_, lget_set h1 _, h2, ?_, fun j hj => ?_⟩, by simp, fun i hi => List.getElem?_set_ne (Ne.symm hi)⟩
  · rw [hl]; exact h3
  · rw [hl] at hj
    rw [getD_map_range g und hj, hg j hj]
    show (blk.c.splice off vs).get j = _
    rw [spliceGet]
    split
    · rfl
    · rw [h4 j hj, getD_map_range f und hj]
theorem ones_rep (c : UInt8) : ∀ n, ones (List.replicate n (bv c)) = true
  | 0 => rfl
  | n + 1 => by rw [List.replicate_succ]; simp only [ones, ones_rep c n]; rfl
theorem nonp_rep (c : UInt8) : ∀ n, nonp (List.replicate n (bv c)) = true
  | 0 => rfl
  | n + 1 => by rw [List.replicate_succ]; simp only [nonp, ones_rep]; first | rfl | (have := nonp_rep c n; simp_all [nonp, bv, AVal.scalar])
/-- so many bytes are there -/
def rp (c : UInt8) (k j : Nat) : AVal := if j < k then bv c else .jk
theorem jks_range : ∀ n, jks n = (List.range n).map (rp 48 0) := fun n => by
  refine List.ext_getElem? fun i => ?_
  rcases Nat.lt_or_ge i n with hi | hi
  · have h1 : i < (jks n).length := by rw [jks_length]; exact hi
    rw [List.getElem?_eq_getElem h1, jks_get n i _ (List.getElem?_eq_getElem h1)]
    simp [rp, hi]
  · rw [List.getElem?_eq_none (by rw [jks_length]; exact hi), List.getElem?_eq_none (by simp; exact hi)]
section
variable {ro : List ABlk} {h : Heap}
/-- the first copy -/
theorem cpy_first {hp : Heap} {b b0 n l p : Nat} {c c2 : Cap} {blk0 : ABlk} (hn : 1 ≤ n) (hl : l ≤ b) (a : HB hp b ((List.range n).map (rp 48 0))) (hz : lget hp b0 = some (some blk0)) (hg : blk0.g = some (.fz [48])) :
    ∃ hp', stepM ro ⟨hp, l, p⟩ (.cpy 1 (.c (.sl ⟨false, b, 0⟩ n c)) (.c (.sl ⟨false, b0, 0⟩ 1 c2))) = some (.i .i64 1, ⟨hp', l, p⟩) ∧ HB hp' b ((List.range n).map (rp 48 1)) ∧ hp'.length = hp.length ∧ ∀ i, i ≠ b → hp'[i]? = hp[i]? := by
  obtain ⟨hp', w1, w2, w3, w4⟩ := a.wr (off := 0) (vs := [bv 48]) (g := rp 48 1) (by simp; omega) rfl (fun j hj => by
    unfold rp
    by_cases e : j < 1
    · obtain rfl : j = 0 := by omega
      simp
    · rw [if_neg e, if_neg (by simp; omega), if_neg (by omega)])
  refine ⟨hp', ?_, w2, w3, w4⟩
  have e1 : min 1 n = 1 := by omega
  have e2 : fzB hp ⟨false, b0, 0⟩ = some [48] := by simp only [fzB, hz, hg]
  have e3 : (([48] : List UInt8).take 1).map (fun b => mkI .u8 (b.toNat : Int)) = [bv 48] := by simp [bv, mkI_eq]
  have e4 : (Nat.beq 1 1 && Nat.ble 1 ([48] : List UInt8).length) = true := rfl
  have e5 : nonp [bv 48] = true := rfl
  simp only [stepM, stepK, opd, st_cpy, e2, st_cpyF, e1, e4, e3, w1, e5, cond_true, St.mm, Nat.min_eq_left hl]
  rw [mkI_eq]; rfl
/-- the next one -/
theorem cpy_next {hp : Heap} {b k n l p : Nat} {c c2 : Cap} (hk : 1 ≤ k) (hkn : k < n) (hl : l ≤ b) (a : HB hp b ((List.range n).map (rp 48 k))) :
    ∃ hp', stepM ro ⟨hp, l, p⟩ (.cpy 1 (.c (.sl ⟨false, b, k⟩ (n - k) c)) (.c (.sl ⟨false, b, 0⟩ (min k n) c2))) = some (.i .i64 ((min k (n - k) : Nat) : Int), ⟨hp', l, p⟩) ∧ HB hp' b ((List.range n).map (rp 48 (k + min k (n - k)))) ∧ hp'.length = hp.length ∧ ∀ i, i ≠ b → hp'[i]? = hp[i]? := by
  obtain ⟨m, hm⟩ : ∃ m, m = min k (n - k) := ⟨_, rfl⟩
  have hm2 : min (min k n) (n - k) = m := by omega
  obtain ⟨hp', w1, w2, w3, w4⟩ := a.wr (off := k) (vs := List.replicate m (bv 48)) (g := rp 48 (k + m)) (by simp; omega) (ones_rep 48 m) (fun j hj => by
    unfold rp
    rw [List.length_replicate]
    by_cases e : k ≤ j ∧ j < k + m
    · rw [if_pos e.2, if_pos e]
      simp [List.getD, show j - k < m by omega]
    · rw [if_neg e]
      by_cases e2 : j < k
      · rw [if_pos e2, if_pos (by omega)]
      · rw [if_neg e2, if_neg (by omega)])
  refine ⟨hp', ?_, by rw [← hm]; exact w2, w3, w4⟩
  obtain ⟨blk, b1, b2, b3, b4⟩ := a
  have hlen : ((List.range n).map (rp 48 k)).length = n := by simp
  rw [hlen] at b3 b4
  have e2 : fzB hp ⟨false, b, 0⟩ = none := by simp only [fzB, b1, b2]
  have e3 : rdB ro hp ⟨false, b, 0⟩ = some blk := rdB_heap b1 0
  have e4 : Nat.ble (0 + m * 1) blk.n = true := by rw [Nat.ble_eq]; omega
  have e5 : blk.c.row 0 (m * 1) = List.replicate m (bv 48) := by
    refine row_row (m * 1) 0 _ (by simp) fun j hj => ?_
    have hj' : j < m := by omega
    rw [Nat.zero_add, b4 j (by omega), getD_map_range _ _ (by omega)]
    simp [rp, List.getD, hj', show j < k by omega]
  simp only [stepM, stepK, opd, st_cpy, e2, e3, hm2, e4, e5, w1, nonp_rep, cond_true, St.mm, Nat.min_eq_left hl, mkI_eq]
  rw [← hm]
/-- the upper word of a product -/
def mulHi (x0 x1 : Int) : Int :=
  let x15 := bitV .and .u64 x0 4294967295
  let x17 := shrV .u64 x0 32
  let x19 := bitV .and .u64 x1 4294967295
  let x21 := shrV .u64 x1 32
  let x24 := wr .u64 (x15 * x19)
  let x27 := wr .u64 (x17 * x19)
  let x29 := shrV .u64 x24 32
  let x30 := wr .u64 (x27 + x29)
  let x32 := bitV .and .u64 x30 4294967295
  let x34 := shrV .u64 x30 32
  let x38 := wr .u64 (x15 * x21)
  let x39 := wr .u64 (x32 + x38)
  let x42 := wr .u64 (x17 * x21)
  let x44 := wr .u64 (x42 + x34)
  let x46 := shrV .u64 x39 32
  wr .u64 (x44 + x46)
theorem mulHi_all : ∀ n : Nat, n < 101 → mulHi 1 (n : Int) = 0 := by decide +kernel
theorem wr_u64_one : ∀ n : Nat, n < 101 → wr .u64 (1 * (n : Int)) = (n : Int) := by decide +kernel
theorem wr_u64 : ∀ n : Nat, n < 101 → wr .u64 (n : Int) = (n : Int) := by decide +kernel
theorem mul78 {n : Nat} (hn : n ≤ 100) : callX F1 ro 78 [.i .u64 1, .i .u64 (n : Int)] h = some (.tup [.i .u64 0, .i .u64 (n : Int)], h, h.length, h.length) := by
  have h86 : callX F1 ro 86 [.i .u64 1, .i .u64 (n : Int)] h = some (.tup [.i .u64 0, .i .u64 (n : Int)], h, h.length, h.length) := by
    refine g86_ok (meansX_ok F1 ro) rfl ?_
    unfold g86
    have e := mulHi_all n (by omega)
    simp only [mulHi] at e
    simp only [fI', e, wr_u64_one n (by omega), tA2]
    exact fin_pure rfl
  refine g78_ok (meansX_ok F1 ro) rfl ?_
  unfold g78
  simp only [mC, cp0 h86, pS, x0, x1, oS, iS, tA2]
  exact fin_pure rfl
theorem len_sl {q : Vm.Loc} {n : Nat} {c : Cap} : evP .e (.len false (.c (.sl q n c))) = some (.i .i64 (n : Int)) := by
  simp only [evP, ev_len, opd, cond_false, mkI_eq]
/-- cuts of bytes -/
theorem cut_full {b n : Nat} : evP .e (.slS 1 (.c (.sl ⟨false, b, 0⟩ n .grow)) none (some (.c (.i .i64 (n : Int)))) (some (.c (.i .i64 (n : Int))))) = some (.sl ⟨false, b, 0⟩ n (.known n)) := by
  have e : ((n : Nat) : Int) = Int.ofNat n := rfl
  have e1 : Nat.ble n n = true := by rw [Nat.ble_eq]; exact Nat.le_refl _
  have e2 : (Nat.blt 0 n || Nat.beq 0 0) = true := by simp
  simp only [evP, ev_slS, opd, e, sl_mx, capLe, sbound, e1, cond_true, e2, Option.map_none, Nat.zero_mul, Nat.add_zero, Nat.sub_zero]
theorem cut_hi {b n k : Nat} (hk : k ≤ n) : evP .e (.slS 1 (.c (.sl ⟨false, b, 0⟩ n (.known n))) none (some (.c (.i .i64 (k : Int)))) none) = some (.sl ⟨false, b, 0⟩ k (.known n)) := by
  have e : ((k : Nat) : Int) = Int.ofNat k := rfl
  have e1 : Nat.ble k n = true := by rw [Nat.ble_eq]; exact hk
  simp only [evP, ev_slS, opd, e, sl_lh, capB, sbound, e1, cond_true, Option.map_none, Option.map_some]
theorem cut_lo {b n k : Nat} (h1 : 1 ≤ k) (hk : k < n) : evP .e (.slS 1 (.c (.sl ⟨false, b, 0⟩ n (.known n))) (some (.c (.i .i64 (k : Int)))) none none) = some (.sl ⟨false, b, k⟩ (n - k) (.known (n - k))) := by
  obtain ⟨q, rfl⟩ : ∃ q, k = q + 1 := ⟨k - 1, by omega⟩
  have e : ((q + 1 : Nat) : Int) = Int.ofNat (q + 1) := rfl
  have e1 : Nat.ble (q + 1) n = true := by rw [Nat.ble_eq]; omega
  have e2 : Nat.blt (q + 1) n = true := by rw [Nat.blt_eq]; exact hk
  simp only [evP, ev_slS, opd, e, sl_lh, capB, sbound, e1, e2, cond_true, Option.map_none, Option.map_some, Nat.zero_add, Nat.mul_one]
/-- zeros, as many as one likes -/
theorem repeat73 {hp : Heap} {b0 n : Nat} {c2 : Cap} {blk0 : ABlk} (h1 : 1 ≤ n) (h2 : n ≤ 100) (hz : lget hp b0 = some (some blk0)) (hg : blk0.g = some (.fz [48])) :
    ∃ H, callX F1 ro 73 [.sl ⟨false, b0, 0⟩ 1 c2, .i .i64 (n : Int)] hp = some (.sl ⟨false, hp.length, 0⟩ n (.known n), H, hp.length, hp.length) ∧ Keep hp H ∧ H.length = hp.length + 1 ∧ HB H hp.length ((List.range n).map (rp 48 n)) := by
  obtain ⟨hp1, e1⟩ : ∃ hp1, hp1 = hp ++ [some (blkOf 5 (jks n))] := ⟨_, rfl⟩
  have hb0 : b0 < hp.length := lget_lt hz
  have hz1 : lget hp1 b0 = some (some blk0) := by rw [e1]; exact lget_ext hz _
  have hl1 : hp1.length = hp.length + 1 := by rw [e1]; simp
  have a0 : HB hp1 hp.length ((List.range n).map (rp 48 0)) := by rw [e1, ← jks_range]; exact HB.new _ _ _
  obtain ⟨hp2, c1, a1, l2, k2⟩ := cpy_first (ro := ro) (l := hp.length) (p := hp.length) (c := .known n) (c2 := c2) h1 (Nat.le_refl _) a0 hz1 hg
  have kp2 : Keep hp hp2 := ⟨by omega, fun i hi => by rw [k2 i (by omega), e1, List.getElem?_append_left hi]⟩
  have key : ∃ r, loopX (fun s : Int × Mm => g73_b3 (meansX F1 ro) ro (n : Int) (n : Int) (.sl ⟨false, hp.length, 0⟩ n (.known n)) s.1 s.2) (1, ⟨hp2, hp.length, hp.length⟩) = some r ∧ ∃ H, r = ⟨H, hp.length, hp.length⟩ ∧ Keep hp H ∧ H.length = hp.length + 1 ∧ HB H hp.length ((List.range n).map (rp 48 n)) := by
    refine loop_exit (n - 1) (fun i s => ∃ (k : Nat) (H : Heap), s = ((k : Int), ⟨H, hp.length, hp.length⟩) ∧ i + 1 ≤ k ∧ k ≤ n ∧ Keep hp H ∧ H.length = hp.length + 1 ∧ HB H hp.length ((List.range n).map (rp 48 k))) _ ?_ ?_ (n - 1) 0 _ (by omega) ⟨1, hp2, rfl, by omega, h1, kp2, by omega, a1⟩
    · rintro i s hi ⟨k, H, rfl, k1, k3, kp, hl, a⟩
      rcases Nat.lt_or_ge k n with hk | hk
      · refine .inl ?_
        obtain ⟨H', c3, a3, l3, k4⟩ := cpy_next (ro := ro) (l := hp.length) (p := hp.length) (c := .known (n - k)) (c2 := .known n) (by omega : 1 ≤ k) hk (Nat.le_refl _) a
        have e3 : mxV false (k : Int) (n : Int) = ((min k n : Nat) : Int) := mxF
        have e4 : wr .i64 ((k : Int) + ((min k (n - k) : Nat) : Int)) = ((k + min k (n - k) : Nat) : Int) := by rw [wr_id' (by omega) (by omega)]; omega
        refine ⟨_, (by simp only [g73_b3, fB, ltT (show (k : Int) < (n : Int) by omega), cT, fI', e3, cut_lo (b := hp.length) (by omega : 1 ≤ k) hk, cut_hi (b := hp.length) (show min k n ≤ n by omega), oS, c3, pS, iS, e4] <;> rfl), k + min k (n - k), H', rfl, by omega, by omega, ⟨by omega, fun j hj => by rw [k4 j (by omega), kp.2 j hj]⟩, by omega, a3⟩
      · obtain rfl : k = n := by omega
        refine .inr ⟨_, (by simp only [g73_b3, fB, ltF (Int.lt_irrefl _), cF] <;> rfl), H, rfl, kp, hl, a⟩
    · rintro s ⟨k, H, rfl, k1, k3, kp, hl, a⟩
      obtain rfl : k = n := by omega
      exact ⟨_, (by simp only [g73_b3, fB, ltF (Int.lt_irrefl _), cF] <;> rfl), H, rfl, kp, hl, a⟩
  obtain ⟨r, f1, H, rfl, kp, hl, a⟩ := key
  refine ⟨H, g73_ok (meansX_ok F1 ro) rfl ?_, kp, hl, a⟩
  unfold g73
  have w1 : wr .u64 1 = 1 := wr_u64 1 (by omega)
  have w2 : wr .i64 (n : Int) = (n : Int) := lt64 (by omega)
  have e0 : evP .e (.len false (.c (.sl ⟨false, b0, 0⟩ 1 c2))) = some (.i .i64 1) := len_sl
  have m1 : stepM ro ⟨hp, hp.length, hp.length⟩ (.mnz 5 (.c (.i .i64 (n : Int)))) = some (.sl ⟨false, hp.length, 0⟩ n .grow, ⟨hp1, hp.length, hp.length⟩) := by
    have e : ((n : Nat) : Int) = Int.ofNat n := rfl
    have e2 : Nat.ble n 281474976710656 = true := by rw [Nat.ble_eq]; omega
    simp only [stepM, stepK, opd, e, st_mnz, e2, cond_true, newB, St.mm, e1]
  simp only [fB, eqI_ne (show (n : Int) ≠ 0 by omega), cF, ltF (show ¬ (n : Int) < 0 by omega), e0, oS, iS, fI', w1, wr_u64 n (by omega), mC, cp0 (mul78 (ro := ro) (h := hp) h2), pS, x0, x1, ltF (show ¬ (0 : Int) < 0 by decide), ltF (show ¬ (9223372036854775807 : Int) < (n : Int) by omega), w2, eqI_ne (show (1 : Int) ≠ 0 by decide), ltF (show ¬ (8192 : Int) < (n : Int) by omega), m1, cut_full, c1, meansX_loop, f1, tA]
  obtain ⟨H', g1, g2, g3⟩ := fin_any (h := hp) (H := H) (w := .sl ⟨false, hp.length, 0⟩ n (.known n)) kp
  have hbel : (AVal.sl ⟨false, hp.length, 0⟩ n (.known n)).bel hp.length = false := by
    have hlt : Nat.blt hp.length hp.length = false := by
      cases h : Nat.blt hp.length hp.length
      · rfl
      · rw [Nat.blt_eq] at h; omega
    simp [AVal.bel, hlt]
  rw [g3 hbel] at g1
  exact g1
end
end Go.Proofs.Ytobmcofkcfifkaa.T

/- The program's word of a number. -/
open Go.Vm
set_option linter.unusedVariables false
namespace Go.Proofs.Ytobmcofkcfifkaa.T
open Go

/-- the digits of a number whose greatest part has the index f -/
def dg (l : List Nat) (i : Nat) : UInt8 := if i ∈ l then 49 else 48
def wd (f : Nat) (l : List Nat) : List UInt8 := (List.range (f - 1)).map fun p => dg l (f - p)
def word (n : Nat) : List UInt8 := if n = 0 then [48] else wd ((zk n).getD 0 0) (zk n)
theorem wd_len (f : Nat) (l : List Nat) : (wd f l).length = f - 1 := by simp [wd]
section
variable {ro : List ABlk} {h : Heap}
/-- bytes as a string -/
theorem bytesA_ok : ∀ l : List UInt8, bytesA (l.map bv) = some l
  | [] => rfl
  | c :: l => by
    have h1 : Nat.blt c.toNat 256 = true := by rw [Nat.blt_eq]; exact c.toNat_lt
    have h2 : UInt8.ofNat c.toNat = c := by simp
    show bytesA (AVal.i .u8 (Int.ofNat c.toNat) :: l.map bv) = _
    simp only [bytesA, h1, cond_true, bytesA_ok l, h2, Option.map_some]
theorem bts_ok {hp : Heap} {b l p : Nat} {c : Cap} {bs : List UInt8} (a : HB hp b (bs.map bv)) : btsM ro ⟨hp, l, p⟩ (.sl ⟨false, b, 0⟩ bs.length c) = some (.s bs) := by
  obtain ⟨blk, h1, h2, h3, h4⟩ := a
  rw [List.length_map] at h3 h4
  have e1 : rdB ro hp ⟨false, b, 0⟩ = some blk := rdB_heap h1 0
  have e2 : Nat.ble (0 + bs.length) blk.n = true := by rw [Nat.ble_eq]; omega
  have e3 : blk.c.row 0 bs.length = bs.map bv := row_row bs.length 0 _ (by simp) fun j hj => by rw [Nat.zero_add]; exact h4 j hj
  simp only [btsM, st_bts, Mm.st, e1, e2, cond_true, e3, bytesA_ok, Option.map_some]
/-- one byte is written -/
theorem HB.st1 {hp : Heap} {b k n l p : Nat} {f g : Nat → AVal} {c : UInt8} (a : HB hp b ((List.range n).map f)) (hk : k < n) (hl : l ≤ b) (hg : ∀ j, j < n → g j = if j = k then bv c else f j) :
    ∃ hp', stepM ro ⟨hp, l, p⟩ (.st 1 (.c (.p (some ⟨false, b, 0 + k⟩))) (.c (bv c))) = some (und, ⟨hp', l, p⟩) ∧ writesM ro [] [(⟨false, b, 0 + k⟩, AVal.cells (bv c))] ⟨hp, l, p⟩ = some ⟨hp', l, p⟩ ∧ HB hp' b ((List.range n).map g) ∧ hp'.length = hp.length ∧ ∀ i, i ≠ b → hp'[i]? = hp[i]? := by
  obtain ⟨blk, h1, h2, h3, h4⟩ := a
  have hlen : ∀ q : Nat → AVal, ((List.range n).map q).length = n := fun q => by simp
  rw [hlen] at h3 h4
  rw [Nat.zero_add]
  have s1 := st_heap (ro := ro) (l := l) (p := p) h1 (show k < blk.n by omega) (v := bv c) rfl rfl rfl
  have s2 := wr_heap (ro := ro) (l := l) (p := p) h1 (show k < blk.n by omega) (v := bv c) rfl rfl
  rw [Nat.min_eq_left hl] at s1 s2
  refine ⟨_, s1, s2, ⟨_, lget_set h1 _, h2, by rw [hlen]; exact h3, fun j hj => ?_⟩, by simp, fun i hi => List.getElem?_set_ne (Ne.symm hi)⟩
  rw [hlen] at hj
  rw [getD_map_range g und hj, hg j hj]
  show (blk.c.set k (bv c)).get j = _
  rw [get_set]
  by_cases e : k = j
  · rw [if_pos e, if_pos e.symm]
  · rw [if_neg e, if_neg (fun h => e h.symm), h4 j hj, getD_map_range f und hj]
theorem zk_first {n : Nat} (hn : n ≤ big) (h0 : 0 < n) : 2 ≤ (zk n).getD 0 0 ∧ (zk n).getD 0 0 ≤ 88 ∧ ∀ i ∈ zk n, i ≤ (zk n).getD 0 0 := by
  have hz := (zk_ok hn).1
  have hne := zk_ne hn h0
  cases hl : zk n with
  | nil => exact absurd hl hne
  | cons f l =>
    rw [hl] at hz
    obtain ⟨h1, h2, h3⟩ := hz
    refine ⟨h1, by show f ≤ 88; omega, fun i hi => ?_⟩
    rcases List.mem_cons.1 hi with rfl | hi
    · exact Nat.le_refl _
    · have := h3.mem hi; show i ≤ f; omega
/-- the digits so far -/
def dj (f : Nat) (l : List Nat) (j p : Nat) : AVal := bv (dg (l.take j) (f - p))
theorem dj_next {f j p : Nat} {l : List Nat} (hz : ∀ i ∈ l, 2 ≤ i ∧ i ≤ f) (hj : j < l.length) (hp : p < f - 1) : dj f l (j + 1) p = if p = f - l.getD j 0 then bv 49 else dj f l j p := by
  have hm : l.getD j 0 ∈ l := by
    have : l.getD j 0 = l[j] := by simp [List.getD, hj]
    rw [this]; exact List.getElem_mem hj
  obtain ⟨h1, h2⟩ := hz _ hm
  unfold dj dg
  rw [take_one hj]
  by_cases e : p = f - l.getD j 0
  · rw [if_pos e, if_pos (by rw [List.mem_append]; exact .inr (List.mem_singleton.2 (by omega)))]
  · rw [if_neg e]
    have : f - p ∈ l.take j ++ [l.getD j 0] ↔ f - p ∈ l.take j := by
      rw [List.mem_append]
      refine ⟨fun h => ?_, .inl⟩
      rcases h with h | h
      · exact h
      · simp only [List.mem_singleton] at h; omega
    simp only [this]
theorem dj_all (f : Nat) (l : List Nat) : (List.range (f - 1)).map (dj f l l.length) = (wd f l).map bv := by
  simp only [wd, List.map_map]
  refine List.map_congr_left fun p _ => ?_
  simp [dj]
theorem dj_zero (f : Nat) (l : List Nat) (n : Nat) : (List.range n).map (dj f l 0) = (List.range n).map (rp 48 n) := by
  refine List.map_congr_left fun p hp => ?_
  have := List.mem_range.1 hp
  simp [dj, dg, rp, this]
/-- the program's word -/
theorem written52 {n : Nat} (hn : n ≤ big) : callX F1 ro 52 [.i .i64 (n : Int)] h = some (.s (word n), h, h.length, h.length) := by
  refine g52_ok (meansX_ok F1 ro) rfl ?_
  unfold g52 word
  rcases Nat.eq_zero_or_pos n with rfl | h0
  · have e : eqI ((0 : Nat) : Int) 0 = true := rfl
    simp only [fB, e, cT, tA, if_true]
    exact fin_pure rfl
  rw [if_neg (by omega)]
  obtain ⟨v, H, c1, kp, hv⟩ := parts60 (ro := ro) (h := h) hn
  obtain ⟨f1, f2, f3⟩ := zk_first hn h0
  have hlen := zk_len hn
  have hpos : 0 < (zk n).length := List.length_pos_iff.2 (zk_ne hn h0)
  obtain ⟨f, hf⟩ : ∃ f, f = (zk n).getD 0 0 := ⟨_, rfl⟩
  rw [← hf] at f1 f2 f3 ⊢
  obtain ⟨p0, g1, g2, -⟩ := at_row (m := ⟨H, h.length, h.length⟩) rfl hv (show 0 < (nts (zk n)).length by rw [nts_len]; exact hpos)
  rw [nts_get hpos, ← hf] at g2
  have e0 : ((0 : Nat) : Int) = 0 := rfl
  rw [e0] at g1
  have e1 : wr .i64 ((f : Int) - 2) = ((f - 2 : Nat) : Int) := by rw [wr_id' (by omega) (by omega)]; omega
  have e2 : wr .i64 (((f - 2 : Nat) : Int) + 1) = ((f - 1 : Nat) : Int) := by rw [wr_id' (by omega) (by omega)]; omega
  -- the byte that is repeated
  have m1 : stepM ro ⟨H, h.length, h.length⟩ (.bsl 5 1 [(AVal.i IntKind.u8 0)] 1 [((0, 1), .c (.i .u8 48))]) = some (.sl ⟨false, H.length, 0⟩ 1 (.known 1), ⟨H ++ [some (blkOf 5 [.i .u8 48])], h.length, h.length⟩) := rfl
  obtain ⟨H1, hH1⟩ : ∃ H1, H1 = (H ++ [some (blkOf 5 [.i .u8 48])]).set H.length (some { e := 5, n := 0, c := .e, g := some (.fz [48]) }) := ⟨_, rfl⟩
  have hlH1 : H1.length = H.length + 1 := by rw [hH1]; simp
  have m2 : stepM ro ⟨H ++ [some (blkOf 5 [.i .u8 48])], h.length, h.length⟩ (.mks (.c (.sl ⟨false, H.length, 0⟩ 1 (.known 1)))) = some (.sl ⟨false, H.length, 0⟩ 1 (.known 1), ⟨H1, h.length, h.length⟩) := by
    have b1 : lget (H ++ [some (blkOf 5 [.i .u8 48])]) H.length = some (some (blkOf 5 [.i .u8 48])) := lget_last _ _
    have b2 : (blkOf 5 [.i .u8 48]).g = none := rfl
    have b3 : bytesA ((blkOf 5 [.i .u8 48]).c.row 0 1) = some [48] := by decide +kernel
    have b4 : (Nat.blt 0 1 && Nat.ble 1 (blkOf 5 [.i .u8 48]).n) = true := rfl
    simp only [stepM, stepK, opd, st_mks, b1, b2, b3, b4, cond_true, lset_eq, St.mm, Nat.min_eq_left kp.1, hH1]
    rfl
  have hz : lget H1 H.length = some (some { e := 5, n := 0, c := .e, g := some (.fz [48]) }) := by rw [hH1]; exact lget_set (lget_last _ _) _
  have kp1 : Keep h H1 := ⟨by have := kp.1; omega, fun i hi => by
    have := kp.1
    rw [hH1, List.getElem?_set_ne (by omega), List.getElem?_append_left (by omega), kp.2 i hi]⟩
  have hv1 : IsRow ro H1 v (nts (zk n)) := by
    refine row_by hv ⟨by omega, fun i hi => ?_⟩
    rw [hH1, List.getElem?_set_ne (by omega), List.getElem?_append_left hi]
  obtain ⟨H2, c2, kp2, l2, a2⟩ := repeat73 (ro := ro) (hp := H1) (b0 := H.length) (n := f - 1) (c2 := .known 1) (by omega) (by omega) hz rfl
  have kp3 := kp1.trans kp2
  have hv2 := row_by hv1 kp2
  rw [← dj_zero f (zk n)] at a2
  have hbl : h.length ≤ H1.length := kp1.1
  have hmem : ∀ i ∈ zk n, 2 ≤ i ∧ i ≤ f := fun i hi => ⟨((zk_ok hn).1.mem hi).1, f3 i hi⟩
  have key : ∃ r, loopX (fun s : Int × Mm => g52_b0 (meansX F1 ro) ro (f : Int) (.sl ⟨false, H1.length, 0⟩ (f - 1) (.known (f - 1))) v ((zk n).length : Int) s.1 s.2) (0, ⟨H2, h.length, h.length⟩) = some r ∧ ∃ K, r = ⟨K, h.length, h.length⟩ ∧ Keep h K ∧ HB K H1.length ((List.range (f - 1)).map (dj f (zk n) (zk n).length)) := by
    refine loop_gen (zk n).length (fun j s => ∃ K, s = ((j : Int), ⟨K, h.length, h.length⟩) ∧ Keep H1 K ∧ HB K H1.length ((List.range (f - 1)).map (dj f (zk n) j))) _ ?_ ?_ (zk n).length 0 _ (by omega) ⟨H2, rfl, kp2, a2⟩
    · rintro j s hj ⟨K, rfl, kq, a⟩
      obtain ⟨p, q1, q2, -⟩ := at_row (m := ⟨K, h.length, h.length⟩) rfl (row_by hv1 kq) (show j < (nts (zk n)).length by rw [nts_len]; exact hj)
      rw [nts_get hj] at q2
      obtain ⟨i1, i2⟩ := hmem _ (zk_mem hj)
      obtain ⟨x, hx⟩ : ∃ x, x = f - (zk n).getD j 0 := ⟨_, rfl⟩
      have e3 : wr .i64 ((f : Int) - (((zk n).getD j 0 : Nat) : Int)) = (x : Int) := by rw [wr_id' (by omega) (by omega)]; omega
      obtain ⟨K', s1, -, a', l', k'⟩ := a.st1 (ro := ro) (l := h.length) (p := h.length) (g := dj f (zk n) (j + 1)) (c := 49) (show x < f - 1 by omega) hbl (fun t ht => by rw [dj_next hmem hj ht, hx])
      have s1' : stepM ro ⟨K, h.length, h.length⟩ (.st 1 (.c (.p (some ⟨false, H1.length, 0 + x⟩))) (.c (.i .u8 49))) = some (und, ⟨K', h.length, h.length⟩) := s1
      refine ⟨_, (by simp only [g52_b0, fB, ltT (show (j : Int) < ((zk n).length : Int) by omega), cT, q1, oS, q2, iS, fI', e3, ixS_eq (show x < f - 1 by omega), s1', pS, wr_next (show j ≤ 1000000 by omega)] <;> rfl), K', rfl, ⟨by have := kq.1; omega, fun i hi => by rw [k' i (by omega), kq.2 i hi]⟩, a'⟩
    · rintro s ⟨K, rfl, kq, a⟩
      exact ⟨_, (by simp only [g52_b0, fB, ltF (Int.lt_irrefl _), cF] <;> rfl), K, rfl, kp1.trans kq, a⟩
  obtain ⟨r, q1, K, rfl, kq, a⟩ := key
  rw [dj_all] at a
  have q3 := bts_ok (ro := ro) (l := h.length) (p := h.length) (c := .known (f - 1)) a
  rw [wd_len] at q3
  simp only [fB, eqI_ne (show (n : Int) ≠ 0 by omega), cF, mC, cM c1 (Nat.le_refl _) (Nat.le_refl _), pS, g1, oS, g2, iS, m1, m2, fI', e1, e2, cM c2 hbl hbl, len_row hv2, nts_len, meansX_loop, q1, q3, sS, tA]
  exact fin_keep kq rfl
end
end Go.Proofs.Ytobmcofkcfifkaa.T

/- Write; words of shifted numbers. -/
open Go.Vm
set_option linter.unusedVariables false
namespace Go.Proofs.Ytobmcofkcfifkaa.T
open Go

section
variable {ro : List ABlk} {h : Heap}
def retS (p : List UInt8 × Int) : AVal := .tup [.s p.1, .i .i64 p.2]
theorem rS0 (p : List UInt8 × Int) : evP .e (.ext 0 (.c (retS p))) = some (.s p.1) := x0 _ _
theorem rS1 (p : List UInt8 × Int) : evP .e (.ext 1 (.c (retS p))) = some (.i .i64 p.2) := x1 _ _ _
def writeV (n : Int) : List UInt8 × Int := if inR n then (word n.toNat, 0) else ([], 4)
theorem writeV_ok {n : Nat} (hn : n ≤ big) : writeV (n : Int) = (word n, 0) := by
  unfold writeV; rw [if_pos (nat_inR hn), Int.toNat_natCast]
theorem write19 {n : Int} : callX F1 ro 19 [.i .i64 n] h = some (retS (writeV n), h, h.length, h.length) := by
  refine g19_ok (meansX_ok F1 ro) rfl ?_
  obtain ⟨v, H, s1, s2, kp⟩ := one51 (ro := ro) (h := h) (x := n) (Nat.le_refl _) (Nat.le_refl _)
  unfold g19
  simp only [s1, pS, mC, s2, bS, fB]
  unfold writeV
  by_cases hr : inR n
  rotate_left
  · rw [dF hr, if_neg hr]
    simp only [nF, cT, tA2]
    exact fin_keep kp rfl
  rw [dT hr, if_pos hr]
  simp only [nT, cF]
  obtain ⟨k, rfl, hk⟩ := inR_nat hr
  simp only [cp (written52 (ro := ro) (h := H) hk) kp.1 kp.1, pS, sS, tA2, Int.toNat_natCast]
  exact fin_keep kp rfl
theorem eqL_dec (a b : List UInt8) : eqL a b = decide (a = b) := by
  by_cases e : a = b
  · rw [decide_eq_true e]; exact (eqL_iff a b).2 e
  · rw [decide_eq_false e]
    cases h : eqL a b
    · rfl
    · exact absurd ((eqL_iff a b).1 h) e
theorem str_eq (a b : List UInt8) : evP .e (.sbin BinOp.eql (.c (.s a)) (.c (.s b))) = some (.b (decide (a = b))) := by
  simp only [evP, ev_sbin, opd, sOp, eqL_dec]
theorem str_add (a b : List UInt8) (h : a.length + b.length ≤ 1099511627776) : evP .e (.sbin BinOp.add (.c (.s a)) (.c (.s b))) = some (.s (a ++ b)) := by
  have : Nat.ble (a.length + b.length) 1099511627776 = true := by rw [Nat.ble_eq]; exact h
  simp only [evP, ev_sbin, opd, sOp, this, cond_true]
end
/- shifted lists -/
theorem Zk.up (a : Nat) : ∀ {l : List Nat} {t : Nat}, Zk t l → Zk (t + a) (l.map (· + a))
  | [], _, _ => trivial
  | i :: l, t, ⟨h1, h2, h3⟩ => by
    have := Zk.up a h3
    rw [show i - 1 + a = i + a - 1 by omega] at this
    refine ⟨?_, ?_, this⟩
    · show 2 ≤ i + a; omega
    · show i + a < t + a; omega
end Go.Proofs.Ytobmcofkcfifkaa.T

/- The law of shifts. -/
open Go.Vm
set_option linter.unusedVariables false
namespace Go.Proofs.Ytobmcofkcfifkaa.T
open Go

theorem word_len {n : Nat} (hn : n ≤ big) : (word n).length ≤ 87 := by
  unfold word
  rcases Nat.eq_zero_or_pos n with h | h
  · rw [if_pos h]; decide
  · rw [if_neg (by omega), wd_len]
    have := (zk_first hn h).2.1
    omega
section
variable {ro : List ABlk} {h : Heap}
end
end Go.Proofs.Ytobmcofkcfifkaa.T

/- The law of the array. -/
open Go.Vm
set_option linter.unusedVariables false
namespace Go.Proofs.Ytobmcofkcfifkaa.T
open Go

theorem lp_of {n : Nat} {l : List Nat} {x : Nat} (h : zk n = l ++ [x]) : lp n = x := by
  unfold lp
  rw [h]
  simp [List.getD]
section
variable {ro : List ABlk} {h : Heap}
end
end Go.Proofs.Ytobmcofkcfifkaa.T

/- Strings, rune by rune; is it a word? -/
open Go.Vm
set_option linter.unusedVariables false
namespace Go.Proofs.Ytobmcofkcfifkaa.T
open Go

theorem decL_ascii {s : List UInt8} {i : Nat} (hi : i < s.length) (hc : (s.getD i 0).toNat < 128) : decL s i = ((s.getD i 0).toNat, 1) := by
  have e : (ByteArray.mk s.toArray).get! (i + 0) = s.getD i 0 := by
    simp [ByteArray.get!, hi, List.getD]
  unfold decL Utf8.decode
  simp only [e]
  rw [if_pos hc]
theorem decL_high {s : List UInt8} {i : Nat} (hi : i < s.length) (hc : ¬ (s.getD i 0).toNat < 128) : 128 ≤ (decL s i).1 := by
  have e : (ByteArray.mk s.toArray).get! (i + 0) = s.getD i 0 := by
    simp [ByteArray.get!, hi, List.getD]
  unfold decL Utf8.decode
  simp only [e]
  rw [if_neg hc]
  have hr : 128 ≤ Utf8.runeError := by decide
  split
  · split
    · rename_i h1 h2; exact Nat.le_of_lt_succ (Nat.lt_succ_of_le h2)
    · exact hr
  · split
    · split
      · rename_i h1 h2
        simp only [Bool.and_eq_true, decide_eq_true_eq] at h2
        exact Nat.le_trans (by decide) h2.1
      · exact hr
    · split
      · split
        · rename_i h1 h2
          simp only [Bool.and_eq_true, decide_eq_true_eq] at h2
          exact Nat.le_trans (by decide) h2.1
        · exact hr
      · exact hr
section
variable {ro : List ABlk} {h : Heap}
/-- where one is in a string -/
def itB (s : List UInt8) (j : Nat) : ABlk := { e := 0, n := 0, c := .e, g := some (.it s j) }
def itH (h : Heap) (s : List UInt8) (j : Nat) : Heap := h ++ [some (itB s j)]
theorem itH_keep (h : Heap) (s : List UInt8) (j : Nat) : Keep h (itH h s j) := Keep.app _
theorem rgs_ok {l p : Nat} (s : List UInt8) : stepM ro ⟨h, l, p⟩ (.rgs (.c (.s s))) = some (.p (some ⟨false, h.length, 0⟩), ⟨itH h s 0, l, p⟩) := rfl
theorem nxs_end {l p j : Nat} {s : List UInt8} (hj : s.length ≤ j) : stepM ro ⟨itH h s j, l, p⟩ (.nxs (.c (.p (some ⟨false, h.length, 0⟩)))) = some (.tup [.b false], ⟨itH h s j, l, p⟩) := by
  have e1 : lget (itH h s j) h.length = some (some (itB s j)) := lget_last _ _
  have e2 : Nat.blt j s.length = false := by
    cases hb : Nat.blt j s.length
    · rfl
    · rw [Nat.blt_eq] at hb; omega
  simp only [stepM, stepK, opd, st_nxs, Mm.st, e1, itB, e2, cond_false, St.mm]
theorem nxs_on {p j : Nat} {s : List UInt8} (hj : j < s.length) : stepM ro ⟨itH h s j, h.length, p⟩ (.nxs (.c (.p (some ⟨false, h.length, 0⟩)))) = some (.tup [.b true, .i .i64 (j : Int), .i .i32 ((decL s j).1 : Int)], ⟨itH h s (j + (decL s j).2), h.length, p⟩) := by
  have e1 : lget (itH h s j) h.length = some (some (itB s j)) := lget_last _ _
  have e2 : Nat.blt j s.length = true := by rw [Nat.blt_eq]; exact hj
  have e3 : (itH h s j).set h.length (some (itB s (j + (decL s j).2))) = itH h s (j + (decL s j).2) := by
    simp [itH]
  simp only [stepM, stepK, opd, st_nxs, Mm.st, e1, itB, e2, cond_true, St.mm, lset_eq, Nat.min_self, mkI_eq]
  rw [← e3]; rfl
theorem bo0 (l : List AVal) (b : Bool) : evP .e (.ext 0 (.c (.tup (.b b :: l)))) = some (.b b) := x0 _ _

/- words -/
def okD (s : List UInt8) (i : Nat) : Prop := (s.getD i 0 = 48 ∨ s.getD i 0 = 49) ∧ ¬ (s.getD i 0 = 49 ∧ 0 < i ∧ s.getD (i - 1) 0 = 49)
instance (s : List UInt8) (i : Nat) : Decidable (okD s i) := inferInstanceAs (Decidable (_ ∧ _))
def isW (s : List UInt8) : Prop := (∀ i, i < s.length → okD s i) ∧ (s = [48] ∨ s.take 1 = [49])
instance (s : List UInt8) : Decidable (isW s) := inferInstanceAs (Decidable (_ ∧ _))
def prevD (s : List UInt8) (j : Nat) : Int := if j = 0 then 48 else ((s.getD (j - 1) 0).toNat : Int)
theorem u8_ne {a b : UInt8} (h : a ≠ b) : (a.toNat : Int) ≠ (b.toNat : Int) := fun e => h (UInt8.toNat_inj.1 (by omega))
theorem prefix74 {s : List UInt8} (hs : s.length ≤ 1000000) : callX F1 ro 74 [.s s, .s [49]] h = some (.b (decide (s.take 1 = [49])), h, h.length, h.length) := by
  have h80 : callX F1 ro 80 [.s s, .s [49]] h = some (.b (decide (s.take 1 = [49])), h, h.length, h.length) := by
    refine g80_ok (meansX_ok F1 ro) rfl ?_
    unfold g80
    have e1 : ∀ l : List UInt8, evP .e (.len true (.c (.s l))) = some (.i .i64 (l.length : Int)) := fun l => by simp only [evP, ev_len, opd, cond_true, mkI_eq]
    simp only [e1, oS, iS, fB]
    cases s with
    | nil =>
      have e2 : ltI (([] : List UInt8).length : Int) (([49] : List UInt8).length : Int) = true := ltT (by decide)
      simp only [e2, nT, cF, oS, tA]
      exact fin_pure rfl
    | cons c l =>
      have e2 : ltI ((c :: l).length : Int) (([49] : List UInt8).length : Int) = false := ltF (by simp only [List.length_cons, List.length_nil]; omega)
      have e3 : evP .e (.slStr (.c (.s (c :: l))) none (some (.c (.i .i64 (([49] : List UInt8).length : Int))))) = some (.s ((c :: l).take 1)) := by
        have e4 : ((([49] : List UInt8).length : Nat) : Int) = Int.ofNat 1 := rfl
        have e5 : Nat.ble 1 (c :: l).length = true := by rw [Nat.ble_eq]; simp
        simp only [evP, ev_slStr, opd, e4, Option.map_some, sbound, e5, cond_true, Option.map_none, List.drop_zero]
      simp only [e2, nF, cT, e3, oS, sS, str_eq, bS, tA]
      exact fin_pure rfl
  refine g74_ok (meansX_ok F1 ro) rfl ?_
  unfold g74
  simp only [mC, cp0 h80, pS, bS, tA]
  exact fin_pure rfl
theorem isWord55 {s : List UInt8} (hs : s.length ≤ 1000000) : callX F1 ro 55 [.s s] h = some (.b (decide (isW s)), h, h.length, h.length) := by
  refine g55_ok (meansX_ok F1 ro) rfl ?_
  unfold g55
  have key : ∃ r, loopX (fun t : Int × Mm => g55_b0 (meansX F1 ro) ro s (.p (some ⟨false, h.length, 0⟩)) t.1 t.2) (48, ⟨itH h s 0, h.length, h.length⟩) = some r ∧ ∃ j, (r = .inl ⟨itH h s j, h.length, h.length⟩ ∧ ∀ i, i < s.length → okD s i) ∨ (r = .inr (false, ⟨itH h s j, h.length, h.length⟩) ∧ ¬ ∀ i, i < s.length → okD s i) := by
    refine loop_exit s.length (fun j t => t = (prevD s j, ⟨itH h s j, h.length, h.length⟩) ∧ ∀ i, i < j → okD s i) _ ?_ ?_ s.length 0 _ (by omega) ⟨rfl, fun i hi => by omega⟩
    · rintro j t hj ⟨rfl, hall⟩
      have hn := nxs_on (ro := ro) (h := h) (p := h.length) hj
      by_cases hc : (s.getD j 0).toNat < 128
      · rw [decL_ascii hj hc] at hn
        have ep : prevD s (j + 1) = ((s.getD j 0).toNat : Int) := rfl
        simp only [g55_b0, hn, pS, bo0, oS, bS, cT, x2, iS, fB]
        by_cases h48 : s.getD j 0 = 48
        · have e1 : ((s.getD j 0).toNat : Int) = 48 := by rw [h48]; rfl
          rw [e1]
          simp only [eqI_self, nT, cF, oS, eqI_ne (show (48 : Int) ≠ 49 by decide)]
          refine .inl ⟨_, rfl, by rw [ep, e1], fun i hi => ?_⟩
          rcases Nat.lt_or_ge i j with h1 | h1
          · exact hall i h1
          · obtain rfl : i = j := by omega
            exact ⟨.inl h48, fun e => by rw [h48] at e; exact absurd e.1 (by decide)⟩
        · have n1 : ((s.getD j 0).toNat : Int) ≠ 48 := u8_ne h48
          by_cases h49 : s.getD j 0 = 49
          · have e1 : ((s.getD j 0).toNat : Int) = 49 := by rw [h49]; rfl
            rw [e1]
            simp only [eqI_ne (show (49 : Int) ≠ 48 by decide), nF, cT, eqI_self, nT, cF, oS]
            by_cases hp : prevD s j = 49
            · rw [hp]
              simp only [eqI_self, cT]
              refine .inr ⟨_, rfl, _, .inr ⟨rfl, fun hh => ?_⟩⟩
              refine (hh j hj).2 ⟨h49, ?_⟩
              unfold prevD at hp
              split at hp
              · exact absurd hp (by decide)
              · refine ⟨by omega, UInt8.toNat_inj.1 ?_⟩
                have : (49 : UInt8).toNat = 49 := rfl
                omega
            · simp only [eqI_ne hp, cF]
              refine .inl ⟨_, rfl, by rw [ep, e1], fun i hi => ?_⟩
              rcases Nat.lt_or_ge i j with h1 | h1
              · exact hall i h1
              · obtain rfl : i = j := by omega
                refine ⟨.inr h49, fun e => hp ?_⟩
                unfold prevD
                rw [if_neg (by omega), e.2.2]; rfl
          · have n2 : ((s.getD j 0).toNat : Int) ≠ 49 := u8_ne h49
            simp only [eqI_ne n1, eqI_ne n2, nF, cT, oS]
            exact .inr ⟨_, rfl, _, .inr ⟨rfl, fun hh => by rcases (hh j hj).1 with e | e <;> contradiction⟩⟩
      · have hd := decL_high hj hc
        simp only [g55_b0, hn, pS, bo0, oS, bS, cT, x2, iS, fB, eqI_ne (show ((decL s j).1 : Int) ≠ 48 by omega), eqI_ne (show ((decL s j).1 : Int) ≠ 49 by omega), nF]
        refine .inr ⟨_, rfl, _, .inr ⟨rfl, fun hh => ?_⟩⟩
        rcases (hh j hj).1 with e | e <;> (rw [e] at hc; exact hc (by decide))
    · rintro t ⟨rfl, hall⟩
      have hn := nxs_end (ro := ro) (h := h) (l := h.length) (p := h.length) (s := s) (Nat.le_refl _)
      exact ⟨_, (by simp only [g55_b0, hn, pS, bo0, oS, bS, cF] <;> rfl), _, .inl ⟨rfl, hall⟩⟩
  obtain ⟨r, h1, j, h2⟩ := key
  simp only [rgs_ok, pS, meansX_loop]
  rw [h1]
  have kp := itH_keep h s j
  rcases h2 with ⟨rfl, hall⟩ | ⟨rfl, hno⟩
  · simp only [oS, str_eq, bS]
    by_cases e : s = [48]
    · rw [decide_eq_true e, dT (show isW s from ⟨hall, .inl e⟩)]
      simp only [cT, oS, tA]
      exact fin_keep kp rfl
    · rw [decide_eq_false e]
      have e2 : decide (s.take 1 = [49]) = decide (isW s) := decide_eq_decide.2 ⟨fun h => ⟨hall, .inr h⟩, fun h => h.2.resolve_left e⟩
      simp only [cF, mC, cp (prefix74 (ro := ro) (h := itH h s j) hs) kp.1 kp.1, pS, bS, oS, tA, e2]
      exact fin_keep kp rfl
  · rw [dF (show ¬ isW s from fun e => hno e.1)]
    simp only [oS, tA]
    exact fin_keep kp rfl
end
end Go.Proofs.Ytobmcofkcfifkaa.T

/- Digits: their sums, by the program and by the reference. -/
open Go.Vm
set_option linter.unusedVariables false
namespace Go.Proofs.Ytobmcofkcfifkaa.T
open Go

/- digits -/
def isD (s : List UInt8) : Prop := ∀ i, i < s.length → 48 ≤ (s.getD i 0).toNat ∧ (s.getD i 0).toNat ≤ 57
instance (s : List UInt8) : Decidable (isD s) := inferInstanceAs (Decidable (∀ i, i < s.length → _))
/-- the sum that digits stand for -/
def dv : List UInt8 → Nat
  | [] => 0
  | c :: l => (c.toNat - 48) * fb (l.length + 2) + dv l
/-- the sum of the first ones -/
def pv (s : List UInt8) : Nat → Nat
  | 0 => 0
  | j + 1 => pv s j + ((s.getD j 0).toNat - 48) * fb (s.length + 1 - j)
theorem drop_cons {s : List UInt8} {j : Nat} (hj : j < s.length) : s.drop j = s.getD j 0 :: s.drop (j + 1) := by
  rw [List.drop_eq_getElem_cons hj]; simp [List.getD, hj]
theorem dv_drop {s : List UInt8} {j : Nat} (hj : j < s.length) : dv (s.drop j) = ((s.getD j 0).toNat - 48) * fb (s.length + 1 - j) + dv (s.drop (j + 1)) := by
  rw [drop_cons hj]
  show _ * fb ((s.drop (j + 1)).length + 2) + _ = _
  rw [List.length_drop, show s.length - (j + 1) + 2 = s.length + 1 - j by omega]
theorem pv_dv (s : List UInt8) : ∀ j, j ≤ s.length → pv s j + dv (s.drop j) = dv s
  | 0, _ => by simp [pv]
  | j + 1, h => by
    have := pv_dv s j (by omega)
    rw [dv_drop (by omega : j < s.length)] at this
    show pv s j + _ + _ = _
    omega
theorem pv_all (s : List UInt8) : pv s s.length = dv s := by
  have := pv_dv s s.length (Nat.le_refl _)
  rw [List.drop_length] at this
  simpa [dv] using this
theorem wr_i32 : ∀ n : Nat, n < 300 → wr .i32 ((n : Int) - 48) = (n : Int) - 48 := by decide +kernel
theorem wr_i32s : ∀ n : Nat, n < 300 → wr .i32 ((n : Int) + 1) = ((n + 1 : Nat) : Int) := by decide +kernel
section
variable {ro : List ABlk} {h : Heap}
theorem len_s (l : List UInt8) : evP .e (.len true (.c (.s l))) = some (.i .i64 (l.length : Int)) := by simp only [evP, ev_len, opd, cond_true, mkI_eq]
theorem ix_s {s : List UInt8} {i : Nat} (hi : i < s.length) : evP .e (.ixStr (.c (.s s)) (.c (.i .i64 (i : Int)))) = some (.i .u8 ((s.getD i 0).toNat : Int)) := by
  have e : ((i : Nat) : Int) = Int.ofNat i := rfl
  have e2 : lget s i = some (s.getD i 0) := by rw [lget_eq, List.getElem?_eq_getElem hi]; simp [List.getD, hi]
  simp only [evP, ev_ixStr, opd, e, e2, Option.map_some, mkI_eq]
theorem counted56 {s : List UInt8} (hs : s.length ≤ 1000) (hd : isD s) : callX F1 ro 56 [.s s] h = some (.i .i64 ((min (dv s) tm : Nat) : Int), h, h.length, h.length) := by
  refine g56_ok (meansX_ok F1 ro) rfl ?_
  unfold g56
  have htm : tm = 1152921504606846977 := rfl
  have hl := loop_run (b := fun t : Int × Mm => g56_b0 (meansX F1 ro) ro s (.p (some ⟨false, h.length, 0⟩)) t.1 t.2) (fun j => (((min (pv s j) tm : Nat) : Int), (⟨itH h s j, h.length, h.length⟩ : Mm))) s.length (r0 := (((min (pv s s.length) tm : Nat) : Int), (⟨itH h s s.length, h.length, h.length⟩ : Mm))) ?_ ?_
  · have e : ((((min (pv s 0) tm : Nat) : Int), (⟨itH h s 0, h.length, h.length⟩ : Mm)) : Int × Mm) = (0, ⟨itH h s 0, h.length, h.length⟩) := rfl
    rw [e] at hl
    simp only [rgs_ok, pS, meansX_loop]
    rw [hl, pv_all]
    simp only [oS, tA]
    exact fin_keep (itH_keep h s s.length) rfl
  · have hn := nxs_end (ro := ro) (h := h) (l := h.length) (p := h.length) (s := s) (Nat.le_refl _)
    simp only [g56_b0, hn, pS, bo0, oS, bS, cF]
  · intro j hj
    obtain ⟨d1, d2⟩ := hd j hj
    have hn := nxs_on (ro := ro) (h := h) (p := h.length) hj
    rw [decL_ascii hj (by omega)] at hn
    have kp := itH_keep h s (j + 1)
    obtain ⟨d, hdd⟩ : ∃ d, (s.getD j 0).toNat = 48 + d := ⟨(s.getD j 0).toNat - 48, by omega⟩
    have e1 : wr .i64 ((s.length : Int) - 1) = ((s.length - 1 : Nat) : Int) := by rw [wr_id' (by omega) (by omega)]; omega
    have e2 : wr .i64 (((s.length - 1 : Nat) : Int) - (j : Int)) = ((s.length - 1 - j : Nat) : Int) := by rw [wr_id' (by omega) (by omega)]; omega
    have e3 : wr .i64 (((s.length - 1 - j : Nat) : Int) + 2) = ((s.length + 1 - j : Nat) : Int) := by rw [wr_id' (by omega) (by omega)]; omega
    have e4 : wr .i32 (((s.getD j 0).toNat : Int) - 48) = (d : Int) := by rw [wr_i32 _ (by omega), hdd]; omega
    simp only [g56_b0, hn, pS, bo0, oS, bS, cT, x1, x2, iS, fB, len_s, fI', e1, e2, e3, mC, cp (fib71 (ro := ro) (h := itH h s (j + 1)) (i := ((s.length + 1 - j : Nat) : Int)) (by omega) (by omega)) kp.1 kp.1, pF_nat, e4, meansX_loop]
    obtain ⟨P, hP⟩ : ∃ P, P = min (fb (s.length + 1 - j)) tm := ⟨_, rfl⟩
    rw [← hP]
    have hl2 := loop_run (b := fun t : Int × Int => g56_b1 (meansX F1 ro) ro s (P : Int) (.p (some ⟨false, h.length, 0⟩)) (d : Int) ⟨itH h s (j + 1), h.length, h.length⟩ t.1 t.2) (fun t => (((min (pv s j + t * fb (s.length + 1 - j)) tm : Nat) : Int), (t : Int))) d (r0 := ((min (pv s j + d * fb (s.length + 1 - j)) tm : Nat) : Int)) ?_ ?_
    · have e : ((((min (pv s j + 0 * fb (s.length + 1 - j)) tm : Nat) : Int), ((0 : Nat) : Int)) : Int × Int) = (((min (pv s j) tm : Nat) : Int), 0) := by rw [Nat.zero_mul]; rfl
      rw [e] at hl2
      rw [hl2]
      simp only [oS]
      have e5 : pv s (j + 1) = pv s j + d * fb (s.length + 1 - j) := by
        show pv s j + ((s.getD j 0).toNat - 48) * fb (s.length + 1 - j) = _
        rw [hdd, Nat.add_sub_cancel_left]
      rw [e5]
    · simp only [g56_b1, fB, ltF (Int.lt_irrefl _), cF]
    · intro t ht
      have e5 : (t + 1) * fb (s.length + 1 - j) = t * fb (s.length + 1 - j) + fb (s.length + 1 - j) := Nat.succ_mul _ _
      have e6 : wr .i64 (((min (pv s j + t * fb (s.length + 1 - j)) tm : Nat) : Int) + (P : Int)) = ((min (pv s j + t * fb (s.length + 1 - j)) tm + P : Nat) : Int) := by rw [wr_id' (by omega) (by omega)]; omega
      have e7 : mxV false ((min (pv s j + t * fb (s.length + 1 - j)) tm + P : Nat) : Int) 1152921504606846977 = ((min (pv s j + (t + 1) * fb (s.length + 1 - j)) tm : Nat) : Int) := by
        rw [show (1152921504606846977 : Int) = ((tm : Nat) : Int) from rfl, mxF, e5]; omega
      simp only [g56_b1, fB, ltT (show (t : Int) < (d : Int) by omega), cT, fI', e6, e7, wr_i32s t (by omega)]
end
end Go.Proofs.Ytobmcofkcfifkaa.T

/- Words, Read and Tidy, by the program and by the reference; their laws. -/
open Go.Vm
set_option linter.unusedVariables false
namespace Go.Proofs.Ytobmcofkcfifkaa.T
open Go

section
variable {ro : List ABlk} {h : Heap}
/- Read -/
def readV (s : List UInt8) : Int × Int := if ¬ isW s then (0, 5) else if dv s ≤ big then ((dv s : Int), 0) else (0, 4)
theorem isW_isD {s : List UInt8} (h : isW s) : isD s := fun i hi => by
  rcases (h.1 i hi).1 with e | e <;> rw [e] <;> decide
theorem read21 {s : List UInt8} (hs : s.length ≤ 1000) : callX F1 ro 21 [.s s] h = some (ret2 (readV s), h, h.length, h.length) := by
  refine g21_ok (meansX_ok F1 ro) rfl ?_
  unfold g21 readV
  have hbig : big = 1152921504606846976 := rfl
  have htm : tm = 1152921504606846977 := rfl
  simp only [mC, cp0 (isWord55 (ro := ro) (h := h) (show s.length ≤ 1000000 by omega)), pS, bS, fB]
  by_cases hw : isW s
  rotate_left
  · rw [dF hw, if_pos hw]
    simp only [nF, cT, tA2]
    exact fin_pure rfl
  rw [dT hw, if_neg (fun e => e hw)]
  simp only [nT, cF, cp0 (counted56 (ro := ro) (h := h) hs (isW_isD hw)), pS, iS]
  rcases Nat.lt_or_ge big (dv s) with g | g
  · rw [ltT (by omega), if_neg (by omega)]
    simp only [cT, tA2]
    exact fin_pure rfl
  · rw [ltF (by omega), if_pos g, Nat.min_eq_left (by omega)]
    simp only [cF, tA2]
    exact fin_pure rfl
/- Tidy -/
end
end Go.Proofs.Ytobmcofkcfifkaa.T

/- Words and their numbers: Zeckendorf's theorem. -/
open Go.Vm
set_option linter.unusedVariables false
namespace Go.Proofs.Ytobmcofkcfifkaa.T
open Go

/-- the digits of the indices from k + 1 down to 2 -/
def G : Nat → List Nat → List UInt8
  | 0, _ => []
  | k + 1, l => dg l (k + 2) :: G k l
theorem G_len : ∀ k l, (G k l).length = k
  | 0, _ => rfl
  | k + 1, l => by show (G k l).length + 1 = k + 1; rw [G_len k l]
theorem wd_G : ∀ (k : Nat) (l : List Nat), wd (k + 1) l = G k l
  | 0, l => rfl
  | k + 1, l => by
    have ih := wd_G k l
    unfold wd at ih ⊢
    rw [show k + 1 + 1 - 1 = k + 1 by omega, List.range_succ_eq_map, List.map_cons, List.map_map]
    show dg l (k + 2) :: _ = dg l (k + 2) :: G k l
    rw [← ih, show k + 1 - 1 = k by omega]
    congr 1
    refine List.map_congr_left fun p _ => ?_
    show dg l (k + 1 + 1 - (p + 1)) = dg l (k + 1 - p)
    congr 1; omega
theorem G_cons : ∀ {k i : Nat} {l : List Nat}, k + 1 < i → G k (i :: l) = G k l
  | 0, _, _, _ => rfl
  | k + 1, i, l, h => by
    show dg (i :: l) (k + 2) :: G k (i :: l) = dg l (k + 2) :: G k l
    rw [G_cons (by omega)]
    have : k + 2 ∈ i :: l ↔ k + 2 ∈ l := by
      rw [List.mem_cons]
      exact ⟨fun h' => h'.resolve_left (by omega), .inr⟩
    simp only [dg, this]
/-- a list whose first index is k + 2, or all of it is lower -/
theorem Zk.top {k : Nat} {l : List Nat} (h : Zk (k + 3) l) : (∃ l', l = (k + 2) :: l' ∧ Zk (k + 1) l') ∨ Zk (k + 2) l := by
  cases l with
  | nil => exact .inr trivial
  | cons i l =>
    obtain ⟨h1, h2, h3⟩ := h
    by_cases e : i = k + 2
    · subst e; exact .inl ⟨l, rfl, h3⟩
    · exact .inr ⟨h1, by omega, h3⟩
theorem dg_top {k : Nat} {l' : List Nat} : dg ((k + 2) :: l') (k + 2) = 49 := by simp [dg]
theorem dg_low {k : Nat} {l : List Nat} (h : Zk (k + 2) l) : dg l (k + 2) = 48 := by
  unfold dg
  rw [if_neg fun hm => by have := (h.mem hm).2; omega]
theorem dv_G : ∀ (k : Nat) (l : List Nat), Zk (k + 2) l → dv (G k l) = sm l
  | 0, l, h => by
    cases l with
    | nil => rfl
    | cons i l => exact absurd h.2.1 (by have := h.1; omega)
  | k + 1, l, h => by
    show ((dg l (k + 2)).toNat - 48) * fb ((G k l).length + 2) + dv (G k l) = sm l
    rw [G_len]
    rcases h.top with ⟨l', rfl, h'⟩ | h'
    · rw [dg_top, G_cons (by omega), dv_G k l' (h'.mono (by omega))]
      show 1 * fb (k + 2) + sm l' = fb (k + 2) + sm l'
      omega
    · rw [dg_low h', dv_G k l h']
      show 0 * _ + _ = _
      omega
theorem zk_head {n : Nat} (hn : n ≤ big) (h0 : 0 < n) : Zk ((zk n).getD 0 0 + 1) (zk n) ∧ (zk n).getD 0 0 ∈ zk n := by
  have hz := (zk_ok hn).1
  have hne := zk_ne hn h0
  cases hl : zk n with
  | nil => exact absurd hl hne
  | cons f l =>
    rw [hl] at hz
    exact ⟨⟨hz.1, Nat.lt_succ_self _, hz.2.2⟩, List.mem_cons_self ..⟩
theorem word_G {n : Nat} (hn : n ≤ big) (h0 : 0 < n) : word n = G ((zk n).getD 0 0 - 1) (zk n) := by
  have f1 := (zk_first hn h0).1
  unfold word
  rw [if_neg (by omega), ← wd_G, show (zk n).getD 0 0 - 1 + 1 = (zk n).getD 0 0 by omega]
theorem dv_word {n : Nat} (hn : n ≤ big) : dv (word n) = n := by
  rcases Nat.eq_zero_or_pos n with rfl | h0
  · decide
  · have f1 := (zk_first hn h0).1
    have hz := (zk_head hn h0).1
    rw [word_G hn h0, dv_G _ _ (by rw [show (zk n).getD 0 0 - 1 + 2 = (zk n).getD 0 0 + 1 by omega]; exact hz)]
    exact (zk_ok hn).2
theorem Zk.no_adj : ∀ {l : List Nat} {t i : Nat}, Zk t l → i ∈ l → i + 1 ∈ l → False
  | [], _, _, _, h, _ => by simp at h
  | a :: l, t, i, ⟨h1, h2, h3⟩, hi, hj => by
    rcases List.mem_cons.1 hi with rfl | hi
    · rcases List.mem_cons.1 hj with e | hj
      · omega
      · have := (h3.mem hj).2; omega
    · rcases List.mem_cons.1 hj with e | hj
      · have := (h3.mem hi).2; omega
      · exact h3.no_adj hi hj
theorem isW_word {n : Nat} (hn : n ≤ big) : isW (word n) := by
  rcases Nat.eq_zero_or_pos n with rfl | h0
  · decide
  · have f1 := (zk_first hn h0).1
    obtain ⟨hz, hm⟩ := zk_head hn h0
    have e : word n = wd ((zk n).getD 0 0) (zk n) := by unfold word; rw [if_neg (by omega)]
    rw [e]
    generalize (zk n).getD 0 0 = f at *
    have hget : ∀ i, i < f - 1 → (wd f (zk n)).getD i 0 = dg (zk n) (f - i) := fun i hi => by
      unfold wd; exact getD_map_range _ _ hi
    have h49 : ∀ x, dg (zk n) x = 49 → x ∈ zk n := fun x hx => by
      unfold dg at hx
      split at hx
      · assumption
      · exact absurd hx (by decide)
    refine ⟨fun i hi => ?_, .inr ?_⟩
    · rw [wd_len] at hi
      refine ⟨?_, fun ⟨a, b, c⟩ => ?_⟩
      · rw [hget i hi]
        unfold dg
        split
        · exact .inr rfl
        · exact .inl rfl
      · rw [hget i hi] at a
        rw [hget (i - 1) (by omega)] at c
        have h1 := h49 _ a
        have h2 := h49 _ c
        rw [show f - (i - 1) = f - i + 1 by omega] at h2
        exact hz.no_adj h1 h2
    · obtain ⟨k, rfl⟩ : ∃ k, f = k + 2 := ⟨f - 2, by omega⟩
      rw [wd_G (k + 1)]
      show [dg (zk n) (k + 2)] = [49]
      unfold dg
      rw [if_pos hm]
end Go.Proofs.Ytobmcofkcfifkaa.T

/- The law of Zeckendorf. -/
open Go.Vm
set_option linter.unusedVariables false
namespace Go.Proofs.Ytobmcofkcfifkaa.T
open Go

section
variable {ro : List ABlk} {h : Heap}
theorem readV_word {n : Nat} (hn : n ≤ big) : readV (word n) = ((n : Int), 0) := by
  unfold readV
  rw [if_neg (fun e => e (isW_word hn)), dv_word hn, if_pos hn]
end
end Go.Proofs.Ytobmcofkcfifkaa.T

/- The law of tidied digits. -/
open Go.Vm
set_option linter.unusedVariables false
namespace Go.Proofs.Ytobmcofkcfifkaa.T
open Go

section
variable {ro : List ABlk} {h : Heap}
end
end Go.Proofs.Ytobmcofkcfifkaa.T

/- Wythoff's pairs. -/
open Go.Vm
set_option linter.unusedVariables false
namespace Go.Proofs.Ytobmcofkcfifkaa.T
open Go

/-- the parts one lower -/
def X (n : Nat) : Nat := sd (zk n)
theorem Zk.left : ∀ {l m : List Nat} {t : Nat}, Zk t (l ++ m) → Zk t l
  | [], _, _, _ => trivial
  | i :: l, m, t, ⟨h1, h2, h3⟩ => ⟨h1, h2, Zk.left h3⟩
/-- the smaller one of the pair k -/
def A (k : Nat) : Nat := if k = 0 then 0 else su 1 (zk (k - 1)) + 1
/-- the heap that makes a lost pair with another one -/
def P (n : Nat) : Nat := if n = 0 then 0 else if lp n % 2 = 0 then su 1 (zk n) else X n
end Go.Proofs.Ytobmcofkcfifkaa.T

/- Pair, Lost and Move, as the program answers. -/
open Go.Vm
set_option linter.unusedVariables false
namespace Go.Proofs.Ytobmcofkcfifkaa.T
open Go

section
variable {ro : List ABlk} {h : Heap}
theorem mxT {a c : Nat} : mxV true (a : Int) (c : Int) = ((max a c : Nat) : Int) := by
  unfold mxV
  simp only [if_true]
  split <;> omega
end
end Go.Proofs.Ytobmcofkcfifkaa.T

/- Zeros at the end of a word. -/
open Go.Vm
set_option linter.unusedVariables false
namespace Go.Proofs.Ytobmcofkcfifkaa.T
open Go

section
variable {ro : List ABlk} {h : Heap}
/-- zeros at the end: the first place from the end that holds none -/
theorem zeros48 {s : List UInt8} {z : Nat} (hs : s.length ≤ 1000) (hz : z < s.length) (h0 : ∀ i, i < z → s.getD (s.length - 1 - i) 0 = 48) (h1 : s.getD (s.length - 1 - z) 0 ≠ 48) : callX F1 ro 48 [.s s] h = some (.i .i64 (z : Int), h, h.length, h.length) := by
  refine g48_ok (meansX_ok F1 ro) rfl ?_
  unfold g48
  simp only [meansX_loop]
  have e1 : wr .i64 ((s.length : Int) - 1) = ((s.length - 1 : Nat) : Int) := by rw [wr_id' (by omega) (by omega)]; omega
  have hl := loop_run (b := fun t => g48_b0 (meansX F1 ro) ro s ⟨h, h.length, h.length⟩ t) (fun i => (i : Int)) z (r0 := (z : Int)) ?_ ?_
  · have e0 : ((0 : Nat) : Int) = 0 := rfl
    rw [e0] at hl
    rw [hl]
    simp only [oS, tA]
    exact fin_pure rfl
  · have e2 : wr .i64 (((s.length - 1 : Nat) : Int) - (z : Int)) = ((s.length - 1 - z : Nat) : Int) := by rw [wr_id' (by omega) (by omega)]; omega
    have n1 : ((s.getD (s.length - 1 - z) 0).toNat : Int) ≠ 48 := u8_ne h1
    simp only [g48_b0, len_s, oS, iS, fB, ltT (show (z : Int) < (s.length : Int) by omega), cT, fI', e1, e2, ix_s (show s.length - 1 - z < s.length by omega), eqI_ne n1, cF]
  · intro i hi
    have e2 : wr .i64 (((s.length - 1 : Nat) : Int) - (i : Int)) = ((s.length - 1 - i : Nat) : Int) := by rw [wr_id' (by omega) (by omega)]; omega
    have n1 : ((s.getD (s.length - 1 - i) 0).toNat : Int) = 48 := by rw [h0 i hi]; rfl
    simp only [g48_b0, len_s, oS, iS, fB, ltT (show (i : Int) < (s.length : Int) by omega), cT, fI', e1, e2, ix_s (show s.length - 1 - i < s.length by omega), n1, eqI_self, wr_next (show i ≤ 1000000 by omega)]
/-- a word ends with the zeros below its least part -/
theorem word_end {n : Nat} (hn : n ≤ big) (h0 : 0 < n) : lp n - 2 < (word n).length ∧ (∀ i, i < lp n - 2 → (word n).getD ((word n).length - 1 - i) 0 = 48) ∧ (word n).getD ((word n).length - 1 - (lp n - 2)) 0 = 49 := by
  obtain ⟨f1, f2, f3⟩ := zk_first hn h0
  obtain ⟨l1, l2⟩ := lp_bd hn h0
  have hm : lp n ∈ zk n := by rw [zk_last hn h0]; simp
  have hlf := f3 _ hm
  have e : word n = wd ((zk n).getD 0 0) (zk n) := by unfold word; rw [if_neg (by omega)]
  have hz := (zk_ok hn).1
  rw [zk_last hn h0] at hz
  have hlow : ∀ i ∈ zk n, lp n ≤ i := fun i hi => by
    rw [zk_last hn h0] at hi
    rcases List.mem_append.1 hi with h | h
    · have := hz.snoc h; omega
    · simp only [List.mem_singleton] at h; omega
  rw [e, wd_len]
  generalize (zk n).getD 0 0 = f at *
  have hget : ∀ i, i < f - 1 → (wd f (zk n)).getD i 0 = dg (zk n) (f - i) := fun i hi => by
    unfold wd; exact getD_map_range _ _ hi
  refine ⟨by omega, fun i hi => ?_, ?_⟩
  · rw [hget _ (by omega)]
    unfold dg
    rw [if_neg fun hh => by have := hlow _ hh; omega]
  · rw [hget _ (by omega), show f - (f - 1 - 1 - (lp n - 2)) = lp n by omega]
    unfold dg
    rw [if_pos hm]
theorem zerosW {n : Nat} (hn : n ≤ big) (h0 : 0 < n) : callX F1 ro 48 [.s (word n)] h = some (.i .i64 ((lp n - 2 : Nat) : Int), h, h.length, h.length) := by
  obtain ⟨h1, h2, h3⟩ := word_end hn h0
  have := word_len hn
  exact zeros48 (by omega) h1 h2 (by rw [h3]; decide)
end
end Go.Proofs.Ytobmcofkcfifkaa.T

/- Wythoff -/
open Go.Vm
set_option linter.unusedVariables false
namespace Go.Proofs.Ytobmcofkcfifkaa.T
open Go

section
variable {ro : List ABlk} {h : Heap}
end
end Go.Proofs.Ytobmcofkcfifkaa.T

/- Sums: the three cells -/
open Go.Vm
set_option linter.unusedVariables false
namespace Go.Proofs.Ytobmcofkcfifkaa.T
open Go

/- in how many ways a number is a sum of different Fibonacci numbers -/
/-- a cell that holds a number -/
abbrev ce (x : Int) : Option ABlk := some (blkOf 3 [.i .i64 x])
/-- three cells -/
abbrev h3 (A B : Heap) (w s b : Int) : Heap := A ++ ce w :: ce s :: ce b :: B
section
variable {ro : List ABlk} {h A B : Heap} {w s b x : Int} {l p : Nat} {r r2 : Option ABlk}
end
end Go.Proofs.Ytobmcofkcfifkaa.T

/- Sums: the loop over a function -/
open Go.Vm
set_option linter.unusedVariables false
namespace Go.Proofs.Ytobmcofkcfifkaa.T
open Go

section
variable {ro : List ABlk} {h A B : Heap} {w s b x : Int} {l p : Nat} {r r2 : Option ABlk}
theorem Zk.drop : ∀ {l : List Nat} {t : Nat} (k : Nat), Zk t l → ∃ t', t' ≤ t ∧ Zk t' (l.drop k)
  | l, t, 0, h => ⟨t, Nat.le_refl _, h⟩
  | [], t, k + 1, h => ⟨t, Nat.le_refl _, trivial⟩
  | i :: l, t, k + 1, ⟨h1, h2, h3⟩ => by
    obtain ⟨t', g1, g2⟩ := Zk.drop k h3
    exact ⟨t', by omega, g2⟩
end
end Go.Proofs.Ytobmcofkcfifkaa.T

/- Sums: contract -/
open Go.Vm
set_option linter.unusedVariables false
namespace Go.Proofs.Ytobmcofkcfifkaa.T
open Go

section
variable {ro : List ABlk} {h A B : Heap} {w s b x : Int} {l p : Nat} {r r2 : Option ABlk}
end
end Go.Proofs.Ytobmcofkcfifkaa.T

/- Letters -/
open Go.Vm
set_option linter.unusedVariables false
namespace Go.Proofs.Ytobmcofkcfifkaa.T
open Go

section
variable {ro : List ABlk} {h : Heap}
end
end Go.Proofs.Ytobmcofkcfifkaa.T

/- Whinihan's game: the table -/
open Go.Vm
set_option linter.unusedVariables false
namespace Go.Proofs.Ytobmcofkcfifkaa.T
open Go

/- one heap of seeds: each takes at most twice what was taken before -/
theorem low_room : ∀ {l : List Nat} {t y : Nat}, Zk t l → (∀ i ∈ l, y ≤ i) → y - 1 ≤ t → sm l + fb (y - 1) ≤ fb t
  | [], t, y, _, _, h => by show 0 + fb (y - 1) ≤ fb t; have := fb_le h; omega
  | i :: l, t, y, ⟨h1, h2, h3⟩, hy, h => by
    have hi := hy i (by simp)
    have ih := low_room h3 (fun x hx => hy x (by simp [hx])) (by omega)
    have e : fb (i - 1 + 2) = fb (i - 1) + fb (i - 1 + 1) := rfl
    rw [show i - 1 + 2 = i + 1 by omega, show i - 1 + 1 = i by omega] at e
    have := fb_le (show i + 1 ≤ t by omega)
    show fb i + sm l + fb (y - 1) ≤ fb t
    omega
theorem Zk.join : ∀ {a b : List Nat} {t p : Nat}, Zk t a → (∀ i ∈ a, p + 2 ≤ i) → Zk p b → p ≤ t → Zk t (a ++ b)
  | [], b, t, p, _, _, hb, hp => hb.mono hp
  | i :: a, b, t, p, ⟨h1, h2, h3⟩, ha, hb, hp => by
    have hi := ha i (by simp)
    exact ⟨h1, h2, Zk.join h3 (fun x hx => ha x (by simp [hx])) hb (by omega)⟩
theorem wh_less {n t : Nat} (hn : n ≤ big) (h0 : 0 < n) (h1 : 1 ≤ t) (h2 : t < fb (lp n)) : 0 < n - t ∧ fb (lp (n - t)) ≤ 2 * t := by
  obtain ⟨z1, z2⟩ := zk_less hn h0
  obtain ⟨l1, l2⟩ := lp_bd hn h0
  have hz := (zk_ok hn).1
  have hl := zk_last hn h0
  rw [hl] at hz
  have hsm := (zk_ok (n := n - fb (lp n)) (by omega)).2
  obtain ⟨r, hr⟩ : ∃ r, r = fb (lp n) - t := ⟨_, rfl⟩
  have hr0 : 0 < r := by omega
  have hf88 := fb_le l2
  have h88 : fb 88 = 1100087778366101931 := by decide +kernel
  have hbig : big = 1152921504606846976 := rfl
  have hrb : r ≤ big := by omega
  have e0 := gz_ok (lp n - 1) r (by rw [show lp n - 1 + 1 = lp n by omega]; omega)
  rw [show lp n - 1 + 1 = lp n by omega] at e0
  have e1 : zk r = gz (lp n - 1) r := gz_big (t := lp n - 1) (by rw [show lp n - 1 + 1 = lp n by omega]; omega) (by omega)
  rw [← e1] at e0
  have e2 : Zk 89 (zk (n - fb (lp n)) ++ zk r) := Zk.join (p := lp n) (zk_ok (by omega)).1 (fun i hi => by rw [z2] at hi; exact hz.snoc hi) e0.1 (by omega)
  have e3 := zk_uniq e2
  rw [sm_app, hsm, e0.2, show n - fb (lp n) + r = n - t by omega] at e3
  have e4 : lp (n - t) = lp r := by
    refine lp_of (l := zk (n - fb (lp n)) ++ (zk r).take ((zk r).length - 1)) ?_
    rw [e3, List.append_assoc, ← zk_last hrb hr0]
  obtain ⟨q1, q2⟩ := lp_bd hrb hr0
  have hlow : ∀ i ∈ zk r, lp r ≤ i := fun i hi => by
    have hz2 := (zk_ok hrb).1
    rw [zk_last hrb hr0] at hz2 hi
    rcases List.mem_append.1 hi with h | h
    · have := hz2.snoc h; omega
    · simp only [List.mem_singleton] at h; omega
  have hlr : lp r < lp n := by
    have : lp r ∈ zk r := by rw [zk_last hrb hr0]; simp
    exact (e0.1.mem this).2
  have e5 := low_room e0.1 hlow (by omega)
  rw [e0.2] at e5
  have e6 : fb (lp r - 2 + 2) = fb (lp r - 2) + fb (lp r - 2 + 1) := rfl
  rw [show lp r - 2 + 2 = lp r by omega, show lp r - 2 + 1 = lp r - 1 by omega] at e6
  have e7 := fb_le (show lp r - 2 ≤ lp r - 1 by omega)
  rw [e4]
  refine ⟨?_, ?_⟩ <;> omega
theorem wh_part {n : Nat} (hn : n ≤ big) (h0 : 0 < n) : n - fb (lp n) = 0 ∨ 2 * fb (lp n) < fb (lp (n - fb (lp n))) := by
  rcases Nat.eq_zero_or_pos (n - fb (lp n)) with h | h
  · exact .inl h
  right
  obtain ⟨z1, z2⟩ := zk_less hn h0
  obtain ⟨l1, l2⟩ := lp_bd hn h0
  have hz := (zk_ok hn).1
  rw [zk_last hn h0] at hz
  have hm : lp (n - fb (lp n)) ∈ zk (n - fb (lp n)) := by rw [zk_last (by omega) h]; simp
  rw [z2] at hm
  have := fb_le (hz.snoc hm)
  have e : fb (lp n + 2) = fb (lp n) + fb (lp n + 1) := rfl
  have e2 : fb (lp n - 1 + 2) = fb (lp n - 1) + fb (lp n - 1 + 1) := rfl
  rw [show lp n - 1 + 2 = lp n + 1 by omega, show lp n - 1 + 1 = lp n by omega] at e2
  have e3 := fb_pos (lp n - 2)
  rw [show lp n - 2 + 1 = lp n - 1 by omega] at e3
  omega
/-- what to take -/
def wV (n m : Nat) : Nat := if n = 0 then 0 else if fb (lp n) ≤ m then fb (lp n) else 0
theorem wV_min {n m : Nat} (hn : n ≤ big) : wV n (min m n) = wV n m := by
  unfold wV
  rcases Nat.eq_zero_or_pos n with rfl | h0
  · rfl
  · have := (zk_less hn h0).1
    have : fb (lp n) ≤ min m n ↔ fb (lp n) ≤ m := by omega
    simp only [if_neg (show ¬ n = 0 by omega), this]
theorem wV_next {n t : Nat} (hn : n ≤ big) (h0 : 0 < n) (h1 : 1 ≤ t) (h2 : t ≤ fb (lp n)) : wV (n - t) (2 * t) = 0 ↔ t = fb (lp n) := by
  constructor
  · intro h
    rcases Nat.lt_or_ge t (fb (lp n)) with hl | hl
    · obtain ⟨g1, g2⟩ := wh_less hn h0 h1 hl
      unfold wV at h
      rw [if_neg (by omega), if_pos g2] at h
      have := lp_bd (n := n - t) (by omega) g1
      have := fb_pos (lp (n - t) - 1)
      rw [show lp (n - t) - 1 + 1 = lp (n - t) by omega] at this
      omega
    · omega
  · rintro rfl
    unfold wV
    rcases wh_part hn h0 with h | h
    · rw [if_pos h]
    · split
      · rfl
      · rw [if_neg (by omega)]
/-- the table of what is known of the game -/
structure Memo (L : Nat) (H : Heap) (ob : Nat) (R : Nat → Nat) (f : Nat → Nat → Int) : Prop where
  top : Vec H 50 ob 61 (fun r => .sl ⟨false, R r, 0⟩ 61 (.known 61))
  rows : ∀ i, i < 61 → L ≤ R i ∧ Vec H 3 (R i) 61 (fun k => .i .i64 (f i k))
  inj : ∀ i j, i < 61 → j < 61 → R i = R j → i = j
def MemoV (f : Nat → Nat → Int) : Prop := ∀ i k, i < 61 → k < 61 → f i k < 0 ∨ f i k = (wV i k : Int)
section
variable {ro : List ABlk} {h H : Heap} {L ob : Nat} {R : Nat → Nat} {f : Nat → Nat → Int}
theorem Memo.row (a : Memo L H ob R f) {i : Nat} (hi : i < 61) : evP .e (.ixS 1 (.c (.sl ⟨false, ob, 0⟩ 61 .grow)) (.c (.i .i64 (i : Int)))) = some (.p (some ⟨false, ob, 0 + i⟩)) ∧ ∀ l p, ldM ro ⟨H, l, p⟩ true 1 (.p (some ⟨false, ob, 0 + i⟩)) = some (.sl ⟨false, R i, 0⟩ 61 (.known 61)) :=
  ⟨ixS_eq hi, fun l p => a.top.ld hi⟩
theorem Memo.cell (a : Memo L H ob R f) {i k : Nat} (hi : i < 61) (hk : k < 61) : evP .e (.ixS 1 (.c (.sl ⟨false, R i, 0⟩ 61 (.known 61))) (.c (.i .i64 (k : Int)))) = some (.p (some ⟨false, R i, 0 + k⟩)) ∧ ∀ l p, ldM ro ⟨H, l, p⟩ true 1 (.p (some ⟨false, R i, 0 + k⟩)) = some (.i .i64 (f i k)) :=
  ⟨ixS_eq hk, fun l p => (a.rows i hi).2.ld hk⟩
theorem Memo.set (a : Memo L H ob R f) {i k : Nat} (hi : i < 61) (hk : k < 61) (x : Int) (l p : Nat) : ∃ y, stepM ro ⟨H, l, p⟩ (.st 1 (.c (.p (some ⟨false, R i, 0 + k⟩))) (.c (.i .i64 x))) = some (und, ⟨H.set (R i) y, min l (R i), p⟩) ∧ Memo L (H.set (R i) y) ob R (fun i' k' => if i' = i ∧ k' = k then x else f i' k') := by
  obtain ⟨y, s1, s2⟩ := (a.rows i hi).2.set (ro := ro) (l := l) (p := p) hk (v := .i .i64 x) rfl rfl rfl
  refine ⟨y, s1, ?_, fun j hj => ⟨(a.rows j hj).1, ?_⟩, a.inj⟩
  · exact a.top.keep (List.getElem?_set_ne (Ne.symm (a.top.ne (a.rows i hi).2 (by decide))))
  · by_cases e : j = i
    · subst e
      refine s2.congr fun r hr => ?_
      by_cases e2 : r = k
      · simp [e2]
      · simp [e2]
    · have h2 := (a.rows j hj).2.keep (hp' := H.set (R i) y) (List.getElem?_set_ne fun e2 => e (a.inj j i hj hi e2.symm))
      refine h2.congr fun r hr => ?_
      rw [if_neg (fun e2 => e e2.1)]
end
end Go.Proofs.Ytobmcofkcfifkaa.T

/- Whinihan's game: the search -/
open Go.Vm
set_option linter.unusedVariables false
namespace Go.Proofs.Ytobmcofkcfifkaa.T
open Go

section
variable {ro : List ABlk} {h : Heap} {L ob : Nat} {R : Nat → Nat}
theorem wins49 : ∀ (N n m : Nat) (H : Heap) (f : Nat → Nat → Int), n < N → n ≤ 60 → m ≤ 120 → Memo L H ob R f → MemoV f → ∃ H' lw' f', callX F1 ro 49 [.i .i64 (n : Int), .i .i64 (m : Int), .sl ⟨false, ob, 0⟩ 61 .grow] H = some (.i .i64 (wV n m : Int), H', lw', H.length) ∧ Memo L H' ob R f' ∧ MemoV f' ∧ H'.length = H.length ∧ L ≤ lw' ∧ ∀ i, i < L → H'[i]? = H[i]?
  | 0, n, m, H, f, h, _, _, _, _ => absurd h (Nat.not_lt_zero _)
  | N + 1, n, m, H, f, hN, hn, hm, a, hv => by
    have hbig : big = 1152921504606846976 := rfl
    have hb : n ≤ big := by omega
    have hLH : L ≤ H.length := by
      have h1 := (a.rows 0 (by omega)).1
      have h2 := (a.rows 0 (by omega)).2.lt
      omega
    obtain ⟨c, hc⟩ : ∃ c, c = min m n := ⟨_, rfl⟩
    have hw := wV_min (m := m) hb
    rw [← hc] at hw
    have e1 : mxV false (m : Int) (n : Int) = (c : Int) := by rw [mxF, hc]
    by_cases hz : n = 0 ∨ c = 0
    · refine ⟨H, H.length, f, g49_ok (meansX_ok F1 ro) rfl ?_, a, hv, rfl, hLH, fun _ _ => rfl⟩
      have e2 : wV n m = 0 := by
        rw [← hw]
        unfold wV
        rcases hz with h | h
        · rw [if_pos h]
        · rcases Nat.eq_zero_or_pos n with h0 | h0
          · rw [if_pos h0]
          · have l1 := (lp_bd hb h0).1
            have := fb_pos (lp n - 1)
            rw [show lp n - 1 + 1 = lp n by omega] at this
            rw [if_neg (by omega), if_neg (by omega)]
      have e3 : eqI (n : Int) 0 = true ∨ (eqI (n : Int) 0 = false ∧ eqI (c : Int) 0 = true) := by
        rcases Nat.eq_zero_or_pos n with h0 | h0
        · left; rw [h0]; rfl
        · right
          refine ⟨eqI_ne (by omega), ?_⟩
          rw [hz.resolve_left (by omega)]; rfl
      unfold g49
      rw [e2]
      rcases e3 with e3 | ⟨e3, e4⟩
      · simp only [fI', e1, fB, e3, cT, oS, tA]
        exact fin_pure rfl
      · simp only [fI', e1, fB, e3, e4, cT, cF, oS, tA]
        exact fin_pure rfl
    have h0 : 0 < n := by omega
    have hc1 : 1 ≤ c := by omega
    have hcn : c ≤ n := by omega
    obtain ⟨r1, r2⟩ := a.row (ro := ro) (show n < 61 by omega)
    obtain ⟨c1, c2⟩ := a.cell (ro := ro) (show n < 61 by omega) (show c < 61 by omega)
    by_cases hk : f n c < 0
    rotate_left
    · have e2 := (hv n c (by omega) (by omega)).resolve_left hk
      rw [hw] at e2
      refine ⟨H, H.length, f, g49_ok (meansX_ok F1 ro) rfl ?_, a, hv, rfl, hLH, fun _ _ => rfl⟩
      unfold g49
      simp only [fI', e1, fB, eqI_ne (show (n : Int) ≠ 0 by omega), eqI_ne (show (c : Int) ≠ 0 by omega), cF, oS, r1, r2, c1, c2, iS, ltF hk, nF, cT, e2, tA]
      exact fin_pure rfl
    have hF : 1 ≤ fb (lp n) := by
      have l1 := (lp_bd hb h0).1
      have := fb_pos (lp n - 1)
      rw [show lp n - 1 + 1 = lp n by omega] at this
      exact this
    obtain ⟨F, hFF⟩ : ∃ F, F = fb (lp n) := ⟨_, rfl⟩
    rw [← hFF] at hF
    have hFn := (zk_less hb h0).1
    rw [← hFF] at hFn
    have key := loop_gen (b := fun s : Int × Int × Mm => g49_b1 (meansX F1 ro) ro (n : Int) (c : Int) (.sl ⟨false, ob, 0⟩ 61 .grow) s.1 s.2.1 s.2.2) (min F c)
      (fun i s => ∃ (H' : Heap) (lw : Nat) (f' : Nat → Nat → Int), s = (((if i = F then F else 0 : Nat) : Int), ((i + 1 : Nat) : Int), (⟨H', lw, H.length⟩ : Mm)) ∧ Memo L H' ob R f' ∧ MemoV f' ∧ H'.length = H.length ∧ L ≤ lw ∧ ∀ i, i < L → H'[i]? = H[i]?)
      (fun r => ∃ (H' : Heap) (lw : Nat) (f' : Nat → Nat → Int), r = ((wV n c : Int), (⟨H', lw, H.length⟩ : Mm)) ∧ Memo L H' ob R f' ∧ MemoV f' ∧ H'.length = H.length ∧ L ≤ lw ∧ ∀ i, i < L → H'[i]? = H[i]?) ?_ ?_ (min F c) 0 (0, 1, ⟨H, H.length, H.length⟩) (by omega) ⟨H, H.length, f, by rw [if_neg (by omega)]; rfl, a, hv, rfl, hLH, fun _ _ => rfl⟩
    rotate_left
    · rintro i s hi ⟨H', lw, f', rfl, a', hv', hl', hlw, hk'⟩
      obtain ⟨H2, lw2, f2, k1, k2, k3, k4, k5, k6⟩ := wins49 N (n - (i + 1)) (2 * (i + 1)) H' f' (by omega) (by omega) (by omega) a' hv'
      have w1 : wr .i64 ((n : Int) - ((i + 1 : Nat) : Int)) = ((n - (i + 1) : Nat) : Int) := by rw [wr_id' (by omega) (by omega)]; omega
      have w2 : wr .i64 (2 * ((i + 1 : Nat) : Int)) = ((2 * (i + 1) : Nat) : Int) := by rw [wr_id' (by omega) (by omega)]; omega
      have hx := wV_next (t := i + 1) hb h0 (by omega) (by omega)
      rw [← hFF] at hx
      have ez : eqI (((if i = F then F else 0 : Nat)) : Int) 0 = true := by rw [if_neg (by omega)]; rfl
      have hcond : (cond (eqI (wV (n - (i + 1)) (2 * (i + 1)) : Int) 0) (some ((i + 1 : Nat) : Int)) (some (((if i = F then F else 0 : Nat)) : Int))) = some (((if i + 1 = F then F else 0 : Nat)) : Int) := by
        by_cases e : i + 1 = F
        · rw [hx.2 e, if_pos e, e]; rfl
        · rw [eqI_ne (fun e2 => e (hx.1 (by omega))), if_neg e, if_neg (by omega)]; rfl
      refine ⟨_, ?_, H2, min lw lw2, f2, rfl, k2, k3, by omega, by omega, fun j hj => by rw [k6 j hj, hk' j hj]⟩
      have hcall := callM_eq (m := (⟨H', lw, H.length⟩ : Mm)) k1
      simp only [g49_b1, fB, ltF (show ¬ (c : Int) < ((i + 1 : Nat) : Int) by omega), nF, cT, ez, oS, fI', w1, w2, mC, hcall, pS, iS, bindO_of hcond, wr_next (show i + 1 ≤ 1000000 by omega)]
      rw [hl', Nat.min_self]
    · rintro s ⟨H', lw, f', rfl, rest⟩
      refine ⟨_, ?_, H', lw, f', rfl, rest⟩
      have ew : wV n c = if min F c = F then F else 0 := by
        unfold wV
        rw [if_neg (by omega), ← hFF]
        by_cases e : F ≤ c
        · rw [if_pos e, if_pos (by omega)]
        · rw [if_neg e, if_neg (by omega)]
      rw [ew]
      by_cases e : ((min F c + 1 : Nat) : Int) ≤ (c : Int)
      · have e2 : min F c = F := by omega
        rw [if_pos e2]
        simp only [g49_b1, fB, ltF (show ¬ (c : Int) < ((min F c + 1 : Nat) : Int) by omega), nF, cT, eqI_ne (show (F : Int) ≠ 0 by omega), oS, cF]
      · simp only [g49_b1, fB, ltT (show (c : Int) < ((min F c + 1 : Nat) : Int) by omega), nT, cF, oS]
    obtain ⟨r, hl, H', lw, f', rfl, a', hv', hl', hlw, hk'⟩ := key
    obtain ⟨r1', r2'⟩ := a'.row (ro := ro) (show n < 61 by omega)
    obtain ⟨c1', c2'⟩ := a'.cell (ro := ro) (show n < 61 by omega) (show c < 61 by omega)
    obtain ⟨y, s1, s2⟩ := a'.set (ro := ro) (show n < 61 by omega) (show c < 61 by omega) (wV n c : Int) lw H.length
    have hRn := (a'.rows n (by omega)).1
    refine ⟨H'.set (R n) y, min lw (R n), _, g49_ok (meansX_ok F1 ro) rfl ?_, s2, ?_, by rw [List.length_set, hl'], by omega, fun i hi => by rw [List.getElem?_set_ne (by omega)]; exact hk' i hi⟩
    rotate_left
    · intro i k hi hk2
      show (if i = n ∧ k = c then (wV n c : Int) else f' i k) < 0 ∨ (if i = n ∧ k = c then (wV n c : Int) else f' i k) = _
      by_cases e : i = n ∧ k = c
      · rw [if_pos e, e.1, e.2]; exact .inr rfl
      · rw [if_neg e]; exact hv' i k hi hk2
    rw [hw] at s1
    unfold g49
    simp only [fI', e1, fB, eqI_ne (show (n : Int) ≠ 0 by omega), eqI_ne (show (c : Int) ≠ 0 by omega), cF, oS, r1, r2, c1, c2, iS, ltT hk, nT, meansX_loop]
    rw [hl]
    simp only [oS, r1', r2', c1', s1, pS, hw, tA]
    have hlen : H.length = (H'.set (R n) y).length := by rw [List.length_set, hl']
    conv => lhs; rw [hlen]
    rw [fin_same]
    rw [← hlen]
end
end Go.Proofs.Ytobmcofkcfifkaa.T

/- Whinihan's game: the table is made -/
open Go.Vm
set_option linter.unusedVariables false
namespace Go.Proofs.Ytobmcofkcfifkaa.T
open Go

theorem word_fb {p : Nat} (h1 : 2 ≤ p) (h2 : p ≤ 88) : word (fb p) = 49 :: List.replicate (p - 2) 48 := by
  have hz : zk (fb p) = [p] := zk_uniq (l := [p]) ⟨h1, by omega, trivial⟩
  have h0 := fb_pos (p - 1)
  rw [show p - 1 + 1 = p by omega] at h0
  unfold word
  rw [if_neg (by omega), hz]
  show (List.range (p - 1)).map (fun q => dg [p] (p - q)) = _
  rw [show p - 1 = (p - 2) + 1 by omega, List.range_succ_eq_map, List.map_cons, List.map_map]
  congr 1
  · unfold dg; rw [if_pos (by simp)]
  · refine List.eq_replicate_iff.2 ⟨by simp, fun x hx => ?_⟩
    obtain ⟨q, hq, rfl⟩ := List.mem_map.1 hx
    have := List.mem_range.1 hq
    show dg [p] (p - (q + 1)) = 48
    unfold dg
    rw [if_neg (by simp; omega)]
theorem word_zeros {n : Nat} (hn : n ≤ big) (h0 : 0 < n) : (word n).drop ((word n).length - (lp n - 2)) = List.replicate (lp n - 2) 48 := by
  obtain ⟨w1, w2, w3⟩ := word_end hn h0
  refine List.eq_replicate_iff.2 ⟨by rw [List.length_drop]; omega, fun x hx => ?_⟩
  obtain ⟨i, hi, rfl⟩ := List.mem_iff_getElem.1 hx
  rw [List.length_drop] at hi
  rw [List.getElem_drop]
  have := w2 (lp n - 2 - 1 - i) (by omega)
  rw [show (word n).length - 1 - (lp n - 2 - 1 - i) = (word n).length - (lp n - 2) + i by omega] at this
  rw [← this]
  simp [List.getD, show (word n).length - (lp n - 2) + i < (word n).length by omega]
section
variable {ro : List ABlk} {h : Heap}
/-- rows of the table so far -/
def MemoK (L : Nat) (H : Heap) (v : AVal) (R : Nat → Nat) (j : Nat) : Prop :=
  VecV H L 50 v j (fun r => .sl ⟨false, R r, 0⟩ 61 (.known 61)) ∧ (∀ i, i < j → L ≤ R i ∧ Vec H 3 (R i) 61 (fun _ => .i .i64 (-1))) ∧ ∀ i k, i < j → k < j → R i = R k → i = k
theorem fill14 {x0 x1 x25 x29 x12 : Int} {v11 : AVal} {H : Heap} (hH : h.length ≤ H.length) : ∃ y, loopX (fun s : Int × Mm => g14_b1 (meansX F1 ro) ro x0 x1 x25 x29 v11 x12 (.sl ⟨false, H.length, 0⟩ 61 (.known 61)) s.1 s.2) (0, ⟨H ++ [some (newBlk 3 (.i .i64 0) 61)], h.length, h.length⟩) = some ⟨H ++ [y], h.length, h.length⟩ ∧ Vec (H ++ [y]) 3 H.length 61 (fun _ => .i .i64 (-1)) := by
  have key := loop_gen (b := fun s : Int × Mm => g14_b1 (meansX F1 ro) ro x0 x1 x25 x29 v11 x12 (.sl ⟨false, H.length, 0⟩ 61 (.known 61)) s.1 s.2) 61
    (fun i s => ∃ y, s = ((i : Int), (⟨H ++ [y], h.length, h.length⟩ : Mm)) ∧ Vec (H ++ [y]) 3 H.length 61 (fun k => .i .i64 (if k < i then -1 else 0)))
    (fun r => ∃ y, r = (⟨H ++ [y], h.length, h.length⟩ : Mm) ∧ Vec (H ++ [y]) 3 H.length 61 (fun _ => .i .i64 (-1))) ?_ ?_ 61 0 (0, ⟨H ++ [some (newBlk 3 (.i .i64 0) 61)], h.length, h.length⟩) (by omega) ⟨_, rfl, (Vec.new H 3 61 (.i .i64 0)).congr fun k hk => by rw [if_neg (Nat.not_lt_zero _)]⟩
  · obtain ⟨r, h1, y, rfl, h2⟩ := key
    exact ⟨y, h1, h2⟩
  · rintro i s hi ⟨y, rfl, hv⟩
    obtain ⟨y2, s1, s2⟩ := hv.set (ro := ro) (l := h.length) (p := h.length) hi (v := .i .i64 (-1)) rfl rfl rfl
    rw [set_end, Nat.min_eq_left hH] at s1
    rw [set_end] at s2
    have e1 : evP .e (.len false (.c (.sl ⟨false, H.length, 0⟩ 61 (.known 61)))) = some (.i .i64 ((61 : Nat) : Int)) := by simp only [evP, ev_len, opd, cond_false, mkI_eq]
    have e2 : evP .e (.ixS 1 (.c (.sl ⟨false, H.length, 0⟩ 61 (.known 61))) (.c (.i .i64 (i : Int)))) = some (.p (some ⟨false, H.length, 0 + i⟩)) := ixS_eq hi
    refine ⟨_, ?_, y2, rfl, s2.congr fun k hk => ?_⟩
    · simp only [g14_b1, e1, oS, iS, fB, ltT (show (i : Int) < ((61 : Nat) : Int) by omega), cT, e2, s1, pS, fI', wr_next (show i ≤ 1000000 by omega)]
    · by_cases e : k = i
      · rw [if_pos e, if_pos (by omega)]
      · rw [if_neg e]
        by_cases e3 : k < i
        · rw [if_pos e3, if_pos (by omega)]
        · rw [if_neg e3, if_neg (by omega)]
  · rintro s ⟨y, rfl, hv⟩
    have e1 : evP .e (.len false (.c (.sl ⟨false, H.length, 0⟩ 61 (.known 61)))) = some (.i .i64 ((61 : Nat) : Int)) := by simp only [evP, ev_len, opd, cond_false, mkI_eq]
    refine ⟨_, ?_, y, rfl, hv.congr fun k hk => by rw [if_pos hk]⟩
    simp only [g14_b1, e1, oS, iS, fB, ltF (Int.lt_irrefl _), cF]
theorem table14 {x0 x1 x25 x29 : Int} : ∃ H ob R, loopX (fun s : AVal × Int × Mm => g14_b0 (meansX F1 ro) ro x0 x1 x25 x29 s.1 s.2.1 s.2.2) (AVal.nsl, 0, ⟨h, h.length, h.length⟩) = some (.sl ⟨false, ob, 0⟩ 61 .grow, ⟨H, h.length, h.length⟩) ∧ Memo h.length H ob R (fun _ _ => -1) ∧ Keep h H := by
  have key := loop_gen (b := fun s : AVal × Int × Mm => g14_b0 (meansX F1 ro) ro x0 x1 x25 x29 s.1 s.2.1 s.2.2) 61
    (fun j s => ∃ v H R, s = (v, (j : Int), (⟨H, h.length, h.length⟩ : Mm)) ∧ MemoK h.length H v R j ∧ Keep h H)
    (fun r => ∃ v H R, r = (v, (⟨H, h.length, h.length⟩ : Mm)) ∧ MemoK h.length H v R 61 ∧ Keep h H) ?_ ?_ 61 0 (AVal.nsl, 0, ⟨h, h.length, h.length⟩) (by omega) ⟨.nsl, h, fun _ => 0, rfl, ⟨.inl ⟨rfl, rfl⟩, fun i hi => absurd hi (Nat.not_lt_zero _), fun i k hi => absurd hi (Nat.not_lt_zero _)⟩, Keep.refl h⟩
  · obtain ⟨r, h1, v, H, R, rfl, hM, kp⟩ := key
    obtain ⟨g1, g2, g3⟩ := hM
    rcases g1 with ⟨-, g⟩ | ⟨ob, rfl, -, -, g5⟩
    · omega
    · exact ⟨H, ob, R, h1, ⟨g5, g2, g3⟩, kp⟩
  · rintro j s hj ⟨v, H, R, rfl, ⟨g1, g2, g3⟩, kp⟩
    obtain ⟨y, f1, f2⟩ := fill14 (ro := ro) (x0 := x0) (x1 := x1) (x25 := x25) (x29 := x29) (x12 := (j : Int)) (v11 := v) kp.1
    have ke : Keep H (H ++ [y]) := Keep.app _
    have g1' : VecV (H ++ [y]) h.length 50 v j (fun r => .sl ⟨false, R r, 0⟩ 61 (.known 61)) := by
      rcases g1 with g | ⟨b, e1, e2, e3, e4⟩
      · exact .inl g
      · exact .inr ⟨b, e1, e2, e3, e4.keep (ke.2 b e4.lt)⟩
    have hyl : (H ++ [y]).length = H.length + 1 := by simp
    obtain ⟨v2, hp2, v3, hp3, b3, s1, s2, rfl, q1, q2, q3, q4⟩ := push_ok (ro := ro) (bytes := 24) (z := AVal.nsl) (w := .sl ⟨false, H.length, 0⟩ 61 (.known 61)) g1' (by have := kp.1; omega) (by omega) (by omega) rfl rfl
    have hne : ∀ b get, Vec (H ++ [y]) 3 b 61 get → ∀ len cap, v ≠ .sl ⟨false, b, 0⟩ len cap := fun b get hb len cap e => by
      rcases g1' with ⟨e1, -⟩ | ⟨b', e1, -, -, e4⟩
      · rw [e1] at e; cases e
      · rw [e1] at e
        have : b' = b := by cases e; rfl
        exact e4.ne hb (by decide) this
    have hmk := mk_ok (ro := ro) (hp := H) (l := h.length) (p := h.length) (e := 3) (es := 1) (bytes := 8) (v := .i .i64 0) (n := 61) (by omega) (by omega)
    refine ⟨_, ?_, .sl ⟨false, b3, 0⟩ (j + 1) .grow, hp3, fun r => if r < j then R r else H.length, rfl, ⟨.inr ⟨b3, rfl, by omega, by have := kp.1; omega, q2.congr fun r hr => ?_⟩, fun i hi => ?_, fun i k hi hk e => ?_⟩, by have := kp.1; omega, fun i hi => ?_⟩
    · have hmk' : stepM ro ⟨H, h.length, h.length⟩ (.mk 3 1 8 [(AVal.i IntKind.i64 0)] (.c (.i .i64 61)) (.c (.i .i64 61))) = some (.sl ⟨false, H.length, 0⟩ 61 (.known 61), ⟨H ++ [some (newBlk 3 (.i .i64 0) 61)], h.length, h.length⟩) := hmk
      simp only [g14_b0, fB, ltF (show ¬ (60 : Int) < (j : Int) by omega), nF, cT, hmk', pS, meansX_loop, f1, oS, s1, s2, fI', wr_next (show j ≤ 1000000 by omega)]
    · by_cases e : r < j
      · simp only [if_pos e]
      · simp only [if_neg e]
    · show h.length ≤ (if i < j then R i else H.length) ∧ Vec hp3 3 (if i < j then R i else H.length) 61 _
      by_cases e : i < j
      · rw [if_pos e]
        obtain ⟨a1, a2⟩ := g2 i e
        have a3 := a2.keep (ke.2 _ a2.lt)
        exact ⟨a1, a3.keep (q4 _ (by have := a2.lt; omega) (hne _ _ a3))⟩
      · rw [if_neg e]
        exact ⟨kp.1, f2.keep (q4 _ (by omega) (hne _ _ f2))⟩
    · have e : (if i < j then R i else H.length) = (if k < j then R k else H.length) := e
      by_cases e1 : i < j
      · by_cases e2 : k < j
        · rw [if_pos e1, if_pos e2] at e; exact g3 i k e1 e2 e
        · rw [if_pos e1, if_neg e2] at e
          have := (g2 i e1).2.lt
          omega
      · by_cases e2 : k < j
        · rw [if_neg e1, if_pos e2] at e
          have := (g2 k e2).2.lt
          omega
        · omega
    · rw [q4 i (by have := kp.1; omega) (fun len cap e => by
        rcases g1' with ⟨e1, -⟩ | ⟨b', e1, -, e3, -⟩
        · rw [e1] at e; cases e
        · rw [e1] at e
          have : b' = i := by cases e; rfl
          omega), (ke.2 i (by have := kp.1; omega)), kp.2 i hi]
  · rintro s ⟨v, H, R, rfl, hM, kp⟩
    refine ⟨_, ?_, v, H, R, rfl, hM, kp⟩
    simp only [g14_b0, fB, ltT (show (60 : Int) < ((61 : Nat) : Int) by omega), nT, cF]
end
end Go.Proofs.Ytobmcofkcfifkaa.T

/- Whinihan's game -/
open Go.Vm
set_option linter.unusedVariables false
namespace Go.Proofs.Ytobmcofkcfifkaa.T
open Go

section
variable {ro : List ABlk} {h : Heap}
theorem cut_back {s : List UInt8} {z : Nat} (hz : z ≤ s.length) (hs : s.length ≤ 1000) : evP .e (.slStr (.c (.s s)) (some (.c (.i .i64 (wr .i64 ((s.length : Int) - (z : Int)))))) none) = some (.s (s.drop (s.length - z))) := by
  have e2 : wr .i64 ((s.length : Int) - (z : Int)) = Int.ofNat (s.length - z) := by rw [wr_id' (by omega) (by omega)]; show _ = ((s.length - z : Nat) : Int); omega
  have e5 : Nat.ble (s.length - z) s.length = true := by rw [Nat.ble_eq]; omega
  rw [e2]
  simp only [evP, ev_slStr, opd, Option.map_some, sbound, e5, cond_true, Option.map_none, List.take_length]
theorem take_wV {n m : Nat} (hn : n ≤ big) (hm : 1 ≤ m) : (wV n m = 0 ∧ takeV (n : Int) (m : Int) = (0, 10)) ∨ (0 < wV n m ∧ takeV (n : Int) (m : Int) = ((wV n m : Int), 0)) := by
  have ht : takeV (n : Int) (m : Int) = if (n : Int) = 0 then (0, 10) else if (m : Int) < (fb (lp n) : Int) then (0, 10) else ((fb (lp n) : Int), 0) := by
    unfold takeV
    rw [if_neg (fun e => e (nat_inR hn)), if_neg (by omega), Int.toNat_natCast]
  rw [ht]
  unfold wV
  rcases Nat.eq_zero_or_pos n with rfl | h0
  · left; exact ⟨rfl, rfl⟩
  · have l1 := (lp_bd hn h0).1
    have := fb_pos (lp n - 1)
    rw [show lp n - 1 + 1 = lp n by omega] at this
    simp only [if_neg (show ¬ (n : Int) = 0 by omega), if_neg (show ¬ n = 0 by omega)]
    by_cases e : fb (lp n) ≤ m
    · right; rw [if_pos e, if_neg (by omega)]; exact ⟨this, rfl⟩
    · left; rw [if_neg e, if_pos (by omega)]; exact ⟨rfl, rfl⟩
theorem law14 {a b c d : Int} (ha : 0 ≤ a) (hb : 0 ≤ b) (hc : 0 ≤ c) (hd : 0 ≤ d) : callX F1 ro 14 [.i .u64 a, .i .u64 b, .i .u8 c, .i .u8 d] h = some (.b true, h, h.length, h.length) := by
  have hbig : big = 1152921504606846976 := rfl
  obtain ⟨x, hx, cx⟩ := number45 (ro := ro) ha
  obtain ⟨y, hy, cy⟩ := number45 (ro := ro) hb
  obtain ⟨c, rfl⟩ := Int.eq_ofNat_of_zero_le hc
  obtain ⟨d, rfl⟩ := Int.eq_ofNat_of_zero_le hd
  have e1 : Int.tmod (c : Int) 61 = ((c % 61 : Nat) : Int) := rfl
  have e2 : Int.tmod (d : Int) 60 = ((d % 60 : Nat) : Int) := rfl
  obtain ⟨n, hn⟩ : ∃ n, n = c % 61 := ⟨_, rfl⟩
  obtain ⟨m, hm⟩ : ∃ m, m = d % 60 + 1 := ⟨_, rfl⟩
  rw [← hn] at e1
  have e3 : wr .i64 (1 + ((d % 60 : Nat) : Int)) = (m : Int) := by rw [wr_id' (by omega) (by omega)]; omega
  have hn1 : n ≤ 60 := by omega
  have hm1 : 1 ≤ m := by omega
  obtain ⟨H, ob, R, t1, t2, kp⟩ := table14 (ro := ro) (h := h) (x0 := a) (x1 := b) (x25 := (n : Int)) (x29 := (m : Int))
  obtain ⟨H', lw', f', w1, w2, w3, w4, w5, w6⟩ := wins49 (ro := ro) 61 n m H _ (by omega) hn1 (by omega) t2 (fun _ _ _ _ => .inl (by decide))
  have kp' : Keep h H' := ⟨by rw [w4]; exact kp.1, fun i hi => by rw [w6 i hi, kp.2 i hi]⟩
  have hcall : callM (callX F1 ro) ⟨H, h.length, h.length⟩ 49 [.i .i64 (n : Int), .i .i64 (m : Int), .sl ⟨false, ob, 0⟩ 61 .grow] = some (.i .i64 (wV n m : Int), ⟨H', h.length, h.length⟩) := by
    rw [callM_eq w1, Nat.min_eq_left w5, Nat.min_eq_left kp.1]
  have hal := alv (ro := ro) (H := H') kp'.1 kp'.1
  refine g14_ok (meansX_ok F1 ro) rfl ?_
  unfold g14
  simp only [fI', e1, lt64 (show n ≤ 9223372036854775807 by omega), e2, lt64 (show d % 60 ≤ 9223372036854775807 by omega), e3, meansX_loop, t1, oS, mC, hcall, pS, iS, cp (take39 (ro := ro) (h := H')) kp'.1 kp'.1, r20, r21, fB]
  have ez : eqI ((0 : Nat) : Int) 0 = true := rfl
  have d10 : eqI 10 0 = false := eqI_ne (by decide)
  refine (bindO_of (v := false) ?_).trans ?_
  · rcases take_wV (n := n) (m := m) (by omega) hm1 with ⟨g1, g2⟩ | ⟨g1, g2⟩
    · rw [g1, g2]
      simp only [ez, cT, eqI_self, nT, cF, oS]
    · simp only [eqI_ne (show (wV n m : Int) ≠ 0 by omega), cF]
  refine (bindO_of (v := false) ?_).trans ?_
  · rcases take_wV (n := n) (m := m) (by omega) hm1 with ⟨g1, g2⟩ | ⟨g1, g2⟩
    · rw [g1]
      simp only [ltF (show ¬ (0 : Int) < ((0 : Nat) : Int) by omega), cF, oS]
    · rw [g2]
      simp only [oS, cF, ltT (show (0 : Int) < (wV n m : Int) by omega), cT, eqI_self, nT]
  obtain ⟨q, hq⟩ : ∃ q, q = max 1 y := ⟨_, rfl⟩
  have e4 : mxV true 1 (y : Int) = (q : Int) := by
    have := mxT (a := 1) (c := y)
    rw [hq]; exact this
  simp only [cF, cp (cx H') kp'.1 kp'.1, cp (cy H') kp'.1 kp'.1, pS, iS, e4]
  rcases Nat.eq_zero_or_pos x with rfl | h0
  · simp only [ez, cT, hal, pS, bS, tA]
    exact fin_keep kp' rfl
  obtain ⟨l1, l2⟩ := lp_bd hx h0
  have hlen := word_len hx
  have hwe := (word_end hx h0).1
  have hzl := word_zeros hx h0
  have hf := (zk_less hx h0).1
  have hwf := word_fb l1 l2
  have hrd := readV_word (n := fb (lp x)) (by omega)
  have happ : [49] ++ List.replicate (lp x - 2) 48 = word (fb (lp x)) := by rw [hwf]; rfl
  have hcut := cut_back (s := word x) (z := lp x - 2) (by omega) (by omega)
  rw [hzl] at hcut
  have hsl := word_len (n := fb (lp x)) (by omega)
  simp only [eqI_ne (show (x : Int) ≠ 0 by omega), cF, cp (write19 (ro := ro) (h := H')) kp'.1 kp'.1, writeV_ok hx, rS0, rS1, pS, oS, sS, iS, eqI_self, nT, len_s, cp (zerosW (ro := ro) (h := H') hx h0) kp'.1 kp'.1, hcut, str_add [49] (List.replicate (lp x - 2) 48) (by simp; omega), happ, cp (read21 (ro := ro) (h := H') (show (word (fb (lp x))).length ≤ 1000 by omega)) kp'.1 kp'.1, hrd, r20, r21, cp (take39 (ro := ro) (h := H')) kp'.1 kp'.1, cT]
  have ht : takeV (x : Int) (q : Int) = if (q : Int) < (fb (lp x) : Int) then (0, 10) else ((fb (lp x) : Int), 0) := by
    unfold takeV
    rw [if_neg (fun e => e (nat_inR hx)), if_neg (by omega), if_neg (show ¬ (x : Int) = 0 by omega), Int.toNat_natCast]
  rw [ht]
  by_cases e : (q : Int) < (fb (lp x) : Int)
  · rw [if_pos e, ltT e]
    simp only [nT, cF, oS, cT, eqI_self, hal, pS, bS, tA]
    exact fin_keep kp' rfl
  · rw [if_neg e, ltF e]
    simp only [nF, cF, oS, cT, eqI_self, hal, pS, bS, tA]
    exact fin_keep kp' rfl
end
end Go.Proofs.Ytobmcofkcfifkaa.T

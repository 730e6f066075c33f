/- Contracts of the functions: what each of them answers. -/
import Derived.Test.YtobmcofkcfifkaaVmGa0
import Derived.Test.YtobmcofkcfifkaaVmFO
import Derived.Test.YtobmcofkcfifkaaVmGt
import Derived.Test.YtobmcofkcfifkaaVmAE
import Derived.Test.YtobmcofkcfifkaaVmAF
import Derived.Test.YtobmcofkcfifkaaRows
import Derived.WalkKit
import Derived.ProofKit
import Derived.OpenShut
import Derived.Carry
import Derived.Deep.Slices
/- From the small machine to the statement: lists of numbers and lists of such lists, in memory that is only read. -/
open Go.Vm
set_option linter.unusedVariables false
namespace Go.Proofs.Ytobmcofkcfifkaa.T
open Go Go.RowKit Go.Deep Go.WideShapes Go.ChangeShapes

abbrev F1 : Tab := ⟨F, known0 18 (.b true)⟩
theorem own : ownKnob Try.prog.godebug = none := by kernel_rfl

section
variable {H : Type} {enc : TypeId × Value → H} {W : World} {v0 : Value} {d : DataW H} {p : List MemPlace}
end

theorem env_ok {W : World} {ro : List ABlk} {rl : Rl} (h : ∀ (i : Nat) (b : ABlk), ro[i]? = some b → ∃ x, rl[i]? = some x ∧ ∀ j, j < b.n → x.block < W.heap.size ∧ ∃ v', W.cell? (x.add j) = some v' ∧ VR rl [] (b.c.get j) v') :
    (Env.mk Try.prog W.heap.size W ro rl).Ok := ⟨fun i b hb => h i b hb, Nat.le_refl _⟩
/-- what lies in the read-only blocks; more may come behind -/
def RoP (W : World) (ro : List ABlk) (rl : Rl) : Prop := ∀ (i : Nat) (b : ABlk), ro[i]? = some b → ∃ x, rl[i]? = some x ∧ ∀ j, j < b.n → x.block < W.heap.size ∧ ∃ v', W.cell? (x.add j) = some v' ∧ ∀ y, VR (rl ++ y) [] (b.c.get j) v'
theorem RoP.nil (W : World) : RoP W [] [] := fun i b hb => by simp at hb
theorem RoP.snoc {W : World} {ro ro' : List ABlk} {rl rl' : Rl} (hl : ro.length = rl.length) (h : RoP W ro rl)
    (h' : ∀ (i : Nat) (b : ABlk), ro'[i]? = some b → ∃ x, rl'[i]? = some x ∧ ∀ j, j < b.n → x.block < W.heap.size ∧ ∃ v', W.cell? (x.add j) = some v' ∧ ∀ y, VR y [] (b.c.get j) v') : RoP W (ro ++ ro') (rl ++ rl') := by
  intro i b hb
  rcases Nat.lt_or_ge i ro.length with hi | hi
  · rw [List.getElem?_append_left hi] at hb
    obtain ⟨x, h1, h2⟩ := h i b hb
    refine ⟨x, by rw [List.getElem?_append_left (by omega)]; exact h1, fun j hj => ?_⟩
    obtain ⟨h3, v', h4, h5⟩ := h2 j hj
    exact ⟨h3, v', h4, fun y => by rw [List.append_assoc]; exact h5 _⟩
  · rw [List.getElem?_append_right hi] at hb
    obtain ⟨x, h1, h2⟩ := h' _ b hb
    refine ⟨x, by rw [List.getElem?_append_right (by omega), ← hl]; exact h1, fun j hj => ?_⟩
    obtain ⟨h3, v', h4, h5⟩ := h2 j hj
    exact ⟨h3, v', h4, fun y => h5 _⟩

/-- the call of the model: true, and below nothing has turned -/
theorem call_of {W : World} {ro : List ABlk} {rl : Rl} (hE : (Env.mk Try.prog W.heap.size W ro rl).Ok) {K : Nat} {vs : List AVal} {args : Array Value}
    (hv : LR rl [] vs args) {h' : Heap} {lw lp : Nat} (hc : callX F1 ro K vs [] = some (.b true, h', lw, lp)) : Calls Try.prog K args W fun e W' => e = .returned (.bool true) ∧ Below W.heap.size W W' := by
  have hm : (Env.mk Try.prog W.heap.size W ro rl).P.follows .mixedOrders = true := Try.checked.mixed
  have hO : CallOk (Env.mk Try.prog W.heap.size W ro rl) (known0 18 (.b true)) := known0_of hE hm fok alive0 rfl
  obtain ⟨-, h2⟩ := callX_sound hE hm (F := F1) fok hO K vs [] _ _ _ _ hc
  refine Calls.mono (h2 [] W args ⟨Below.refl _ _, rfl, by simp, fun i b r K hl => by simp [Live] at hl, fun i j b b' r K K' hl => by simp [Live] at hl⟩ hv) fun e w' hq => ?_
  obtain ⟨v', rfl, m', hvr, T⟩ := hq
  exact ⟨by rw [hvr.inv_b], T.hr.below⟩
theorem alive_pure {ro : List ABlk} {h : Heap} : callX F1 ro 18 [] h = some (.b true, h, h.length, h.length) := callX_ov rfl
end Go.Proofs.Ytobmcofkcfifkaa.T

/- Blocks that a function makes for itself; loops whose state is known. -/
open Go.Vm
set_option linter.unusedVariables false
namespace Go.Proofs.Ytobmcofkcfifkaa.T
open Go

/-- a block of the heap that holds these values -/
def Holds (hp : Heap) (b : Nat) (vs : List AVal) : Prop := ∃ blk : ABlk, lget hp b = some (some blk) ∧ blk.n = vs.length ∧ ∀ j, j < vs.length → blk.c.get j = vs.getD j und
/-- what was there is still there -/
def Keep (h hp : Heap) : Prop := h.length ≤ hp.length ∧ ∀ i, i < h.length → hp[i]? = h[i]?

section
variable {ro : List ABlk} {h hp hp' : Heap} {b k e n l p : Nat} {vs : List AVal}
theorem Keep.refl (h : Heap) : Keep h h := ⟨Nat.le_refl _, fun _ _ => rfl⟩
theorem Keep.trans {h1 : Heap} (a : Keep h h1) (c : Keep h1 hp) : Keep h hp := ⟨Nat.le_trans a.1 c.1, fun i hi => by rw [c.2 i (by have := a.1; omega), a.2 i hi]⟩
theorem Keep.app (x : Heap) : Keep h (h ++ x) := ⟨by simp, fun i hi => List.getElem?_append_left hi⟩
theorem Keep.set (a : Keep h hp) (hb : h.length ≤ b) (x : Option ABlk) : Keep h (hp.set b x) := ⟨by simpa using a.1, fun i hi => by rw [List.getElem?_set_ne (by omega)]; exact a.2 i hi⟩
theorem Keep.eq (a : Keep h hp) : hp.take h.length = h := by
  refine List.ext_getElem? fun i => ?_
  rcases Nat.lt_or_ge i h.length with hi | hi
  · rw [List.getElem?_take_of_lt hi, a.2 i hi]
  · rw [List.getElem?_eq_none (by simp; omega), List.getElem?_eq_none hi]
theorem fin_keep {v : AVal} (a : Keep h hp) (hv : v.bel h.length = true) : finM h.length v ⟨hp, h.length, h.length⟩ = some (v, h, h.length, h.length) := by
  rw [fin_take hv, a.eq]
theorem Holds.lt (a : Holds hp b vs) : b < hp.length := by obtain ⟨blk, h1, -⟩ := a; exact lget_lt h1
theorem Holds.new (hp : Heap) (e : Nat) (vs : List AVal) : Holds (hp ++ [some (blkOf e vs)]) hp.length vs := ⟨_, lget_last _ _, rfl, fun j _ => get_blk e vs j⟩
theorem Holds.keep (a : Holds hp b vs) (hk : hp'[b]? = hp[b]?) : Holds hp' b vs := by
  obtain ⟨blk, h1, h2⟩ := a
  exact ⟨blk, by rw [lget_of hk]; exact h1, h2⟩
theorem Holds.ext (a : Holds hp b vs) (x : Heap) : Holds (hp ++ x) b vs := a.keep (List.getElem?_append_left a.lt)
theorem Holds.by (a : Holds hp b vs) (k : Keep hp hp') : Holds hp' b vs := a.keep (k.2 b a.lt)
theorem Holds.one (a : Holds hp b vs) (hk : k < vs.length) : ldM ro ⟨hp, l, p⟩ true 1 (.p (some ⟨false, b, 0 + k⟩)) = some (vs.getD k und) := by
  obtain ⟨blk, h1, h2, h3⟩ := a
  rw [ld_heap rfl h1 (by omega), ← h3 k hk, Nat.zero_add]
theorem row_list {t : Tr} : ∀ (vs : List AVal) (i : Nat), (∀ j, j < vs.length → t.get (i + j) = vs.getD j und) → t.row i vs.length = vs
  | [], i, _ => rfl
  | v :: vs, i, h => by
    simp only [List.length_cons, Tr.row]
    rw [show t.get i = v by simpa using h 0 (by simp), row_list vs (i + 1) fun j hj => by have := h (j + 1) (by simp; omega); rw [show i + 1 + j = i + (j + 1) by omega, this]; simp]
theorem Holds.rd (a : Holds hp b vs) (hn : n = vs.length) : Go.Vm.rd ro hp false n ⟨false, b, 0⟩ = some (.agg vs) := by
  subst hn
  obtain ⟨blk, h1, h2, h3⟩ := a
  have hc : Nat.ble (0 + vs.length) blk.n = true := by rw [Nat.ble_eq]; omega
  simp only [Go.Vm.rd, rdB_heap h1, cond_false, hc, cond_true]
  rw [row_list vs 0 fun j hj => by rw [Nat.zero_add]; exact h3 j hj]
theorem Holds.all (a : Holds hp b vs) (hn : n = vs.length) : ldM ro ⟨hp, l, p⟩ false n (.p (some ⟨false, b, 0⟩)) = some (.agg vs) := by
  simp only [ldM, a.rd hn]
theorem spliceGet (t : Tr) : ∀ (vs : List AVal) (i j : Nat), (t.splice i vs).get j = if i ≤ j ∧ j < i + vs.length then vs.getD (j - i) und else t.get j
  | [], i, j => by simp [Tr.splice]; intro h1 h2; omega
  | v :: vs, i, j => by
    rw [Tr.splice, spliceGet (t.set i v) vs (i + 1) j, get_set]
    by_cases e : i = j
    · subst e
      rw [if_neg (by omega), if_pos rfl, if_pos (by simp)]; simp
    · by_cases h2 : i ≤ j ∧ j < i + (v :: vs).length
      · have h3 : i + 1 ≤ j ∧ j < i + 1 + vs.length := by simp at h2; omega
        rw [if_pos h2, if_pos h3]
        obtain ⟨q, rfl⟩ : ∃ q, j = i + 1 + q := ⟨j - (i + 1), by omega⟩
        rw [show i + 1 + q - i = q + 1 by omega, show i + 1 + q - (i + 1) = q by omega]
        simp
      · have h3 : ¬ (i + 1 ≤ j ∧ j < i + 1 + vs.length) := by simp at h2; omega
        rw [if_neg h2, if_neg h3, if_neg e]
theorem wrH_all {blk : ABlk} (hb : lget hp b = some (some blk)) (hn : vs.length ≤ blk.n) (ho : ones vs = true) : wrH hp ⟨false, b, 0⟩ vs = some (hp.set b (some { blk with c := blk.c.splice 0 vs })) := by
  have : (Nat.ble (0 + vs.length) blk.n && ones vs) = true := by rw [ho, Bool.and_true, Nat.ble_eq]; omega
  simp only [wrH, cond_false, hb, this, cond_true, lset_eq]
/-- a block is written whole -/
theorem Holds.st {vs' : List AVal} {v : AVal} (a : Holds hp b vs) (hv : v.cells = vs') (hn : n = vs'.length) (hl : vs'.length = vs.length) (ho : ones vs' = true) (hL : h.length ≤ b) (kp : Keep h hp) :
    ∃ hp', stepM ro ⟨hp, h.length, h.length⟩ (.st n (.c (.p (some ⟨false, b, 0⟩))) (.c v)) = some (und, ⟨hp', h.length, h.length⟩) ∧ Holds hp' b vs' ∧ hp'.length = hp.length ∧ (∀ i, i ≠ b → hp'[i]? = hp[i]?) ∧ Keep h hp' := by
  obtain ⟨blk, h1, h2, h3⟩ := a
  subst hv hn
  have hw := wrH_all h1 (vs := v.cells) (by omega) ho
  refine ⟨hp.set b (some { blk with c := blk.c.splice 0 v.cells }), ?_, ⟨_, lget_set h1 _, by simpa using (h2.trans hl.symm), fun j hj => ?_⟩, by simp, fun i hi => List.getElem?_set_ne (Ne.symm hi), kp.set hL _⟩
  · have hbq : Nat.beq v.cells.length v.cells.length = true := Nat.beq_refl _
    have e : (cond (nonp v.cells) h.length h.length) = h.length := by cases nonp v.cells <;> rfl
    simp only [stepM, stepK, opd, st_st, hbq, cond_true, hw, St.mm, Nat.min_eq_left hL, e]
  · show (blk.c.splice 0 v.cells).get j = _
    rw [spliceGet, if_pos (by omega)]; simp
end

theorem ext0 (a : AVal) (l : List AVal) : evP .e (.ext 0 (.c (.tup (a :: l)))) = some a := rfl
theorem ext1 (a b : AVal) (l : List AVal) : evP .e (.ext 1 (.c (.tup (a :: b :: l)))) = some b := rfl
theorem ext2 (a b c : AVal) (l : List AVal) : evP .e (.ext 2 (.c (.tup (a :: b :: c :: l)))) = some c := rfl
section
variable {ro : List ABlk} {h : Heap} {v : AVal}
theorem row_by {hp : Heap} {z : List Int} (a : IsRow ro h v z) (k : Keep h hp) : IsRow ro hp v z := by
  rw [take_eq k.1 k.2]; exact a.ext _
end

/-- one cell of a block is written -/
theorem Holds.set {ro : List ABlk} {h hp : Heap} {b k : Nat} {vs : List AVal} {v : AVal} (a : Holds hp b vs) (hk : k < vs.length) (hv : v.one = true) (hc : v.cells = [v]) (hn : nonp [v] = true) (hL : h.length ≤ b) (kp : Keep h hp) :
    ∃ hp', stepM ro ⟨hp, h.length, h.length⟩ (.st 1 (.c (.p (some ⟨false, b, 0 + k * 1⟩))) (.c v)) = some (und, ⟨hp', h.length, h.length⟩) ∧ Holds hp' b (vs.set k v) ∧ hp'.length = hp.length ∧ (∀ i, i ≠ b → hp'[i]? = hp[i]?) ∧ Keep h hp' := by
  obtain ⟨blk, h1, h2, h3⟩ := a
  have e : 0 + k * 1 = k := by omega
  refine ⟨hp.set b (some { blk with c := blk.c.set k v }), ?_, ⟨_, lget_set h1 _, by simpa using h2, fun j hj => ?_⟩, by simp, fun i hi => List.getElem?_set_ne (Ne.symm hi), kp.set hL _⟩
  · rw [e, st_heap h1 (by omega) hv hc hn, Nat.min_eq_left hL]
  · show (blk.c.set k v).get j = _
    rw [get_set]
    simp only [List.length_set] at hj
    by_cases e : k = j
    · subst e; simp [List.getD, hj]
    · rw [if_neg e, h3 j hj]
      simp [List.getD, List.getElem?_set_ne e]


/-- a loop whose state is known for each round -/
theorem loop_st {S R : Type} {b : S → Option (S ⊕ R)} (st : Nat → S) (n : Nat) (step : Nat → Option R) (r0 : R) (hout : b (st n) = some (.inr r0)) (hin : ∀ i, i < n → b (st i) = some (match step i with | some r => .inr r | none => .inl (st (i + 1)))) :
    ∀ (k i : Nat), i + k = n → loopX b (st i) = some ((firstS step k i).getD r0)
  | 0, i, hi => by
    simp only [Nat.add_zero] at hi
    subst hi
    exact loopX_out hout
  | k + 1, i, hi => by
    have h1 := hin i (by omega)
    unfold firstS
    cases hs : step i with
    | some r => rw [hs] at h1; exact loopX_out h1
    | none =>
      rw [hs] at h1
      exact loopX_on h1 (loop_st st n step r0 hout hin k (i + 1) (by omega))
/-- one that runs to its end -/
theorem loop_run {S R : Type} {b : S → Option (S ⊕ R)} (st : Nat → S) (n : Nat) {r0 : R} (hout : b (st n) = some (.inr r0)) (hin : ∀ i, i < n → b (st i) = some (.inl (st (i + 1)))) : loopX b (st 0) = some r0 := by
  have := loop_st st n (fun _ => none) r0 hout hin n 0 (by omega)
  rw [firstS_none.2 fun _ _ _ => rfl] at this
  exact this
/-- one that looks for something -/
theorem loop_if {S R : Type} {b : S → Option (S ⊕ R)} (st : Nat → S) (n : Nat) (P : Nat → Prop) [DecidablePred P] (r0 r1 : R) (hout : b (st n) = some (.inr r0)) (hin : ∀ i, i < n → P i → b (st i) = some (.inl (st (i + 1)))) (hno : ∀ i, i < n → ¬ P i → b (st i) = some (.inr r1)) :
    loopX b (st 0) = some (if (∀ i, i < n → P i) then r0 else r1) := by
  have := loop_st st n (fun i => if P i then none else some r1) r0 hout (fun i hi => by
    by_cases hp : P i
    · rw [if_pos hp]; exact hin i hi hp
    · rw [if_neg hp]; exact hno i hi hp) n 0 (by omega)
  rw [this]
  by_cases hall : ∀ i, i < n → P i
  · rw [if_pos hall, firstS_none.2 fun j _ h2 => by rw [if_pos (hall j (by omega))]]; rfl
  · rw [if_neg hall]
    cases hf : firstS (fun i => if P i then none else some r1) n 0 with
    | none =>
      refine absurd (fun i hi => ?_) hall
      have := firstS_none.1 hf i (by omega) (by omega)
      simpa using this
    | some r =>
      obtain ⟨j, -, -, h3, -⟩ := firstS_some hf
      by_cases hc : P j
      · rw [if_pos hc] at h3; cases h3
      · rw [if_neg hc] at h3; cases h3; rfl

theorem dT {p : Prop} [Decidable p] (h : p) : decide p = true := decide_eq_true h
theorem dF {p : Prop} [Decidable p] (h : ¬ p) : decide p = false := decide_eq_false h
theorem cp {F : Tab} {ro : List ABlk} {h : Heap} {f : Nat} {a : List AVal} {v : AVal} {l p : Nat} (e : callX F ro f a h = some (v, h, h.length, h.length)) (hl : l ≤ h.length) (hp : p ≤ h.length) : callM (callX F ro) ⟨h, l, p⟩ f a = some (v, ⟨h, l, p⟩) :=
  callM_pure e hl hp
theorem cp0 {F : Tab} {ro : List ABlk} {h : Heap} {f : Nat} {a : List AVal} {v : AVal} (e : callX F ro f a h = some (v, h, h.length, h.length)) : callM (callX F ro) ⟨h, h.length, h.length⟩ f a = some (v, ⟨h, h.length, h.length⟩) :=
  callM_pure e (Nat.le_refl _) (Nat.le_refl _)


theorem cM {F : Tab} {ro : List ABlk} {h H : Heap} {f : Nat} {a : List AVal} {v : AVal} {l p : Nat} (e : callX F ro f a h = some (v, H, h.length, h.length)) (hl : l ≤ h.length) (hp : p ≤ h.length) : callM (callX F ro) ⟨h, l, p⟩ f a = some (v, ⟨H, l, p⟩) := by
  rw [callM_eq e, Nat.min_eq_left hl, Nat.min_eq_left hp]
theorem fin_any {h H : Heap} {w : AVal} (k : Keep h H) : ∃ H', finM h.length w ⟨H, h.length, h.length⟩ = some (w, H', h.length, h.length) ∧ Keep h H' ∧ (w.bel h.length = false → H' = H) := by
  obtain ⟨y, h1, h2⟩ := fin_gen (h := h) (h' := H) (v := w) (l := h.length) (p := h.length) k.1 k.2
  exact ⟨h ++ y, h1, Keep.app y, h2⟩
/-- a list read in a heap that keeps another one, below that one's length, is in that one -/
theorem row_down {ro : List ABlk} {h H : Heap} {v : AVal} {z : List Int} (k : Keep h H) (a : IsRow ro H v z) (hb : v.bel h.length = true) : IsRow ro h v z := by
  rcases a with ⟨rfl, rfl⟩ | ⟨q, cap, blk, rfl, hb2, hn, hc⟩
  · exact .inl ⟨rfl, rfl⟩
  · refine .inr ⟨q, cap, blk, rfl, ?_, hn, hc⟩
    have h1 : (q.ro || Nat.blt q.b h.length) = true := by simpa [AVal.bel] using hb
    unfold rdB at hb2 ⊢
    cases hr : q.ro
    · rw [hr] at h1 hb2
      have h2 : q.b < h.length := by simpa [Nat.blt_eq] using h1
      simp only [cond_false] at hb2 ⊢
      rw [← lget_of (k.2 q.b h2)]; exact hb2
    · rw [hr] at hb2; exact hb2
theorem fin_rowW {ro : List ABlk} {h H : Heap} {v w : AVal} {z : List Int} (k : Keep h H) (a : IsRow ro H v z) (hw : w.bel h.length = v.bel h.length) :
    ∃ H', finM h.length w ⟨H, h.length, h.length⟩ = some (w, H', h.length, h.length) ∧ Keep h H' ∧ IsRow ro H' v z := by
  obtain ⟨H', h1, h2, h3⟩ := fin_any (w := w) k
  refine ⟨H', h1, h2, ?_⟩
  cases hb : w.bel h.length
  · rw [h3 hb]; exact a
  · exact row_by (row_down k a (by rw [← hw]; exact hb)) h2
theorem loop_gen {S R : Type} {b : S → Option (S ⊕ R)} (n : Nat) (I : Nat → S → Prop) (Q : R → Prop)
    (hin : ∀ i s, i < n → I i s → ∃ s', b s = some (.inl s') ∧ I (i + 1) s') (hout : ∀ s, I n s → ∃ r, b s = some (.inr r) ∧ Q r) :
    ∀ (k i : Nat) (s : S), i + k = n → I i s → ∃ r, loopX b s = some r ∧ Q r
  | 0, i, s, hk, hi => by
    obtain rfl : i = n := by omega
    obtain ⟨r, h1, h2⟩ := hout s hi
    exact ⟨r, loopX_out h1, h2⟩
  | k + 1, i, s, hk, hi => by
    obtain ⟨s1, h1, h2⟩ := hin i s (by omega) hi
    obtain ⟨r, h3, h4⟩ := loop_gen n I Q hin hout k (i + 1) s1 (by omega) h2
    exact ⟨r, loopX_on h1 h3, h4⟩
theorem loop_exit {S R : Type} {b : S → Option (S ⊕ R)} (n : Nat) (I : Nat → S → Prop) (Q : R → Prop)
    (hin : ∀ i s, i < n → I i s → (∃ s', b s = some (.inl s') ∧ I (i + 1) s') ∨ ∃ r, b s = some (.inr r) ∧ Q r) (hout : ∀ s, I n s → ∃ r, b s = some (.inr r) ∧ Q r) :
    ∀ (k i : Nat) (s : S), i + k = n → I i s → ∃ r, loopX b s = some r ∧ Q r
  | 0, i, s, hk, hi => by
    obtain rfl : i = n := by omega
    obtain ⟨r, h1, h2⟩ := hout s hi
    exact ⟨r, loopX_out h1, h2⟩
  | k + 1, i, s, hk, hi => by
    rcases hin i s (by omega) hi with ⟨s1, h1, h2⟩ | ⟨r, h1, h2⟩
    · obtain ⟨r, h3, h4⟩ := loop_exit n I Q hin hout k (i + 1) s1 (by omega) h2
      exact ⟨r, loopX_on h1 h3, h4⟩
    · exact ⟨r, loopX_out h1, h2⟩

end Go.Proofs.Ytobmcofkcfifkaa.T

/- Lists that a function makes by append. -/
open Go.Vm
set_option linter.unusedVariables false
namespace Go.Proofs.Ytobmcofkcfifkaa.T
open Go

/-- a list made by append, in a block from L on -/
def GV (hp : Heap) (L e es : Nat) (v : AVal) (k : Nat) (cs : List AVal) : Prop :=
  (v = .nsl ∧ k = 0 ∧ cs = []) ∨ ∃ b blk, v = .sl ⟨false, b, 0⟩ k .grow ∧ 0 < k ∧ L ≤ b ∧ lget hp b = some (some blk) ∧ blk.e = e ∧ cs.length = k * es ∧ k * es ≤ blk.n ∧ ∀ j, j < k * es → blk.c.get j = cs.getD j und
theorem GV.nil (hp : Heap) (L e es : Nat) : GV hp L e es .nsl 0 [] := .inl ⟨rfl, rfl, rfl⟩
/-- blocks below L, and those above that are kept, hold the list as before -/
theorem GV.by {hp hp' : Heap} {L e es k : Nat} {v : AVal} {cs : List AVal} (g : GV hp L e es v k cs) (kp : Keep hp hp') : GV hp' L e es v k cs := by
  rcases g with h | ⟨b, blk, h1, h2, h3, h4, h5⟩
  · exact .inl h
  · exact .inr ⟨b, blk, h1, h2, h3, by rw [lget_of (kp.2 b (lget_lt h4))]; exact h4, h5⟩
theorem row_row {t : Tr} : ∀ (n i : Nat) (cs : List AVal), cs.length = n → (∀ j, j < n → t.get (i + j) = cs.getD j und) → t.row i n = cs := by
  intro n i cs hl h
  subst hl
  exact row_list cs i h
theorem GV.push {ro : List ABlk} {hp : Heap} {L0 L e es bytes k : Nat} {z : List AVal} {v w : AVal} {cs ws : List AVal} (g : GV hp L e es v k cs) (hL0 : L0 ≤ L) (hL : L ≤ hp.length) (hk : k ≤ 100000) (hb : bytes ≤ 1000) (hes : 0 < es) (hz : z.length = es) (hw : w.cells = ws) (hwl : ws.length = es) (ho : ones ws = true) (hsp : splice z 0 ws = ws) :
    ∃ v2 hp2 v3 hp3, stepM ro ⟨hp, L0, L0⟩ (.bsl e es z 1 [((0, es), .c w)]) = some (v2, ⟨hp2, L0, L0⟩) ∧ stepM ro ⟨hp2, L0, L0⟩ (.app e es bytes z (.c v) (.c v2)) = some (v3, ⟨hp3, L0, L0⟩) ∧
      GV hp3 L e es v3 (k + 1) (cs ++ ws) ∧ hp.length ≤ hp3.length ∧ ∀ i, i < L → hp3[i]? = hp[i]? := by
  have s1 : stepM ro ⟨hp, L0, L0⟩ (.bsl e es z 1 [((0, es), .c w)]) = some (.sl ⟨false, hp.length, 0⟩ 1 (.known 1), ⟨hp ++ [some (blkOf e ws)], L0, L0⟩) := by
    simp [stepM, stepK, st_bsl, rep, fillA, opd, hw, hwl, hz, hsp, newB, St.mm]
  have src : app_src ro (hp ++ [some (blkOf e ws)]) es (.sl ⟨false, hp.length, 0⟩ 1 (.known 1)) = some (ws, 1) := by
    have hbq : rdB ro (hp ++ [some (blkOf e ws)]) ⟨false, hp.length, 0⟩ = some (blkOf e ws) := by simp [rdB, lget_eq]
    have hg : (blkOf e ws).c.row 0 es = ws := row_row es 0 ws hwl fun j hj => by rw [Nat.zero_add, get_blk]
    have hble : Nat.ble (0 + 1 * es) (blkOf e ws).n = true := by rw [Nat.ble_eq]; show 0 + 1 * es ≤ ws.length; omega
    simp only [app_src, hbq, hble, cond_true]
    rw [show 1 * es = es by omega, hg]
  rcases g with ⟨rfl, rfl, rfl⟩ | ⟨b, blk, rfl, hpos, hLb, hbk, hbe, hcl, hbn, hrows⟩
  · refine ⟨_, _, .sl ⟨false, hp.length + 1, 0⟩ 1 .grow, hp ++ [some (blkOf e ws)] ++ [some (blkOf e ws)], s1, ?_, .inr ⟨hp.length + 1, blkOf e ws, rfl, by omega, by omega, ?_, rfl, by simp; omega, by show 1 * es ≤ ws.length; omega, fun j hj => ?_⟩, by simp, fun i hi => ?_⟩
    · have hb1 : Nat.beq 1 0 = false := rfl
      simp only [stepM, stepK, opd, st_app, src, hb1, cond_false, fits_small (by omega : 1 ≤ 1000000) hb, cond_true, newB, St.mm, List.length_append, List.length_cons, List.length_nil, Nat.zero_add]
    · have := lget_last (hp ++ [some (blkOf e ws)]) (some (blkOf e ws))
      rwa [List.length_append, List.length_singleton] at this
    · rw [get_blk]; simp
    · rw [List.append_assoc, List.getElem?_append_left (by omega)]
  · obtain ⟨hp2, e2⟩ : ∃ hp2, hp2 = hp ++ [some (blkOf e ws)] := ⟨_, rfl⟩
    rw [← e2] at src s1
    have hlt : b < hp.length := lget_lt hbk
    have hb2 : lget hp2 b = some (some blk) := by rw [e2]; exact lget_ext hbk _
    have hlen2 : hp2.length = hp.length + 1 := by rw [e2]; simp
    have hrow : blk.c.row 0 (k * es) = cs := row_row (k * es) 0 cs hcl fun j hj => by rw [Nat.zero_add]; exact hrows j hj
    have hke : 0 < k * es := Nat.mul_pos hpos hes
    refine ⟨_, _, .sl ⟨false, hp2.length, 0⟩ (k + 1) .grow, lset none hp2 b ++ [some (blkOf e (cs ++ ws))], s1, ?_, .inr ⟨hp2.length, blkOf e (cs ++ ws), rfl, by omega, by omega, ?_, rfl, ?_, ?_, fun j hj => ?_⟩, ?_, fun i hi => ?_⟩
    · have h1 : (Nat.beq blk.e e && Nat.ble (k * es) blk.n && fits (k + 1) bytes && ones ws) = true := by
        rw [hbe, fits_small (by omega : k + 1 ≤ 1000000) hb]
        simp [ho, Nat.ble_eq]; omega
      have h2 : (!Nat.beq 0 0) = false := rfl
      have h3 : Nat.blt 0 blk.n = true := by rw [Nat.blt_eq]; omega
      have hb10 : Nat.beq 1 0 = false := rfl
      simp only [stepM, stepK, opd, st_app, src, app_grow, hb10, h2, cond_false, Bool.or_false, Bool.false_or, hb2, h1, h3, Bool.and_self, cond_true, St.mm, hrow, Nat.min_eq_left (Nat.le_trans hL0 hLb)]
    · rw [lget_eq, lset_eq, List.getElem?_append_right (by simp)]
      simp
    · rw [List.length_append, hcl, hwl, Nat.add_mul]; omega
    · show (k + 1) * es ≤ (cs ++ ws).length
      rw [List.length_append, hcl, hwl, Nat.add_mul]; omega
    · rw [get_blk]
    · simp [lset_eq]; omega
    · rw [lset_eq, List.getElem?_append_left (by simp; omega), List.getElem?_set_ne (by omega), e2, List.getElem?_append_left (by omega)]
theorem GV.row {ro : List ABlk} {hp : Heap} {L e : Nat} {v : AVal} {k : Nat} {z : List Int} (g : GV hp L e 1 v k (z.map (AVal.i .i64))) (hk : z.length = k) : IsRow ro hp v z := by
  subst hk
  rcases g with ⟨rfl, h2, -⟩ | ⟨b, blk, rfl, hpos, hLb, hbk, hbe, hcl, hbn, hrows⟩
  · exact .inl ⟨rfl, List.length_eq_zero_iff.1 h2⟩
  · refine .inr ⟨_, _, blk, rfl, rdB_heap hbk 0, by simpa using hbn, fun j hj => ?_⟩
    rw [Nat.zero_add, hrows j (by omega), map_getD hj]
end Go.Proofs.Ytobmcofkcfifkaa.T

/- Fibonacci's numbers: the parts of a number. -/
open Go.Vm
set_option linter.unusedVariables false
namespace Go.Proofs.Ytobmcofkcfifkaa.T
open Go

/-- Fibonacci's numbers -/
def fb : Nat → Nat
  | 0 => 0
  | 1 => 1
  | n + 2 => fb n + fb (n + 1)
theorem fb_two (n : Nat) : fb (n + 2) = fb n + fb (n + 1) := rfl
theorem fb_pos : ∀ n, 0 < fb (n + 1)
  | 0 => by decide
  | n + 1 => by rw [fb_two]; have := fb_pos n; omega
theorem fb_succ : ∀ n, fb n ≤ fb (n + 1)
  | 0 => by decide
  | n + 1 => by rw [fb_two]; omega
theorem fb_le {m n : Nat} (h : m ≤ n) : fb m ≤ fb n := by
  induction h with
  | refl => exact Nat.le_refl _
  | step _ ih => exact Nat.le_trans ih (fb_succ _)
theorem fb88 : fb 88 = 1100087778366101931 := by decide +kernel
theorem fb89 : fb 89 = 1779979416004714189 := by decide +kernel
/-- the sum of what the indices name -/
def sm : List Nat → Nat
  | [] => 0
  | i :: l => fb i + sm l
/-- indices from 2 on, below t, falling, no two neighbours -/
def Zk : Nat → List Nat → Prop
  | _, [] => True
  | t, i :: l => 2 ≤ i ∧ i < t ∧ Zk (i - 1) l
theorem Zk.mono : ∀ {l : List Nat} {t u : Nat}, t ≤ u → Zk t l → Zk u l
  | [], _, _, _, _ => trivial
  | i :: l, t, u, h, ⟨h1, h2, h3⟩ => ⟨h1, by omega, h3⟩
theorem Zk.sum : ∀ {l : List Nat} {t : Nat}, 1 ≤ t → Zk t l → sm l < fb t
  | [], t, ht, _ => by
    obtain ⟨k, rfl⟩ : ∃ k, t = k + 1 := ⟨t - 1, by omega⟩
    exact fb_pos k
  | i :: l, t, ht, ⟨h1, h2, h3⟩ => by
    obtain ⟨k, rfl⟩ : ∃ k, i = k + 1 := ⟨i - 1, by omega⟩
    have := Zk.sum (t := k) (by omega) h3
    have h4 : fb (k + 2) ≤ fb t := fb_le h2
    rw [fb_two] at h4
    show fb (k + 1) + sm l < fb t
    omega
/-- the greatest that fits first -/
def gz : Nat → Nat → List Nat
  | 0, _ => []
  | 1, _ => []
  | i + 2, n => if fb (i + 2) ≤ n then (i + 2) :: gz (i + 1) (n - fb (i + 2)) else gz (i + 1) n
theorem gz_take {i n : Nat} (h : fb (i + 2) ≤ n) : gz (i + 2) n = (i + 2) :: gz (i + 1) (n - fb (i + 2)) := by rw [gz, if_pos h]
theorem gz_skip : ∀ {i n : Nat}, n < fb (i + 1) → gz (i + 1) n = gz i n
  | 0, n, h => rfl
  | i + 1, n, h => by rw [gz, if_neg (by have : fb (i + 1 + 1) = fb (i + 2) := rfl; omega)]
theorem gz_ok : ∀ (i n : Nat), n < fb (i + 1) → Zk (i + 1) (gz i n) ∧ sm (gz i n) = n
  | 0, n, h => by
    have : n = 0 := by have : fb (0 + 1) = 1 := rfl; omega
    subst this; exact ⟨trivial, rfl⟩
  | 1, n, h => by
    have : n = 0 := by have : fb (1 + 1) = 1 := rfl; omega
    subst this; exact ⟨trivial, rfl⟩
  | i + 2, n, h => by
    by_cases hc : fb (i + 2) ≤ n
    · rw [gz_take hc]
      have h2 : n - fb (i + 2) < fb (i + 1) := by
        have e : fb (i + 2 + 1) = fb (i + 1) + fb (i + 2) := rfl
        omega
      rw [gz_skip h2]
      obtain ⟨h3, h4⟩ := gz_ok i _ h2
      refine ⟨⟨by omega, by omega, h3⟩, ?_⟩
      show fb (i + 2) + sm _ = n
      rw [h4]; omega
    · rw [gz, if_neg hc]
      obtain ⟨h3, h4⟩ := gz_ok (i + 1) n (by have : fb (i + 1 + 1) = fb (i + 2) := rfl; omega)
      exact ⟨h3.mono (by omega), h4⟩
theorem gz_uniq : ∀ (t : Nat) {l : List Nat}, Zk (t + 1) l → gz t (sm l) = l
  | 0, l, h => by
    cases l with
    | nil => rfl
    | cons i l => exact absurd h.2.1 (by have := h.1; omega)
  | 1, l, h => by
    cases l with
    | nil => rfl
    | cons i l => exact absurd h.2.1 (by have := h.1; omega)
  | t + 2, [], _ => by
    rw [gz, if_neg (by have : 0 < fb (t + 2) := fb_pos (t + 1); show ¬ fb (t + 2) ≤ 0; omega)]
    exact gz_uniq (t + 1) (l := []) trivial
  | t + 2, i :: l, ⟨h1, h2, h3⟩ => by
    by_cases e : i = t + 2
    · subst e
      have h4 := Zk.sum (t := t + 1) (by omega) (show Zk (t + 1) l from h3)
      have h5 : sm ((t + 2) :: l) = fb (t + 2) + sm l := rfl
      rw [gz_take (by rw [h5]; omega), h5, Nat.add_sub_cancel_left, gz_skip h4, gz_uniq t h3]
    · have hz : Zk (t + 2) (i :: l) := ⟨h1, by omega, h3⟩
      have h4 := Zk.sum (t := t + 2) (by omega) hz
      rw [gz_skip h4]
      exact gz_uniq (t + 1) hz
theorem gz_zero (i : Nat) : gz i 0 = [] := gz_uniq i (l := []) trivial
/-- the number of indices -/
theorem Zk.len : ∀ {l : List Nat} {t : Nat}, Zk t l → 2 * l.length ≤ t
  | [], t, _ => by simp
  | i :: l, t, ⟨h1, h2, h3⟩ => by
    have := Zk.len h3
    simp only [List.length_cons]; omega
theorem Zk.mem : ∀ {l : List Nat} {t i : Nat}, Zk t l → i ∈ l → 2 ≤ i ∧ i < t
  | [], _, _, _, h => by simp at h
  | j :: l, t, i, ⟨h1, h2, h3⟩, hm => by
    rcases List.mem_cons.1 hm with rfl | hm
    · exact ⟨h1, h2⟩
    · have := Zk.mem h3 hm; omega
/-- the parts of a number up to 2^60 -/
abbrev big : Nat := 1152921504606846976
def zk (n : Nat) : List Nat := gz 88 n
theorem zk_ok {n : Nat} (h : n ≤ big) : Zk 89 (zk n) ∧ sm (zk n) = n := gz_ok 88 n (by rw [fb89]; have : big = 1152921504606846976 := rfl; omega)
theorem zk_uniq {l : List Nat} (h : Zk 89 l) : zk (sm l) = l := gz_uniq 88 h
theorem zk_ne {n : Nat} (h : n ≤ big) (h0 : 0 < n) : zk n ≠ [] := fun e => by
  have := (zk_ok h).2
  rw [e] at this
  exact absurd this (by show ¬ 0 = n; omega)
/-- numbers of words of any height -/
theorem gz_big {t u n : Nat} (h : n < fb (t + 1)) (htu : t ≤ u) : gz u n = gz t n := by
  have := gz_ok t n h
  have h2 := gz_uniq u (this.1.mono (by omega))
  rw [this.2] at h2
  exact h2
end Go.Proofs.Ytobmcofkcfifkaa.T

/- Steps; the two Fibonaccis; sums; ranges. -/
open Go.Vm
set_option linter.unusedVariables false
namespace Go.Proofs.Ytobmcofkcfifkaa.T
open Go

section
variable {ro : List ABlk} {h : Heap}
theorem alv {H : Heap} {l p : Nat} (hl : l ≤ H.length) (hp : p ≤ H.length) : callM (callX F1 ro) ⟨H, l, p⟩ 18 [] = some (.b true, ⟨H, l, p⟩) := cp alive_pure hl hp
theorem bindP_of {β : Type} {o : Option (AVal × Mm)} {v : AVal} {m : Mm} {f : AVal → Mm → Option β} (h : o = some (v, m)) : bindP o f = f v m := by rw [h]; rfl
theorem bindO_of {α β : Type} {o : Option α} {v : α} {f : α → Option β} (h : o = some v) : bindO o f = f v := by rw [h]; rfl
theorem pS {β : Type} (v : AVal) (m : Mm) (f : AVal → Mm → Option β) : bindP (some (v, m)) f = f v m := bindP_of (Eq.trans rfl rfl)
theorem oS {α β : Type} (v : α) (f : α → Option β) : bindO (some v) f = f v := bindO_of (Eq.trans rfl rfl)
theorem cT {α : Type} (a b : α) : cond true a b = a := by rw [cond_true]
theorem cF {α : Type} (a b : α) : cond false a b = b := by rw [cond_false]
theorem bS {β : Type} (b : Bool) (f : Bool → Option β) : asB (.b b) f = f b := (asB_b b f).trans (Eq.trans rfl rfl)
theorem sS {β : Type} (l : List UInt8) (f : List UInt8 → Option β) : asS (.s l) f = f l := Eq.trans rfl rfl
theorem iS {β : Type} (k : IntKind) (n : Int) (f : Int → Option β) : asI k (.i k n) f = f n := (asI_i k n f).trans (Eq.trans rfl rfl)
theorem x0 (a : AVal) (l : List AVal) : evP .e (.ext 0 (.c (.tup (a :: l)))) = some a := (ext0 a l).trans (Eq.trans rfl rfl)
theorem x1 (a b : AVal) (l : List AVal) : evP .e (.ext 1 (.c (.tup (a :: b :: l)))) = some b := (ext1 a b l).trans (Eq.trans rfl rfl)
theorem x2 (a b c : AVal) (l : List AVal) : evP .e (.ext 2 (.c (.tup (a :: b :: c :: l)))) = some c := (ext2 a b c l).trans (Eq.trans rfl rfl)
theorem tA (v : AVal) : tupA [v] = v := Eq.trans rfl rfl
theorem tA2 (v w : AVal) : tupA [v, w] = .tup [v, w] := Eq.trans rfl rfl
theorem tA3 (v w x : AVal) : tupA [v, w, x] = .tup [v, w, x] := Eq.trans rfl rfl
theorem nT : (!true) = false := Eq.trans rfl rfl
theorem nF : (!false) = true := Eq.trans rfl rfl
theorem fB {α : Type} (n : Bool) (f : Bool → α) : forceB n f = f n := (forceB_eq n f).trans (Eq.trans rfl rfl)
theorem fI' {α : Type} (n : Int) (f : Int → α) : forceI n f = f n := (forceI_eq n f).trans (Eq.trans rfl rfl)
theorem mC (F : Tab) (ro : List ABlk) : (meansX F ro).call = callX F ro := (meansX_call F ro).trans (Eq.trans rfl rfl)
theorem eqI_self (x : Int) : eqI x x = true := by rw [eqI_eq]; simp
theorem eqI_ne {x y : Int} (h : x ≠ y) : eqI x y = false := by rw [eqI_eq]; simp [h]
theorem ltT {x y : Int} (h : x < y) : ltI x y = true := by rw [ltI_eq]; exact dT h
theorem ltF {x y : Int} (h : ¬ x < y) : ltI x y = false := by rw [ltI_eq]; exact dF h
theorem mxF {a c : Nat} : mxV false (a : Int) (c : Int) = ((min a c : Nat) : Int) := by
  unfold mxV
  simp only [Bool.false_eq_true, if_false]
  split <;> omega
theorem mxF' {a c : Int} : mxV false a c = min a c := by
  unfold mxV
  simp only [Bool.false_eq_true, if_false]
  split <;> omega

/-- Fibonacci's numbers below 0, too -/
def fI : Int → Int
  | .ofNat k => (fb k : Int)
  | .negSucc k => if k % 2 = 0 then (fb (k + 1) : Int) else -(fb (k + 1) : Int)
theorem fI_nat (k : Nat) : fI (k : Int) = (fb k : Int) := rfl
theorem fI_rec (z : Int) : fI (z + 2) = fI z + fI (z + 1) := by
  match z with
  | .ofNat k =>
    show ((fb (k + 2) : Nat) : Int) = (fb k : Int) + (fb (k + 1) : Int)
    rw [fb_two]; omega
  | .negSucc 0 => rfl
  | .negSucc 1 => rfl
  | .negSucc (k + 2) =>
    have e1 : (Int.negSucc (k + 2)) + 2 = Int.negSucc k := by omega
    have e2 : (Int.negSucc (k + 2)) + 1 = Int.negSucc (k + 1) := by omega
    rw [e1, e2]
    show (if k % 2 = 0 then (fb (k + 1) : Int) else -(fb (k + 1) : Int)) = (if (k + 2) % 2 = 0 then (fb (k + 2 + 1) : Int) else -(fb (k + 2 + 1) : Int)) + (if (k + 1) % 2 = 0 then (fb (k + 1 + 1) : Int) else -(fb (k + 1 + 1) : Int))
    have e3 : fb (k + 2 + 1) = fb (k + 1) + fb (k + 1 + 1) := rfl
    rcases Nat.mod_two_eq_zero_or_one k with hk | hk
    · rw [if_pos hk, if_pos (show (k + 2) % 2 = 0 by omega), if_neg (show ¬ (k + 1) % 2 = 0 by omega)]; omega
    · rw [if_neg (show ¬ k % 2 = 0 by omega), if_neg (show ¬ (k + 2) % 2 = 0 by omega), if_pos (show (k + 1) % 2 = 0 by omega)]; omega
theorem fI_abs (z : Int) : -(fb z.natAbs : Int) ≤ fI z ∧ fI z ≤ (fb z.natAbs : Int) := by
  match z with
  | .ofNat k =>
    show -((fb k : Nat) : Int) ≤ (fb k : Int) ∧ (fb k : Int) ≤ (fb k : Int)
    omega
  | .negSucc k =>
    show -((fb (k + 1) : Nat) : Int) ≤ (if k % 2 = 0 then (fb (k + 1) : Int) else -(fb (k + 1) : Int)) ∧ (if k % 2 = 0 then (fb (k + 1) : Int) else -(fb (k + 1) : Int)) ≤ (fb (k + 1) : Int)
    split <;> omega
abbrev tm : Nat := 1152921504606846977
def pF (i : Int) : Int := if 0 ≤ i then ((min (fb i.toNat) tm : Nat) : Int) else fI i
theorem pF_nat (k : Nat) : pF (k : Int) = ((min (fb k) tm : Nat) : Int) := by unfold pF; rw [if_pos (by omega), Int.toNat_natCast]
theorem pF_low {k : Nat} (hk : k ≤ 88) : pF (k : Int) = (fb k : Int) := by
  rw [pF_nat, Nat.min_eq_left]
  have := fb_le hk
  rw [fb88] at this
  have : tm = 1152921504606846977 := rfl
  omega
theorem lt64 {n : Nat} (h : n ≤ 9223372036854775807) : wr .i64 (n : Int) = (n : Int) := wr_id' (by omega) (by omega)
/-- the program's Fibonacci -/
theorem fib71 {i : Int} (h1 : -88 ≤ i) (h2 : i ≤ 4611686018427387904) : callX F1 ro 71 [.i .i64 i] h = some (.i .i64 (pF i), h, h.length, h.length) := by
  refine g71_ok (meansX_ok F1 ro) rfl ?_
  unfold g71
  simp only [fI', meansX_loop]
  have htm : tm = 1152921504606846977 := rfl
  rcases Int.le_total 0 i with hi | hi
  · obtain ⟨k, rfl⟩ := Int.eq_ofNat_of_zero_le hi
    have hm : mxV false (k : Int) 89 = ((min k 89 : Nat) : Int) := mxF
    rw [hm]
    have hl1 := loop_run (b := fun s : Int × Int × Int => g71_b0 (meansX F1 ro) ro (k : Int) ((min k 89 : Nat) : Int) ⟨h, h.length, h.length⟩ s.1 s.2.1 s.2.2) (fun j => (((min (fb j) tm : Nat) : Int), ((min (fb (j + 1)) tm : Nat) : Int), (j : Int))) (min k 89)
      (r0 := (((min (fb (min k 89)) tm : Nat) : Int), ((min (fb (min k 89 + 1)) tm : Nat) : Int))) ?_ ?_
    · have e : ((((min (fb 0) tm : Nat) : Int), ((min (fb (0 + 1)) tm : Nat) : Int), ((0 : Nat) : Int)) : Int × Int × Int) = (0, 1, 0) := by decide
      rw [e] at hl1
      rw [hl1]
      simp only [oS]
      rw [wr_id' (by omega) (by omega)]
      have hl2 := loopX_out (b := fun s : Int × Int × Int => g71_b1 (meansX F1 ro) ro (0 - (k : Int)) ⟨h, h.length, h.length⟩ s.1 s.2.1 s.2.2) (s := (((min (fb (min k 89)) tm : Nat) : Int), ((min (fb (min k 89 + 1)) tm : Nat) : Int), 0)) (r := ((min (fb (min k 89)) tm : Nat) : Int)) (by
        simp only [g71_b1, fB, ltF (show ¬ (0 : Int) < 0 - (k : Int) by omega), cF])
      rw [hl2]
      simp only [oS, tA]
      have e2 : min (fb (min k 89)) tm = min (fb k) tm := by
        rcases Nat.le_total k 89 with hk | hk
        · rw [Nat.min_eq_left hk]
        · rw [Nat.min_eq_right hk]
          have := fb_le hk
          rw [fb89] at this ⊢
          omega
      rw [e2, pF_nat]
      exact fin_pure rfl
    · simp only [g71_b0, fB, ltF (Int.lt_irrefl _), cF]
    · intro j hj
      have hb1 : min (fb j) tm + min (fb (j + 1)) tm ≤ 9223372036854775807 := by omega
      have e3 : ((min (fb j) tm : Nat) : Int) + ((min (fb (j + 1)) tm : Nat) : Int) = ((min (fb j) tm + min (fb (j + 1)) tm : Nat) : Int) := by omega
      have e4 : mxV false ((min (fb j) tm + min (fb (j + 1)) tm : Nat) : Int) 1152921504606846977 = ((min (fb (j + 2)) tm : Nat) : Int) := by
        rw [show (1152921504606846977 : Int) = ((tm : Nat) : Int) from rfl, mxF, fb_two]; omega
      have e5 : wr .i64 ((j : Int) + 1) = ((j + 1 : Nat) : Int) := wr_next (by omega)
      simp only [g71_b0, fB, ltT (show (j : Int) < ((min k 89 : Nat) : Int) by omega), cT, fI', e3, lt64 hb1, e4, e5]
  · rcases Int.lt_or_eq_of_le hi with hi | rfl
    rotate_left
    · -- zero
      have hm : mxV false (0 : Int) 89 = 0 := by decide
      rw [hm]
      have hl1 := loopX_out (b := fun s : Int × Int × Int => g71_b0 (meansX F1 ro) ro 0 0 ⟨h, h.length, h.length⟩ s.1 s.2.1 s.2.2) (s := (0, 1, 0)) (r := (0, 1)) (by simp only [g71_b0, fB, ltF (Int.lt_irrefl _), cF])
      rw [hl1]
      simp only [oS]
      have e0 : wr .i64 (0 - 0) = 0 := by decide
      rw [e0]
      have hl2 := loopX_out (b := fun s : Int × Int × Int => g71_b1 (meansX F1 ro) ro 0 ⟨h, h.length, h.length⟩ s.1 s.2.1 s.2.2) (s := (0, 1, 0)) (r := 0) (by simp only [g71_b1, fB, ltF (Int.lt_irrefl _), cF])
      rw [hl2]
      simp only [oS, tA]
      exact fin_pure rfl
    obtain ⟨k, hk⟩ : ∃ k : Nat, i = -(k : Int) := ⟨i.natAbs, by omega⟩
    have hm : mxV false i 89 = i := by rw [mxF']; omega
    rw [hm]
    have hl1 := loopX_out (b := fun s : Int × Int × Int => g71_b0 (meansX F1 ro) ro i i ⟨h, h.length, h.length⟩ s.1 s.2.1 s.2.2) (s := (0, 1, 0)) (r := (0, 1)) (by simp only [g71_b0, fB, ltF (show ¬ (0 : Int) < i by omega), cF])
    rw [hl1]
    simp only [oS]
    have e0 : wr .i64 (0 - i) = (k : Int) := by rw [wr_id' (by omega) (by omega)]; omega
    rw [e0]
    have hl2 := loop_run (b := fun s : Int × Int × Int => g71_b1 (meansX F1 ro) ro (k : Int) ⟨h, h.length, h.length⟩ s.1 s.2.1 s.2.2) (fun j => (fI (-(j : Int)), fI (1 - (j : Int)), (j : Int))) k (r0 := fI (-(k : Int))) ?_ ?_
    · have e : ((fI (-((0 : Nat) : Int)), fI (1 - ((0 : Nat) : Int)), ((0 : Nat) : Int)) : Int × Int × Int) = (0, 1, 0) := rfl
      rw [e] at hl2
      rw [hl2]
      simp only [oS, tA]
      unfold pF
      rw [if_neg (by omega), hk]
      exact fin_pure rfl
    · simp only [g71_b1, fB, ltF (Int.lt_irrefl _), cF]
    · intro j hj
      have e3 : fI (1 - (j : Int)) - fI (-(j : Int)) = fI (-((j + 1 : Nat) : Int)) := by
        have := fI_rec (-((j + 1 : Nat) : Int))
        rw [show -((j + 1 : Nat) : Int) + 2 = 1 - (j : Int) by omega, show -((j + 1 : Nat) : Int) + 1 = -(j : Int) by omega] at this
        omega
      have hb := fI_abs (-((j + 1 : Nat) : Int))
      have hle := fb_le (show (-((j + 1 : Nat) : Int)).natAbs ≤ 88 by omega)
      rw [fb88] at hle
      have e5 : wr .i64 ((j : Int) + 1) = ((j + 1 : Nat) : Int) := wr_next (by omega)
      have e6 : fI (1 - ((j + 1 : Nat) : Int)) = fI (-(j : Int)) := by congr 1; omega
      simp only [g71_b1, fB, ltT (show (j : Int) < (k : Int) by omega), cT, fI', e3, wr_id' (show -9223372036854775808 ≤ fI (-((j + 1 : Nat) : Int)) by omega) (show fI (-((j + 1 : Nat) : Int)) ≤ 9223372036854775807 by omega), e5, e6]
/-- is a number in range? -/
def inR (n : Int) : Prop := 0 ≤ n ∧ n ≤ 1152921504606846976
instance (n : Int) : Decidable (inR n) := inferInstanceAs (Decidable (_ ∧ _))
end
end Go.Proofs.Ytobmcofkcfifkaa.T

/- Ranges of several numbers; the parts of a number, by the program and by the reference. -/
open Go.Vm
set_option linter.unusedVariables false
namespace Go.Proofs.Ytobmcofkcfifkaa.T
open Go

section
variable {ro : List ABlk} {h : Heap}
/-- a list of numbers, all in range? -/
theorem all51 {v : AVal} {z : List Int} (a : IsRow ro h v z) (hz : z.length ≤ 1000000) : callX F1 ro 51 [v] h = some (.b (decide (∀ i, i < z.length → inR (z.getD i 0))), h, h.length, h.length) := by
  refine g51_ok (meansX_ok F1 ro) rfl ?_
  unfold g51
  simp only [len_row a, oS, iS, meansX_loop]
  have hl := loop_if (b := fun s => g51_b0 (meansX F1 ro) ro v (z.length : Int) ⟨h, h.length, h.length⟩ s) (fun i => (i : Int)) z.length (fun i => inR (z.getD i 0)) (.inl ()) (.inr false) ?_ ?_ ?_
  · have e0 : ((0 : Nat) : Int) = 0 := rfl
    rw [e0] at hl
    rw [hl]
    by_cases hf : ∀ i, i < z.length → inR (z.getD i 0)
    · rw [if_pos hf]
      simp only [oS, tA, dT hf]
      exact fin_pure rfl
    · rw [if_neg hf]
      simp only [oS, tA, dF hf]
      exact fin_pure rfl
  · simp only [g51_b0, fB, ltF (Int.lt_irrefl _), cF]
  · intro i hi hp
    obtain ⟨p, h1, h2, h3⟩ := at_row (m := ⟨h, h.length, h.length⟩) rfl a hi
    obtain ⟨hp1, hp2⟩ := hp
    simp only [g51_b0, fB, ltT (show (i : Int) < (z.length : Int) by omega), cT, h1, oS, h2, iS, ltF (show ¬ z.getD i 0 < 0 by omega), ltF (show ¬ 1152921504606846976 < z.getD i 0 by omega), cF, fI', wr_next (show i ≤ 1000000 by omega)]
  · intro i hi hp
    obtain ⟨p, h1, h2, h3⟩ := at_row (m := ⟨h, h.length, h.length⟩) rfl a hi
    simp only [g51_b0, fB, ltT (show (i : Int) < (z.length : Int) by omega), cT, h1, oS, h2, iS]
    rcases Int.lt_or_le (z.getD i 0) 0 with hh | hh
    · simp only [ltT hh, cT, oS]
    · have : 1152921504606846976 < z.getD i 0 := by
        rcases Int.lt_or_le 1152921504606846976 (z.getD i 0) with h4 | h4
        · exact h4
        · exact absurd ⟨hh, h4⟩ hp
      simp only [ltF (show ¬ z.getD i 0 < 0 by omega), ltT this, cF, oS, cT]
theorem bsl1 (hp : Heap) (l p : Nat) (x : Int) : stepM ro ⟨hp, l, p⟩ (.bsl 3 1 [(AVal.i IntKind.i64 0)] 1 [((0, 1), .c (.i .i64 x))]) = some (.sl ⟨false, hp.length, 0⟩ 1 (.known 1), ⟨hp ++ [some (blkOf 3 [.i .i64 x])], l, p⟩) := rfl
theorem bsl2 (hp : Heap) (l p : Nat) (x y : Int) : stepM ro ⟨hp, l, p⟩ (.bsl 3 1 [(AVal.i IntKind.i64 0)] 2 [((0, 1), .c (.i .i64 x)), ((1, 1), .c (.i .i64 y))]) = some (.sl ⟨false, hp.length, 0⟩ 2 (.known 2), ⟨hp ++ [some (blkOf 3 [.i .i64 x, .i .i64 y])], l, p⟩) := rfl
theorem newRow (hp : Heap) (z : List Int) (c : Cap) : IsRow ro (hp ++ [some (blkOf 3 (z.map (AVal.i .i64)))]) (.sl ⟨false, hp.length, 0⟩ z.length c) z := by
  refine .inr ⟨_, _, blkOf 3 (z.map (AVal.i .i64)), rfl, rdB_heap (lget_last _ _) 0, by simp [blkOf], fun j hj => ?_⟩
  rw [Nat.zero_add, get_blk, map_getD hj]
/-- one number in range? the list that is made for it is dropped later -/
theorem one51 {x : Int} {l p : Nat} (hl : l ≤ h.length) (hp : p ≤ h.length) : ∃ v H, stepM ro ⟨h, l, p⟩ (.bsl 3 1 [(AVal.i IntKind.i64 0)] 1 [((0, 1), .c (.i .i64 x))]) = some (v, ⟨H, l, p⟩) ∧ callM (callX F1 ro) ⟨H, l, p⟩ 51 [v] = some (.b (decide (inR x)), ⟨H, l, p⟩) ∧ Keep h H := by
  refine ⟨_, _, bsl1 h l p x, ?_, Keep.app _⟩
  have h1 := all51 (ro := ro) (newRow h [x] (.known 1)) (by simp)
  have e : decide (∀ i, i < [x].length → inR ([x].getD i 0)) = decide (inR x) := by
    apply decide_eq_decide.2
    exact ⟨fun hh => hh 0 (by simp), fun hh i hi => by obtain rfl : i = 0 := by simp at hi; omega
                                                       exact hh⟩
  rw [e] at h1
  exact callM_pure h1 (by simp; omega) (by simp; omega)
theorem two51 {x y : Int} {l p : Nat} (hl : l ≤ h.length) (hp : p ≤ h.length) : ∃ v H, stepM ro ⟨h, l, p⟩ (.bsl 3 1 [(AVal.i IntKind.i64 0)] 2 [((0, 1), .c (.i .i64 x)), ((1, 1), .c (.i .i64 y))]) = some (v, ⟨H, l, p⟩) ∧ callM (callX F1 ro) ⟨H, l, p⟩ 51 [v] = some (.b (decide (inR x ∧ inR y)), ⟨H, l, p⟩) ∧ Keep h H := by
  refine ⟨_, _, bsl2 h l p x y, ?_, Keep.app _⟩
  have h1 := all51 (ro := ro) (newRow h [x, y] (.known 2)) (by simp)
  have e : decide (∀ i, i < [x, y].length → inR ([x, y].getD i 0)) = decide (inR x ∧ inR y) := by
    apply decide_eq_decide.2
    refine ⟨fun hh => ⟨hh 0 (by simp), hh 1 (by simp)⟩, fun hh i hi => ?_⟩
    have hi2 : i = 0 ∨ i = 1 := by simp at hi; omega
    rcases hi2 with rfl | rfl
    · exact hh.1
    · exact hh.2
  rw [e] at h1
  exact callM_pure h1 (by simp; omega) (by simp; omega)
/-- numbers as the program's ints -/
abbrev nts (l : List Nat) : List Int := l.map fun n : Nat => ((n : Nat) : Int)
theorem nts_len (l : List Nat) : (nts l).length = l.length := by simp
theorem nts_get {l : List Nat} {i : Nat} (h : i < l.length) : (nts l).getD i 0 = ((l.getD i 0 : Nat) : Int) := by simp [List.getD, h]
/-- the program's parts -/
theorem parts60 {n : Nat} (hn : n ≤ big) : ∃ v H, callX F1 ro 60 [.i .i64 (n : Int)] h = some (v, H, h.length, h.length) ∧ Keep h H ∧ IsRow ro H v (nts (zk n)) := by
  have hbig : big = 1152921504606846976 := rfl
  have e1 : pF 88 = (fb 88 : Int) := pF_low (k := 88) (by omega)
  have e2 : pF 87 = (fb 87 : Int) := pF_low (k := 87) (by omega)
  have key : ∃ r, loopX (fun s : Int × AVal × Int × Int × Int × Mm => g60_b0 (meansX F1 ro) ro s.1 s.2.1 s.2.2.1 s.2.2.2.1 s.2.2.2.2.1 s.2.2.2.2.2) ((n : Int), AVal.nsl, (fb 88 : Int), (fb 87 : Int), 88, ⟨h, h.length, h.length⟩) = some r ∧ ∃ w H, r = (w, ⟨H, h.length, h.length⟩) ∧ Keep h H ∧ IsRow ro H w (nts (zk n)) := by
    refine loop_exit 87 (fun j s => ∃ (r : Nat) (w : AVal) (H : Heap) (l : List Nat), s = ((r : Int), w, (fb (88 - j) : Int), (fb (87 - j) : Int), ((88 - j : Nat) : Int), ⟨H, h.length, h.length⟩) ∧ Keep h H ∧ GV H h.length 3 1 w l.length ((nts l).map (AVal.i .i64)) ∧ l.length ≤ j ∧ l ++ gz (88 - j) r = zk n ∧ r < fb (89 - j)) _ ?_ ?_ 87 0 _ (by omega) ⟨n, .nsl, h, [], rfl, Keep.refl h, GV.nil _ _ _ _, by simp, rfl, by
      show n < fb 89
      rw [fb89]; omega⟩
    · rintro j s hj ⟨r, w, H, l, rfl, kp, g, hlen, hl, hr⟩
      obtain ⟨i, hi⟩ : ∃ i, 88 - j = i + 2 := ⟨86 - j, by omega⟩
      have hi1 : 87 - j = i + 1 := by omega
      have hi2 : 89 - j = i + 3 := by omega
      have hj1 : 88 - (j + 1) = i + 1 := by omega
      have hj2 : 87 - (j + 1) = i := by omega
      have hj3 : 89 - (j + 1) = i + 2 := by omega
      rw [hi] at hl
      rw [hi2] at hr
      simp only [hi, hi1]
      rcases Nat.eq_zero_or_pos r with rfl | hr0
      · refine .inr ⟨(w, ⟨H, h.length, h.length⟩), ?_, w, H, rfl, kp, ?_⟩
        · simp only [g60_b0, fB, ltF (show ¬ (0 : Int) < ((0 : Nat) : Int) by omega), cF]
        · rw [gz_zero, List.append_nil] at hl
          rw [← hl]
          exact GV.row g (nts_len l)
      · have hf := fb_le (show i + 2 ≤ 88 by omega)
        rw [fb88] at hf
        have ef : fb (i + 3) = fb (i + 1) + fb (i + 2) := rfl
        have ef2 : fb (i + 2) = fb i + fb (i + 1) := rfl
        have e3 : wr .i64 ((fb (i + 2) : Int) - (fb (i + 1) : Int)) = (fb i : Int) := by rw [wr_id' (by omega) (by omega)]; omega
        have e4 : wr .i64 (((i + 2 : Nat) : Int) - 1) = ((i + 1 : Nat) : Int) := by rw [wr_id' (by omega) (by omega)]; omega
        refine .inl ?_
        by_cases hc : fb (i + 2) ≤ r
        · obtain ⟨v2, hp2, v3, hp3, s1, s2, g2, k1, k2⟩ := GV.push (ro := ro) (L0 := h.length) (bytes := 8) (z := [AVal.i .i64 0]) (w := .i .i64 ((i + 2 : Nat) : Int)) (ws := [.i .i64 ((i + 2 : Nat) : Int)]) g (Nat.le_refl _) kp.1 (by omega) (by omega) (by omega) rfl rfl rfl rfl rfl
          have e5 : wr .i64 ((r : Int) - (fb (i + 2) : Int)) = ((r - fb (i + 2) : Nat) : Int) := by rw [wr_id' (by omega) (by omega)]; omega
          refine ⟨_, (by simp only [g60_b0, fB, ltT (show (0 : Int) < (r : Int) by omega), cT, ltF (show ¬ (r : Int) < (fb (i + 2) : Int) by omega), nF, s1, pS, s2, fI', e5, oS, e3, e4]; rfl), r - fb (i + 2), v3, hp3, l ++ [i + 2], by rw [hj1, hj2], ⟨Nat.le_trans kp.1 k1, fun q hq => by rw [k2 q hq, kp.2 q hq]⟩, ?_, by simp; omega, ?_, ?_⟩
          · rw [List.length_append, show nts (l ++ [i + 2]) = nts l ++ [((i + 2 : Nat) : Int)] by simp, List.map_append]
            simpa using g2
          · rw [hj1, ← hl, gz_take hc]; simp
          · rw [hj3]; omega
        · refine ⟨_, (by simp only [g60_b0, fB, ltT (show (0 : Int) < (r : Int) by omega), cT, ltT (show (r : Int) < (fb (i + 2) : Int) by omega), nT, cF, oS, fI', e3, e4]; rfl), r, w, H, l, by rw [hj1, hj2], kp, g, by omega, ?_, ?_⟩
          · rw [hj1, ← hl, gz_skip (i := i + 1) (by show r < fb (i + 2); omega)]
          · rw [hj3]; omega
    · rintro s ⟨r, w, H, l, rfl, kp, g, hlen, hl, hr⟩
      have : r = 0 := by have : fb (89 - 87) = 1 := rfl; omega
      subst this
      refine ⟨(w, ⟨H, h.length, h.length⟩), ?_, w, H, rfl, kp, ?_⟩
      · simp only [g60_b0, fB, ltF (show ¬ (0 : Int) < ((0 : Nat) : Int) by omega), cF]
      · rw [gz_zero, List.append_nil] at hl
        rw [← hl]
        exact GV.row g (nts_len l)
  obtain ⟨r, h1, w, H, rfl, kp, hrow⟩ := key
  obtain ⟨H', f1, f2, f3⟩ := fin_rowW (w := w) kp hrow rfl
  refine ⟨w, H', g60_ok (meansX_ok F1 ro) rfl ?_, f2, f3⟩
  unfold g60
  simp only [mC, cp0 (fib71 (i := 88) (by omega) (by omega)), cp0 (fib71 (i := 87) (by omega) (by omega)), pS, iS, e1, e2, meansX_loop]
  rw [h1]
  simp only [oS, tA]
  exact f1
end
end Go.Proofs.Ytobmcofkcfifkaa.T

/- Sums of shifted parts, as the program adds them. -/
open Go.Vm
set_option linter.unusedVariables false
namespace Go.Proofs.Ytobmcofkcfifkaa.T
open Go

theorem fold_take {α : Type} (f : α → Nat → α) (s : α) (l : List Nat) {j : Nat} (hj : j < l.length) : (l.take (j + 1)).foldl f s = f ((l.take j).foldl f s) (l.getD j 0) := by
  rw [List.take_succ_eq_append_getElem hj, List.foldl_append]
  simp [List.getD, hj]
theorem zk_at {n j : Nat} (hn : n ≤ big) (hj : j < (zk n).length) : 2 ≤ (zk n).getD j 0 ∧ (zk n).getD j 0 ≤ 88 := by
  have hm : (zk n).getD j 0 ∈ zk n := by
    have : (zk n).getD j 0 = (zk n)[j] := by simp [List.getD, hj]
    rw [this]; exact List.getElem_mem hj
  have := (zk_ok hn).1.mem hm
  omega
theorem zk_len {n : Nat} (hn : n ≤ big) : (zk n).length ≤ 44 := by
  have := (zk_ok hn).1.len
  omega
theorem fb78 : fb 78 = 8944394323791464 := by decide +kernel
theorem pF_bd {z : Int} (h : -78 ≤ z) : -8944394323791464 ≤ pF z ∧ pF z ≤ (tm : Int) := by
  have htm : tm = 1152921504606846977 := rfl
  unfold pF
  split
  · omega
  · have h1 := fI_abs z
    have h2 := fb_le (show z.natAbs ≤ 78 by omega)
    rw [fb78] at h2
    omega
/-- one part more -/
def stp (b : Int) (s : Int) (i : Nat) : Int := min (s + pF ((i : Int) + b)) (tm : Int)
/-- the program's sum of shifted parts -/
def acc (b : Int) (l : List Nat) : Int := l.foldl (stp b) 0
theorem acc_bdc {b : Int} {c : Nat} (hct : c ≤ tm) : ∀ (l : List Nat) (s : Int) (k : Nat), (∀ i ∈ l, -(c : Int) ≤ pF ((i : Int) + b)) → -((k * c : Nat) : Int) ≤ s → s ≤ (tm : Int) →
    -(((k + l.length) * c : Nat) : Int) ≤ l.foldl (stp b) s ∧ l.foldl (stp b) s ≤ (tm : Int)
  | [], s, k, _, h1, h2 => ⟨h1, h2⟩
  | i :: l, s, k, hi, h1, h2 => by
    have h3 := hi i (by simp)
    have e : (k + 1) * c = k * c + c := Nat.succ_mul k c
    have := acc_bdc hct l (stp b s i) (k + 1) (fun x hx => hi x (by simp [hx])) (by
      rw [e]
      unfold stp
      omega) (by unfold stp; omega)
    rw [List.length_cons, show k + (l.length + 1) = k + 1 + l.length by omega]
    exact this
theorem acc_bd {b : Int} (l : List Nat) (hl : l.length ≤ 44) (hi : ∀ i ∈ l, -78 ≤ (i : Int) + b) : -400000000000000000 ≤ l.foldl (stp b) 0 ∧ l.foldl (stp b) 0 ≤ (tm : Int) := by
  have htm : tm = 1152921504606846977 := rfl
  obtain ⟨h1, h2⟩ := acc_bdc (b := b) (c := 8944394323791464) (by omega) l 0 0 (fun i hm => (pF_bd (hi i hm)).1) (by omega) (by omega)
  refine ⟨?_, h2⟩
  have h3 : (0 + l.length) * 8944394323791464 ≤ 44 * 8944394323791464 := Nat.mul_le_mul_right _ (by omega)
  omega
theorem zk_mem {n j : Nat} (hj : j < (zk n).length) : (zk n).getD j 0 ∈ zk n := by
  have : (zk n).getD j 0 = (zk n)[j] := by simp [List.getD, hj]
  rw [this]; exact List.getElem_mem hj
section
variable {ro : List ABlk} {h : Heap}
theorem shiftedG {n : Nat} (hn : n ≤ big) {b : Int} (hb1 : ∀ i ∈ zk n, -78 ≤ (i : Int) + b) (hb0 : -88 ≤ b) (hb2 : b ≤ 4611686018427387000) : callX F1 ro 63 [.i .i64 (n : Int), .i .i64 b] h = some (.i .i64 (acc b (zk n)), h, h.length, h.length) := by
  obtain ⟨v, H, c1, kp, hv⟩ := parts60 (ro := ro) (h := h) hn
  refine g63_ok (meansX_ok F1 ro) rfl ?_
  unfold g63
  have hlen := zk_len hn
  simp only [mC, cM c1 (Nat.le_refl _) (Nat.le_refl _), pS, len_row hv, oS, iS, meansX_loop]
  rw [nts_len]
  have hl := loop_run (b := fun s : Int × Int × Mm => g63_b0 (meansX F1 ro) ro b v ((zk n).length : Int) s.1 s.2.1 s.2.2) (fun j => (((zk n).take j).foldl (stp b) 0, (j : Int), (⟨H, h.length, h.length⟩ : Mm))) (zk n).length
    (r0 := (((zk n).take (zk n).length).foldl (stp b) 0, (⟨H, h.length, h.length⟩ : Mm))) ?_ ?_
  · have e : ((((zk n).take 0).foldl (stp b) 0, ((0 : Nat) : Int), (⟨H, h.length, h.length⟩ : Mm)) : Int × Int × Mm) = (0, 0, ⟨H, h.length, h.length⟩) := rfl
    rw [e] at hl
    rw [hl]
    simp only [oS, tA, List.take_length]
    exact fin_keep kp rfl
  · simp only [g63_b0, fB, ltF (Int.lt_irrefl _), cF]
  · intro j hj
    obtain ⟨p, h1, h2, h3⟩ := at_row (m := ⟨H, h.length, h.length⟩) rfl hv (show j < (nts (zk n)).length by rw [nts_len]; exact hj)
    rw [nts_get hj] at h2
    obtain ⟨i1, i2⟩ := zk_at hn hj
    have hbd := acc_bd (b := b) ((zk n).take j) (by rw [List.length_take]; omega) (fun x hx => hb1 x (List.mem_of_mem_take hx))
    have hb3 := hb1 _ (zk_mem hj)
    have hpf := pF_bd (z := (((zk n).getD j 0 : Nat) : Int) + b) (by omega)
    have htm : tm = 1152921504606846977 := rfl
    rw [fold_take _ _ _ hj]
    generalize ((zk n).take j).foldl (stp b) 0 = S at hbd ⊢
    have hS : -9223372036854775808 ≤ S + pF ((((zk n).getD j 0 : Nat) : Int) + b) := by omega
    have e1 : wr .i64 ((((zk n).getD j 0 : Nat) : Int) + b) = (((zk n).getD j 0 : Nat) : Int) + b := wr_id' (by omega) (by omega)
    have e2 : wr .i64 (S + pF ((((zk n).getD j 0 : Nat) : Int) + b)) = S + pF ((((zk n).getD j 0 : Nat) : Int) + b) := wr_id' hS (by omega)
    have e3 : mxV false (S + pF ((((zk n).getD j 0 : Nat) : Int) + b)) 1152921504606846977 = stp b S ((zk n).getD j 0) := mxF'
    simp only [g63_b0, fB, ltT (show (j : Int) < ((zk n).length : Int) by omega), cT, h1, oS, h2, iS, fI', e1, mC, cp (fib71 (ro := ro) (h := H) (i := (((zk n).getD j 0 : Nat) : Int) + b) (by omega) (by omega)) kp.1 kp.1, pS, e2, e3, wr_next (show j ≤ 1000000 by omega)]
theorem shifted63 {n : Nat} (hn : n ≤ big) {b : Int} (hb1 : -80 ≤ b) (hb2 : b ≤ 4611686018427387000) : callX F1 ro 63 [.i .i64 (n : Int), .i .i64 b] h = some (.i .i64 (acc b (zk n)), h, h.length, h.length) :=
  shiftedG hn (fun i hi => by have := (zk_ok hn).1.mem hi; omega) (by omega) hb2
/-- the least part's index -/
def lp (n : Nat) : Nat := (zk n).getD ((zk n).length - 1) 0
theorem least72 {n : Nat} (hn : n ≤ big) (h0 : 0 < n) : callX F1 ro 72 [.i .i64 (n : Int)] h = some (.i .i64 (lp n : Int), h, h.length, h.length) := by
  obtain ⟨v, H, c1, kp, hv⟩ := parts60 (ro := ro) (h := h) hn
  refine g72_ok (meansX_ok F1 ro) rfl ?_
  unfold g72
  have hlen := zk_len hn
  have hpos : 0 < (zk n).length := List.length_pos_iff.2 (zk_ne hn h0)
  obtain ⟨p, h1, h2, h3⟩ := at_row (m := ⟨H, h.length, h.length⟩) rfl hv (show (zk n).length - 1 < (nts (zk n)).length by rw [nts_len]; omega)
  rw [nts_get (by omega)] at h2
  have e1 : wr .i64 (((nts (zk n)).length : Int) - 1) = (((zk n).length - 1 : Nat) : Int) := by rw [nts_len, wr_id' (by omega) (by omega)]; omega
  simp only [mC, cM c1 (Nat.le_refl _) (Nat.le_refl _), pS, len_row hv, oS, iS, fI', e1, h1, h2, tA]
  exact fin_keep kp rfl
end
theorem lp_bd {n : Nat} (hn : n ≤ big) (h0 : 0 < n) : 2 ≤ lp n ∧ lp n ≤ 88 := by
  have hpos : 0 < (zk n).length := List.length_pos_iff.2 (zk_ne hn h0)
  exact zk_at hn (by omega)
/-- shifted up -/
def su (b : Nat) : List Nat → Nat
  | [] => 0
  | i :: l => fb (i + b) + su b l
theorem acc_up (b : Nat) : ∀ (l : List Nat) (s : Nat), l.foldl (stp (b : Int)) ((min s tm : Nat) : Int) = ((min (s + su b l) tm : Nat) : Int)
  | [], s => rfl
  | i :: l, s => by
    simp only [List.foldl_cons]
    have e : stp (b : Int) ((min s tm : Nat) : Int) i = ((min (s + fb (i + b)) tm : Nat) : Int) := by
      unfold stp
      rw [show (i : Int) + (b : Int) = ((i + b : Nat) : Int) by omega, pF_nat]; omega
    rw [e, acc_up b l]
    show ((min (s + fb (i + b) + su b l) tm : Nat) : Int) = ((min (s + (fb (i + b) + su b l)) tm : Nat) : Int)
    rw [Nat.add_assoc]
theorem acc_nat (b : Nat) (l : List Nat) : acc (b : Int) l = ((min (su b l) tm : Nat) : Int) := by
  have := acc_up b l 0
  simpa [acc] using this
/-- shifted by any number -/
def si (b : Int) : List Nat → Int
  | [] => 0
  | i :: l => fI ((i : Int) + b) + si b l
def sa (b : Nat) : List Nat → Nat
  | [] => 0
  | i :: l => fb ((i : Int) - (b : Int)).natAbs + sa b l
theorem sa_low (b : Nat) : ∀ (l : List Nat) (t : Nat), Zk t l → 1 ≤ t → t ≤ b → fb (b - t) + sa b l ≤ fb b
  | [], t, _, h1, h2 => fb_le (by omega)
  | i :: l, t, ⟨i1, i2, i3⟩, h1, h2 => by
    have h4 := sa_low b l (i - 1) i3 (by omega) (by omega)
    have e1 : ((i : Int) - (b : Int)).natAbs = b - i := by omega
    have h5 : fb (b - t) ≤ fb (b - i - 1) := fb_le (by omega)
    obtain ⟨k, hk⟩ : ∃ k, b - i = k + 1 := ⟨b - i - 1, by omega⟩
    have e2 : b - (i - 1) = k + 2 := by omega
    have e3 : b - i - 1 = k := by omega
    rw [e2, fb_two] at h4
    rw [e3] at h5
    show fb (b - t) + (fb ((i : Int) - (b : Int)).natAbs + sa b l) ≤ fb b
    rw [e1, hk]; omega
theorem sa_bd (b : Nat) (hb : 1 ≤ b) : ∀ (l : List Nat) (t : Nat), Zk t l → b < t → sa b l ≤ fb (t - b) + fb b
  | [], t, _, h1 => Nat.zero_le _
  | i :: l, t, ⟨i1, i2, i3⟩, h1 => by
    show fb ((i : Int) - (b : Int)).natAbs + sa b l ≤ _
    rcases Nat.lt_or_ge i b with hi | hi
    · have := sa_low b (i :: l) (i + 1) ⟨i1, by omega, i3⟩ (by omega) (by omega)
      have : sa b (i :: l) = fb ((i : Int) - (b : Int)).natAbs + sa b l := rfl
      omega
    · have e1 : ((i : Int) - (b : Int)).natAbs = i - b := by omega
      rw [e1]
      rcases Nat.lt_or_ge b (i - 1) with h2 | h2
      · have h4 := sa_bd b hb l (i - 1) i3 h2
        obtain ⟨k, hk⟩ : ∃ k, i - b = k + 1 := ⟨i - b - 1, by omega⟩
        have e2 : i - 1 - b = k := by omega
        have h5 : fb (k + 2) ≤ fb (t - b) := fb_le (by omega)
        rw [fb_two] at h5
        rw [e2] at h4
        rw [hk]; omega
      · have h4 : sa b l ≤ fb b := by
          rcases Nat.lt_or_ge b (i - 1) with h | h
          · omega
          · have := sa_low b l (i - 1) i3 (by omega) h; omega
        have h5 : fb (i - b) ≤ fb (t - b) := fb_le (by omega)
        omega
theorem acc_dn (b : Nat) : ∀ (l : List Nat) (s : Int), (∀ i ∈ l, (i : Int) - (b : Int) ≤ 88) → s.natAbs + sa b l ≤ tm → l.foldl (stp (-(b : Int))) s = s + si (-(b : Int)) l
  | [], s, _, _ => by simp [si]
  | i :: l, s, hi, hs => by
    simp only [List.foldl_cons]
    have hs' : s.natAbs + (fb ((i : Int) - (b : Int)).natAbs + sa b l) ≤ tm := hs
    have e0 : (i : Int) + -(b : Int) = (i : Int) - (b : Int) := by omega
    have h1 := fI_abs ((i : Int) - (b : Int))
    have e1 : pF ((i : Int) + -(b : Int)) = fI ((i : Int) - (b : Int)) := by
      rw [e0]
      unfold pF
      split
      · rename_i h2
        obtain ⟨k, hk⟩ := Int.eq_ofNat_of_zero_le h2
        rw [hk, fI_nat, Int.toNat_natCast, Nat.min_eq_left]
        rw [hk] at hs'
        have : (k : Int).natAbs = k := by omega
        rw [this] at hs'
        omega
      · rfl
    have e2 : min (s + fI ((i : Int) - (b : Int))) (tm : Int) = s + fI ((i : Int) - (b : Int)) := by omega
    have e3 : stp (-(b : Int)) s i = s + fI ((i : Int) - (b : Int)) := by unfold stp; rw [e1, e2]
    rw [e3, acc_dn b l _ (fun x hx => hi x (by simp [hx])) (by omega)]
    show _ = s + (fI ((i : Int) + -(b : Int)) + si (-(b : Int)) l)
    rw [e0]; omega
/-- downwards the sum is never too much -/
theorem sa_max {b : Nat} (h1 : 1 ≤ b) (h2 : b ≤ 88) : fb (89 - b) + fb b ≤ 1152921504606846976 := by
  have : ∀ b, b < 88 → fb (89 - (b + 1)) + fb (b + 1) ≤ 1152921504606846976 := by decide +kernel
  have := this (b - 1) (by omega)
  rwa [show b - 1 + 1 = b by omega] at this
theorem acc_neg {b n : Nat} (hn : n ≤ big) (h1 : 1 ≤ b) (h2 : b ≤ 88) : acc (-(b : Int)) (zk n) = si (-(b : Int)) (zk n) ∧ (si (-(b : Int)) (zk n)).natAbs ≤ 1152921504606846976 := by
  have h3 := sa_bd b h1 (zk n) 89 (zk_ok hn).1 (by omega)
  have h4 := sa_max h1 h2
  have htm : tm = 1152921504606846977 := rfl
  have h5 := acc_dn b (zk n) 0 (fun i hi => by have := (zk_ok hn).1.mem hi; omega) (by simp; omega)
  rw [Int.zero_add] at h5
  refine ⟨h5, ?_⟩
  have : ∀ l : List Nat, (si (-(b : Int)) l).natAbs ≤ sa b l := fun l => by
    induction l with
    | nil => simp [si]
    | cons i l ih =>
      show (fI ((i : Int) + -(b : Int)) + si (-(b : Int)) l).natAbs ≤ fb ((i : Int) - (b : Int)).natAbs + sa b l
      have := fI_abs ((i : Int) - (b : Int))
      rw [show (i : Int) + -(b : Int) = (i : Int) - (b : Int) by omega]
      omega
  have := this (zk n)
  omega
end Go.Proofs.Ytobmcofkcfifkaa.T

/- Take, by the program and by the reference. -/
open Go.Vm
set_option linter.unusedVariables false
namespace Go.Proofs.Ytobmcofkcfifkaa.T
open Go

section
variable {ro : List ABlk} {h : Heap}
theorem inR_nat {n : Int} (hr : inR n) : ∃ k : Nat, n = (k : Int) ∧ k ≤ big := by
  obtain ⟨k, rfl⟩ := Int.eq_ofNat_of_zero_le hr.1
  have := hr.2
  exact ⟨k, rfl, by have : big = 1152921504606846976 := rfl; omega⟩
theorem nat_inR {k : Nat} (h : k ≤ big) : inR (k : Int) := ⟨by omega, by have : big = 1152921504606846976 := rfl; omega⟩
def ret3 (p : Int × Int × Int) : AVal := .tup [.i .i64 p.1, .i .i64 p.2.1, .i .i64 p.2.2]
theorem r30 (p : Int × Int × Int) : evP .e (.ext 0 (.c (ret3 p))) = some (.i .i64 p.1) := x0 _ _
theorem r31 (p : Int × Int × Int) : evP .e (.ext 1 (.c (ret3 p))) = some (.i .i64 p.2.1) := x1 _ _ _
theorem r32 (p : Int × Int × Int) : evP .e (.ext 2 (.c (ret3 p))) = some (.i .i64 p.2.2) := x2 _ _ _ _
/- Take -/
end
theorem exC {ro : List ABlk} {k : Nat} {l : List AVal} {h : Heap} {n m : Nat} {H : Heap} (e : callX F1 ro k l h = some (.b true, H, n, m)) : ∃ h' lw lp, callX F1 ro k l h = some (.b true, h', lw, lp) := ⟨_, _, _, e⟩
end Go.Proofs.Ytobmcofkcfifkaa.T

/- Shift, by the program and by the reference. -/
open Go.Vm
set_option linter.unusedVariables false
namespace Go.Proofs.Ytobmcofkcfifkaa.T
open Go

theorem take_one {l : List Nat} {j : Nat} (hj : j < l.length) : l.take (j + 1) = l.take j ++ [l.getD j 0] := by
  rw [List.take_succ_eq_append_getElem hj]; simp [List.getD, hj]
/- Shift -/
section
variable {ro : List ABlk} {h : Heap}
end
end Go.Proofs.Ytobmcofkcfifkaa.T

/- Circle, by the program and by the reference; the law of circles. -/
open Go.Vm
set_option linter.unusedVariables false
namespace Go.Proofs.Ytobmcofkcfifkaa.T
open Go

/- Circle -/
section
variable {ro : List ABlk} {h : Heap}
end
end Go.Proofs.Ytobmcofkcfifkaa.T

/- Array and Where, by the program and by the reference. -/
open Go.Vm
set_option linter.unusedVariables false
namespace Go.Proofs.Ytobmcofkcfifkaa.T
open Go

/- Array -/
section
variable {ro : List ABlk} {h : Heap}
end
/- Where -/
theorem Zk.snoc : ∀ {l : List Nat} {t x i : Nat}, Zk t (l ++ [x]) → i ∈ l → x + 2 ≤ i
  | [], _, _, _, _, h => by simp at h
  | a :: l, t, x, i, ⟨h1, h2, h3⟩, hm => by
    rcases List.mem_cons.1 hm with rfl | hm
    · have := h3.mem (i := x) (by simp)
      omega
    · exact Zk.snoc h3 hm
theorem zk_last {n : Nat} (hn : n ≤ big) (h0 : 0 < n) : zk n = (zk n).take ((zk n).length - 1) ++ [lp n] := by
  have hpos : 0 < (zk n).length := List.length_pos_iff.2 (zk_ne hn h0)
  have h := take_one (l := zk n) (j := (zk n).length - 1) (by omega)
  rw [show (zk n).length - 1 + 1 = (zk n).length by omega, List.take_length] at h
  exact h
section
variable {ro : List ABlk} {h : Heap}
end
end Go.Proofs.Ytobmcofkcfifkaa.T

/- The product of numbers by their parts: Knuth's theorem. -/
open Go.Vm
set_option linter.unusedVariables false
namespace Go.Proofs.Ytobmcofkcfifkaa.T
open Go

theorem fb_add : ∀ (m k : Nat), fb (m + 1 + k) = fb m * fb k + fb (m + 1) * fb (k + 1)
  | m, 0 => by simp [fb]
  | m, 1 => by
    show fb (m + 2) = fb m * 1 + fb (m + 1) * 1
    rw [fb_two]; omega
  | m, k + 2 => by
    have h1 := fb_add m k
    have h2 := fb_add m (k + 1)
    have e1 : fb (m + 1 + (k + 2)) = fb (m + 1 + k) + fb (m + 1 + (k + 1)) := rfl
    have e2 : fb (k + 2 + 1) = fb (k + 1) + fb (k + 2) := rfl
    have e3 : fb (k + 2) = fb k + fb (k + 1) := rfl
    rw [e1, h1, h2, e2, e3]
    simp only [Nat.mul_add]
    omega
/-- a sum over a list -/
def sg (f : Nat → Nat) : List Nat → Nat
  | [] => 0
  | i :: l => f i + sg f l
theorem sg_congr {f g : Nat → Nat} : ∀ {l : List Nat}, (∀ i ∈ l, f i = g i) → sg f l = sg g l
  | [], _ => rfl
  | i :: l, h => by
    show f i + sg f l = g i + sg g l
    rw [h i (by simp), sg_congr fun x hx => h x (by simp [hx])]
theorem sg_add (f g : Nat → Nat) : ∀ l, sg (fun i => f i + g i) l = sg f l + sg g l
  | [] => rfl
  | i :: l => by
    show f i + g i + sg (fun i => f i + g i) l = (f i + sg f l) + (g i + sg g l)
    rw [sg_add f g l]; omega
theorem sg_mul (c : Nat) (f : Nat → Nat) : ∀ l, sg (fun i => f i * c) l = sg f l * c
  | [] => by simp [sg]
  | i :: l => by
    show f i * c + sg (fun i => f i * c) l = (f i + sg f l) * c
    rw [sg_mul c f l, Nat.add_mul]
theorem su_sg (b : Nat) : ∀ l, su b l = sg (fun i => fb (i + b)) l
  | [] => rfl
  | i :: l => by show fb (i + b) + su b l = fb (i + b) + sg (fun i => fb (i + b)) l; rw [su_sg b l]
theorem sm_sg : ∀ l, sm l = sg fb l
  | [] => rfl
  | i :: l => by show fb i + sm l = fb i + sg fb l; rw [sm_sg l]
/-- the parts one lower -/
def sd (l : List Nat) : Nat := sg (fun i => fb (i - 1)) l
theorem su_sd {t : Nat} {l : List Nat} (hz : Zk t l) (k : Nat) : su k l = sd l * fb k + sm l * fb (k + 1) := by
  rw [su_sg, sm_sg, sd, ← sg_mul, ← sg_mul, ← sg_add]
  refine sg_congr fun i hi => ?_
  have := hz.mem hi
  have h := fb_add (i - 1) k
  rw [show i - 1 + 1 = i by omega] at h
  exact h
/-- how far a power is from its approximation -/
def eK (K i : Nat) : Int := (fb (i - 1) : Int) * (fb K : Int) - (fb i : Int) * (fb (K - 1) : Int)
theorem eK_val (K : Nat) : ∀ i, 1 ≤ i → i ≤ K → eK K i = if i % 2 = 0 then (fb (K - i) : Int) else -(fb (K - i) : Int)
  | 0, h, _ => by omega
  | 1, _, _ => by simp [eK, fb]
  | 2, _, h2 => by
    obtain ⟨k, rfl⟩ : ∃ k, K = k + 2 := ⟨K - 2, by omega⟩
    have e1 : fb (k + 2) = fb k + fb (k + 1) := rfl
    have e2 : eK (k + 2) 2 = (fb 1 : Int) * (fb (k + 2) : Int) - (fb 2 : Int) * (fb (k + 1) : Int) := rfl
    rw [e2, e1]
    simp [fb]
  | i + 3, _, h2 => by
    have h3 := eK_val K (i + 1) (by omega) (by omega)
    have h4 := eK_val K (i + 2) (by omega) (by omega)
    have e : eK K (i + 3) = eK K (i + 1) + eK K (i + 2) := by
      show (fb (i + 2) : Int) * (fb K : Int) - (fb (i + 3) : Int) * (fb (K - 1) : Int) = ((fb i : Int) * (fb K : Int) - (fb (i + 1) : Int) * (fb (K - 1) : Int)) + ((fb (i + 1) : Int) * (fb K : Int) - (fb (i + 2) : Int) * (fb (K - 1) : Int))
      have e1 : (fb (i + 2) : Int) = (fb i : Int) + (fb (i + 1) : Int) := by have : fb (i + 2) = fb i + fb (i + 1) := rfl; omega
      have e2 : (fb (i + 3) : Int) = (fb (i + 1) : Int) + (fb (i + 2) : Int) := by have : fb (i + 3) = fb (i + 1) + fb (i + 2) := rfl; omega
      rw [e2, e1]
      simp only [Int.add_mul]
      omega
    rw [e, h3, h4]
    obtain ⟨k, hk⟩ : ∃ k, K - (i + 3) = k := ⟨_, rfl⟩
    have k1 : K - (i + 2) = k + 1 := by omega
    have k2 : K - (i + 1) = k + 2 := by omega
    rw [hk, k1, k2]
    have e1 : fb (k + 2) = fb k + fb (k + 1) := rfl
    rcases Nat.mod_two_eq_zero_or_one i with hi | hi
    · rw [if_neg (by omega), if_pos (by omega), if_neg (by omega)]; omega
    · rw [if_pos (by omega), if_neg (by omega), if_pos (by omega)]; omega
def eL (K : Nat) : List Nat → Int
  | [] => 0
  | i :: l => eK K i + eL K l
theorem eL_eq (K : Nat) : ∀ l, eL K l = (sd l : Int) * (fb K : Int) - (sm l : Int) * (fb (K - 1) : Int)
  | [] => by simp [eL, sd, sg, sm]
  | i :: l => by
    show eK K i + eL K l = ((fb (i - 1) + sd l : Nat) : Int) * (fb K : Int) - ((fb i + sm l : Nat) : Int) * (fb (K - 1) : Int)
    rw [eL_eq K l]
    unfold eK
    rw [Int.natCast_add, Int.natCast_add, Int.add_mul, Int.add_mul]
    omega
/-- the sum of the sizes -/
theorem abs_bd (K : Nat) : ∀ (l : List Nat) (t : Nat), Zk t l → 1 ≤ t → t ≤ K → sg (fun i => fb (K - i)) l + fb (K - t) ≤ fb (K - 1)
  | [], t, _, h1, h2 => by
    show 0 + fb (K - t) ≤ _
    rw [Nat.zero_add]; exact fb_le (by omega)
  | i :: l, t, ⟨i1, i2, i3⟩, h1, h2 => by
    have ih := abs_bd K l (i - 1) i3 (by omega) (by omega)
    obtain ⟨k, hk⟩ : ∃ k, K - i = k + 1 := ⟨K - i - 1, by omega⟩
    have k1 : K - (i - 1) = k + 2 := by omega
    have h5 : fb (K - t) ≤ fb k := fb_le (by omega)
    rw [k1, fb_two] at ih
    show fb (K - i) + sg (fun i => fb (K - i)) l + fb (K - t) ≤ fb (K - 1)
    rw [hk]; omega
theorem eL_up (K : Nat) : ∀ (l : List Nat) (t : Nat), Zk t l → t ≤ K → eL K l ≤ (sg (fun i => fb (K - i)) l : Int) ∧ -(sg (fun i => fb (K - i)) l : Int) ≤ eL K l
  | [], t, _, _ => by simp [eL, sg]
  | i :: l, t, ⟨i1, i2, i3⟩, h2 => by
    have ih := eL_up K l (i - 1) i3 (by omega)
    have := eK_val K i (by omega) (by omega)
    show eK K i + eL K l ≤ ((fb (K - i) + sg (fun i => fb (K - i)) l : Nat) : Int) ∧ -((fb (K - i) + sg (fun i => fb (K - i)) l : Nat) : Int) ≤ eK K i + eL K l
    rw [this]
    split <;> omega
theorem eL_low (K : Nat) : ∀ (l : List Nat) (t : Nat), Zk t l → 2 ≤ t → t ≤ K → -eL K l + (fb (K - t) : Int) ≤ (fb (K - 2) : Int)
  | [], t, _, h1, h2 => by
    have := fb_le (show K - t ≤ K - 2 by omega)
    simp only [eL]; omega
  | i :: l, t, ⟨i1, i2, i3⟩, h1, h2 => by
    obtain ⟨k, hk⟩ : ∃ k, K - i = k + 1 := ⟨K - i - 1, by omega⟩
    have k1 : K - (i - 1) = k + 2 := by omega
    have e1 : fb (k + 2) = fb k + fb (k + 1) := rfl
    have h5 : fb (K - t) ≤ fb k := fb_le (by omega)
    have hv := eK_val K i (by omega) (by omega)
    show -(eK K i + eL K l) + (fb (K - t) : Int) ≤ (fb (K - 2) : Int)
    rw [hk] at hv
    rcases Nat.lt_or_ge i 3 with hi | hi
    · obtain rfl : i = 2 := by omega
      have : l = [] := by
        cases l with
        | nil => rfl
        | cons x l => exact absurd i3.2.1 (by have := i3.1; omega)
      subst this
      have e2 : K - 2 = k + 1 := hk
      have h6 := fb_succ k
      have hv2 : eK K 2 = (fb (k + 1) : Int) := by rw [hv]; rfl
      rw [e2, hv2]
      simp only [eL]
      omega
    · have ih := eL_low K l (i - 1) i3 (by omega) (by omega)
      rw [k1] at ih
      rw [hv]
      split <;> omega
/-- the parts one lower are known by how near they are -/
theorem sd_near {t K : Nat} {l : List Nat} (hz : Zk t l) (h2 : 2 ≤ t) (hK : t < K) :
    -(fb (K - 2) : Int) < (sd l : Int) * (fb K : Int) - (sm l : Int) * (fb (K - 1) : Int) ∧ (sd l : Int) * (fb K : Int) - (sm l : Int) * (fb (K - 1) : Int) < (fb (K - 1) : Int) := by
  have h3 := abs_bd K l t hz (by omega) (by omega)
  have h4 := eL_up K l t hz (by omega)
  have h5 := eL_low K l t hz h2 (by omega)
  rw [eL_eq] at h4 h5
  obtain ⟨k, hk⟩ : ∃ k, K - t = k + 1 := ⟨K - t - 1, by omega⟩
  have h6 := fb_pos k
  rw [hk] at h3 h5
  omega
end Go.Proofs.Ytobmcofkcfifkaa.T

/- Numbers made smaller; Knuth's law. -/
open Go.Vm
set_option linter.unusedVariables false
namespace Go.Proofs.Ytobmcofkcfifkaa.T
open Go

section
variable {ro : List ABlk} {h : Heap}
theorem u64_pos {n : Int} (h : (Lit.int .u64 n).wf = true) : 0 ≤ n := by
  simp [Lit.wf] at h
  exact h.1
theorem u8_bd {n : Int} (h : (Lit.int .u8 n).wf = true) : 0 ≤ n ∧ n ≤ 255 := by
  simp [Lit.wf] at h
  exact ⟨h.1, h.2⟩
/-- a number made smaller -/
theorem small47 {n : Int} (h0 : 0 ≤ n) : ∃ k : Nat, k < 33554432 ∧ ∀ H, callX F1 ro 47 [.i .u64 n] H = some (.i .i64 (k : Int), H, H.length, H.length) := by
  obtain ⟨m, rfl⟩ := Int.eq_ofNat_of_zero_le h0
  refine ⟨m % 33554432, Nat.mod_lt _ (by decide), fun H => g47_ok (meansX_ok F1 ro) rfl ?_⟩
  unfold g47
  have e : Int.tmod (m : Int) 33554432 = ((m % 33554432 : Nat) : Int) := rfl
  have h1 : m % 33554432 < 33554432 := Nat.mod_lt _ (by decide)
  simp only [fI', e, lt64 (show m % 33554432 ≤ 9223372036854775807 by omega), tA]
  exact fin_pure rfl
theorem number45 {n : Int} (h0 : 0 ≤ n) : ∃ k : Nat, k ≤ big ∧ ∀ H, callX F1 ro 45 [.i .u64 n] H = some (.i .i64 (k : Int), H, H.length, H.length) := by
  obtain ⟨m, rfl⟩ := Int.eq_ofNat_of_zero_le h0
  have h1 : m % 1152921504606846977 < 1152921504606846977 := Nat.mod_lt _ (by decide)
  refine ⟨m % 1152921504606846977, by have : big = 1152921504606846976 := rfl; omega, fun H => g45_ok (meansX_ok F1 ro) rfl ?_⟩
  unfold g45
  have e : Int.tmod (m : Int) 1152921504606846977 = ((m % 1152921504606846977 : Nat) : Int) := rfl
  simp only [fI', e, lt64 (show m % 1152921504606846977 ≤ 9223372036854775807 by omega), tA]
  exact fin_pure rfl
end
end Go.Proofs.Ytobmcofkcfifkaa.T

/- Blocks of bytes; copies; zeros as many as one likes. -/
open Go.Vm
set_option linter.unusedVariables false
namespace Go.Proofs.Ytobmcofkcfifkaa.T
open Go

/-- a byte -/
def bv (c : UInt8) : AVal := .i .u8 (c.toNat : Int)
/-- a block of values, no more to it -/
def HB (hp : Heap) (b : Nat) (vs : List AVal) : Prop := ∃ blk, lget hp b = some (some blk) ∧ blk.g = none ∧ blk.n = vs.length ∧ ∀ j, j < vs.length → blk.c.get j = vs.getD j und
theorem HB.holds {hp : Heap} {b : Nat} {vs : List AVal} (a : HB hp b vs) : Holds hp b vs := by
  obtain ⟨blk, h1, -, h2, h3⟩ := a
  exact ⟨blk, h1, h2, h3⟩
theorem HB.lt {hp : Heap} {b : Nat} {vs : List AVal} (a : HB hp b vs) : b < hp.length := a.holds.lt
theorem HB.new (hp : Heap) (e : Nat) (vs : List AVal) : HB (hp ++ [some (blkOf e vs)]) hp.length vs := ⟨_, lget_last _ _, rfl, rfl, fun j _ => get_blk e vs j⟩
theorem HB.keep {hp hp' : Heap} {b : Nat} {vs : List AVal} (a : HB hp b vs) (hk : hp'[b]? = hp[b]?) : HB hp' b vs := by
  obtain ⟨blk, h1, h2⟩ := a
  exact ⟨blk, by rw [lget_of hk]; exact h1, h2⟩
theorem getD_map_range {α : Type} (f : Nat → α) (d : α) {n j : Nat} (hj : j < n) : ((List.range n).map f).getD j d = f j := by
  simp [List.getD, hj]
theorem wrH_off {hp : Heap} {b off : Nat} {blk : ABlk} {vs : List AVal} (hb : lget hp b = some (some blk)) (hn : off + vs.length ≤ blk.n) (ho : ones vs = true) : wrH hp ⟨false, b, off⟩ vs = some (hp.set b (some { blk with c := blk.c.splice off vs })) := by
  have : (Nat.ble (off + vs.length) blk.n && ones vs) = true := by rw [ho, Bool.and_true, Nat.ble_eq]; omega
  simp only [wrH, cond_false, hb, this, cond_true, lset_eq]
/-- values in the middle of a block -/
theorem HB.wr {hp : Heap} {b off n : Nat} {f g : Nat → AVal} {vs : List AVal} (a : HB hp b ((List.range n).map f)) (hn : off + vs.length ≤ n) (ho : ones vs = true) (hg : ∀ j, j < n → g j = if off ≤ j ∧ j < off + vs.length then vs.getD (j - off) und else f j) :
    ∃ hp', wrH hp ⟨false, b, off⟩ vs = some hp' ∧ HB hp' b ((List.range n).map g) ∧ hp'.length = hp.length ∧ ∀ i, i ≠ b → hp'[i]? = hp[i]? := by
  obtain ⟨blk, h1, h2, h3, h4⟩ := a
  have hl : ∀ k : Nat → AVal, ((List.range n).map k).length = n := fun k => by simp
  rw [hl] at h3 h4
  refine ⟨_, wrH_off h1 (by omega) ho, ⟨_, lget_set h1 _, h2, ?_, fun j hj => ?_⟩, by simp, fun i hi => List.getElem?_set_ne (Ne.symm hi)⟩
  · rw [hl]; exact h3
  · rw [hl] at hj
    rw [getD_map_range g und hj, hg j hj]
    show (blk.c.splice off vs).get j = _
    rw [spliceGet]
    split
    · rfl
    · rw [h4 j hj, getD_map_range f und hj]
theorem ones_rep (c : UInt8) : ∀ n, ones (List.replicate n (bv c)) = true
  | 0 => rfl
  | n + 1 => by rw [List.replicate_succ]; simp only [ones, ones_rep c n]; rfl
theorem nonp_rep (c : UInt8) : ∀ n, nonp (List.replicate n (bv c)) = true
  | 0 => rfl
  | n + 1 => by rw [List.replicate_succ]; simp only [nonp, ones_rep]; first | rfl | (have := nonp_rep c n; simp_all [nonp, bv, AVal.scalar])
/-- so many bytes are there -/
def rp (c : UInt8) (k j : Nat) : AVal := if j < k then bv c else .jk
theorem jks_range : ∀ n, jks n = (List.range n).map (rp 48 0) := fun n => by
  refine List.ext_getElem? fun i => ?_
  rcases Nat.lt_or_ge i n with hi | hi
  · have h1 : i < (jks n).length := by rw [jks_length]; exact hi
    rw [List.getElem?_eq_getElem h1, jks_get n i _ (List.getElem?_eq_getElem h1)]
    simp [rp, hi]
  · rw [List.getElem?_eq_none (by rw [jks_length]; exact hi), List.getElem?_eq_none (by simp; exact hi)]
section
variable {ro : List ABlk} {h : Heap}
/-- the first copy -/
theorem cpy_first {hp : Heap} {b b0 n l p : Nat} {c c2 : Cap} {blk0 : ABlk} (hn : 1 ≤ n) (hl : l ≤ b) (a : HB hp b ((List.range n).map (rp 48 0))) (hz : lget hp b0 = some (some blk0)) (hg : blk0.g = some (.fz [48])) :
    ∃ hp', stepM ro ⟨hp, l, p⟩ (.cpy 1 (.c (.sl ⟨false, b, 0⟩ n c)) (.c (.sl ⟨false, b0, 0⟩ 1 c2))) = some (.i .i64 1, ⟨hp', l, p⟩) ∧ HB hp' b ((List.range n).map (rp 48 1)) ∧ hp'.length = hp.length ∧ ∀ i, i ≠ b → hp'[i]? = hp[i]? := by
  obtain ⟨hp', w1, w2, w3, w4⟩ := a.wr (off := 0) (vs := [bv 48]) (g := rp 48 1) (by simp; omega) rfl (fun j hj => by
    unfold rp
    by_cases e : j < 1
    · obtain rfl : j = 0 := by omega
      simp
    · rw [if_neg e, if_neg (by simp; omega), if_neg (by omega)])
  refine ⟨hp', ?_, w2, w3, w4⟩
  have e1 : min 1 n = 1 := by omega
  have e2 : fzB hp ⟨false, b0, 0⟩ = some [48] := by simp only [fzB, hz, hg]
  have e3 : (([48] : List UInt8).take 1).map (fun b => mkI .u8 (b.toNat : Int)) = [bv 48] := by simp [bv, mkI_eq]
  have e4 : (Nat.beq 1 1 && Nat.ble 1 ([48] : List UInt8).length) = true := rfl
  have e5 : nonp [bv 48] = true := rfl
  simp only [stepM, stepK, opd, st_cpy, e2, st_cpyF, e1, e4, e3, w1, e5, cond_true, St.mm, Nat.min_eq_left hl]
  rw [mkI_eq]; rfl
/-- the next one -/
theorem cpy_next {hp : Heap} {b k n l p : Nat} {c c2 : Cap} (hk : 1 ≤ k) (hkn : k < n) (hl : l ≤ b) (a : HB hp b ((List.range n).map (rp 48 k))) :
    ∃ hp', stepM ro ⟨hp, l, p⟩ (.cpy 1 (.c (.sl ⟨false, b, k⟩ (n - k) c)) (.c (.sl ⟨false, b, 0⟩ (min k n) c2))) = some (.i .i64 ((min k (n - k) : Nat) : Int), ⟨hp', l, p⟩) ∧ HB hp' b ((List.range n).map (rp 48 (k + min k (n - k)))) ∧ hp'.length = hp.length ∧ ∀ i, i ≠ b → hp'[i]? = hp[i]? := by
  obtain ⟨m, hm⟩ : ∃ m, m = min k (n - k) := ⟨_, rfl⟩
  have hm2 : min (min k n) (n - k) = m := by omega
  obtain ⟨hp', w1, w2, w3, w4⟩ := a.wr (off := k) (vs := List.replicate m (bv 48)) (g := rp 48 (k + m)) (by simp; omega) (ones_rep 48 m) (fun j hj => by
    unfold rp
    rw [List.length_replicate]
    by_cases e : k ≤ j ∧ j < k + m
    · rw [if_pos e.2, if_pos e]
      simp [List.getD, show j - k < m by omega]
    · rw [if_neg e]
      by_cases e2 : j < k
      · rw [if_pos e2, if_pos (by omega)]
      · rw [if_neg e2, if_neg (by omega)])
  refine ⟨hp', ?_, by rw [← hm]; exact w2, w3, w4⟩
  obtain ⟨blk, b1, b2, b3, b4⟩ := a
  have hlen : ((List.range n).map (rp 48 k)).length = n := by simp
  rw [hlen] at b3 b4
  have e2 : fzB hp ⟨false, b, 0⟩ = none := by simp only [fzB, b1, b2]
  have e3 : rdB ro hp ⟨false, b, 0⟩ = some blk := rdB_heap b1 0
  have e4 : Nat.ble (0 + m * 1) blk.n = true := by rw [Nat.ble_eq]; omega
  have e5 : blk.c.row 0 (m * 1) = List.replicate m (bv 48) := by
    refine row_row (m * 1) 0 _ (by simp) fun j hj => ?_
    have hj' : j < m := by omega
    rw [Nat.zero_add, b4 j (by omega), getD_map_range _ _ (by omega)]
    simp [rp, List.getD, hj', show j < k by omega]
  simp only [stepM, stepK, opd, st_cpy, e2, e3, hm2, e4, e5, w1, nonp_rep, cond_true, St.mm, Nat.min_eq_left hl, mkI_eq]
  rw [← hm]
/-- the upper word of a product -/
def mulHi (x0 x1 : Int) : Int :=
  let x15 := bitV .and .u64 x0 4294967295
  let x17 := shrV .u64 x0 32
  let x19 := bitV .and .u64 x1 4294967295
  let x21 := shrV .u64 x1 32
  let x24 := wr .u64 (x15 * x19)
  let x27 := wr .u64 (x17 * x19)
  let x29 := shrV .u64 x24 32
  let x30 := wr .u64 (x27 + x29)
  let x32 := bitV .and .u64 x30 4294967295
  let x34 := shrV .u64 x30 32
  let x38 := wr .u64 (x15 * x21)
  let x39 := wr .u64 (x32 + x38)
  let x42 := wr .u64 (x17 * x21)
  let x44 := wr .u64 (x42 + x34)
  let x46 := shrV .u64 x39 32
  wr .u64 (x44 + x46)
theorem mulHi_all : ∀ n : Nat, n < 101 → mulHi 1 (n : Int) = 0 := by decide +kernel
theorem wr_u64_one : ∀ n : Nat, n < 101 → wr .u64 (1 * (n : Int)) = (n : Int) := by decide +kernel
theorem wr_u64 : ∀ n : Nat, n < 101 → wr .u64 (n : Int) = (n : Int) := by decide +kernel
theorem mul78 {n : Nat} (hn : n ≤ 100) : callX F1 ro 78 [.i .u64 1, .i .u64 (n : Int)] h = some (.tup [.i .u64 0, .i .u64 (n : Int)], h, h.length, h.length) := by
  have h86 : callX F1 ro 86 [.i .u64 1, .i .u64 (n : Int)] h = some (.tup [.i .u64 0, .i .u64 (n : Int)], h, h.length, h.length) := by
    refine g86_ok (meansX_ok F1 ro) rfl ?_
    unfold g86
    have e := mulHi_all n (by omega)
    simp only [mulHi] at e
    simp only [fI', e, wr_u64_one n (by omega), tA2]
    exact fin_pure rfl
  refine g78_ok (meansX_ok F1 ro) rfl ?_
  unfold g78
  simp only [mC, cp0 h86, pS, x0, x1, oS, iS, tA2]
  exact fin_pure rfl
theorem len_sl {q : Vm.Loc} {n : Nat} {c : Cap} : evP .e (.len false (.c (.sl q n c))) = some (.i .i64 (n : Int)) := by
  simp only [evP, ev_len, opd, cond_false, mkI_eq]
/-- cuts of bytes -/
theorem cut_full {b n : Nat} : evP .e (.slS 1 (.c (.sl ⟨false, b, 0⟩ n .grow)) none (some (.c (.i .i64 (n : Int)))) (some (.c (.i .i64 (n : Int))))) = some (.sl ⟨false, b, 0⟩ n (.known n)) := by
  have e : ((n : Nat) : Int) = Int.ofNat n := rfl
  have e1 : Nat.ble n n = true := by rw [Nat.ble_eq]; exact Nat.le_refl _
  have e2 : (Nat.blt 0 n || Nat.beq 0 0) = true := by simp
  simp only [evP, ev_slS, opd, e, sl_mx, capLe, sbound, e1, cond_true, e2, Option.map_none, Nat.zero_mul, Nat.add_zero, Nat.sub_zero]
theorem cut_hi {b n k : Nat} (hk : k ≤ n) : evP .e (.slS 1 (.c (.sl ⟨false, b, 0⟩ n (.known n))) none (some (.c (.i .i64 (k : Int)))) none) = some (.sl ⟨false, b, 0⟩ k (.known n)) := by
  have e : ((k : Nat) : Int) = Int.ofNat k := rfl
  have e1 : Nat.ble k n = true := by rw [Nat.ble_eq]; exact hk
  simp only [evP, ev_slS, opd, e, sl_lh, capB, sbound, e1, cond_true, Option.map_none, Option.map_some]
theorem cut_lo {b n k : Nat} (h1 : 1 ≤ k) (hk : k < n) : evP .e (.slS 1 (.c (.sl ⟨false, b, 0⟩ n (.known n))) (some (.c (.i .i64 (k : Int)))) none none) = some (.sl ⟨false, b, k⟩ (n - k) (.known (n - k))) := by
  obtain ⟨q, rfl⟩ : ∃ q, k = q + 1 := ⟨k - 1, by omega⟩
  have e : ((q + 1 : Nat) : Int) = Int.ofNat (q + 1) := rfl
  have e1 : Nat.ble (q + 1) n = true := by rw [Nat.ble_eq]; omega
  have e2 : Nat.blt (q + 1) n = true := by rw [Nat.blt_eq]; exact hk
  simp only [evP, ev_slS, opd, e, sl_lh, capB, sbound, e1, e2, cond_true, Option.map_none, Option.map_some, Nat.zero_add, Nat.mul_one]
/-- zeros, as many as one likes -/
theorem repeat73 {hp : Heap} {b0 n : Nat} {c2 : Cap} {blk0 : ABlk} (h1 : 1 ≤ n) (h2 : n ≤ 100) (hz : lget hp b0 = some (some blk0)) (hg : blk0.g = some (.fz [48])) :
    ∃ H, callX F1 ro 73 [.sl ⟨false, b0, 0⟩ 1 c2, .i .i64 (n : Int)] hp = some (.sl ⟨false, hp.length, 0⟩ n (.known n), H, hp.length, hp.length) ∧ Keep hp H ∧ H.length = hp.length + 1 ∧ HB H hp.length ((List.range n).map (rp 48 n)) := by
  obtain ⟨hp1, e1⟩ : ∃ hp1, hp1 = hp ++ [some (blkOf 5 (jks n))] := ⟨_, rfl⟩
  have hb0 : b0 < hp.length := lget_lt hz
  have hz1 : lget hp1 b0 = some (some blk0) := by rw [e1]; exact lget_ext hz _
  have hl1 : hp1.length = hp.length + 1 := by rw [e1]; simp
  have a0 : HB hp1 hp.length ((List.range n).map (rp 48 0)) := by rw [e1, ← jks_range]; exact HB.new _ _ _
  obtain ⟨hp2, c1, a1, l2, k2⟩ := cpy_first (ro := ro) (l := hp.length) (p := hp.length) (c := .known n) (c2 := c2) h1 (Nat.le_refl _) a0 hz1 hg
  have kp2 : Keep hp hp2 := ⟨by omega, fun i hi => by rw [k2 i (by omega), e1, List.getElem?_append_left hi]⟩
  have key : ∃ r, loopX (fun s : Int × Mm => g73_b3 (meansX F1 ro) ro (n : Int) (n : Int) (.sl ⟨false, hp.length, 0⟩ n (.known n)) s.1 s.2) (1, ⟨hp2, hp.length, hp.length⟩) = some r ∧ ∃ H, r = ⟨H, hp.length, hp.length⟩ ∧ Keep hp H ∧ H.length = hp.length + 1 ∧ HB H hp.length ((List.range n).map (rp 48 n)) := by
    refine loop_exit (n - 1) (fun i s => ∃ (k : Nat) (H : Heap), s = ((k : Int), ⟨H, hp.length, hp.length⟩) ∧ i + 1 ≤ k ∧ k ≤ n ∧ Keep hp H ∧ H.length = hp.length + 1 ∧ HB H hp.length ((List.range n).map (rp 48 k))) _ ?_ ?_ (n - 1) 0 _ (by omega) ⟨1, hp2, rfl, by omega, h1, kp2, by omega, a1⟩
    · rintro i s hi ⟨k, H, rfl, k1, k3, kp, hl, a⟩
      rcases Nat.lt_or_ge k n with hk | hk
      · refine .inl ?_
        obtain ⟨H', c3, a3, l3, k4⟩ := cpy_next (ro := ro) (l := hp.length) (p := hp.length) (c := .known (n - k)) (c2 := .known n) (by omega : 1 ≤ k) hk (Nat.le_refl _) a
        have e3 : mxV false (k : Int) (n : Int) = ((min k n : Nat) : Int) := mxF
        have e4 : wr .i64 ((k : Int) + ((min k (n - k) : Nat) : Int)) = ((k + min k (n - k) : Nat) : Int) := by rw [wr_id' (by omega) (by omega)]; omega
        refine ⟨_, (by simp only [g73_b3, fB, ltT (show (k : Int) < (n : Int) by omega), cT, fI', e3, cut_lo (b := hp.length) (by omega : 1 ≤ k) hk, cut_hi (b := hp.length) (show min k n ≤ n by omega), oS, c3, pS, iS, e4] <;> rfl), k + min k (n - k), H', rfl, by omega, by omega, ⟨by omega, fun j hj => by rw [k4 j (by omega), kp.2 j hj]⟩, by omega, a3⟩
      · obtain rfl : k = n := by omega
        refine .inr ⟨_, (by simp only [g73_b3, fB, ltF (Int.lt_irrefl _), cF] <;> rfl), H, rfl, kp, hl, a⟩
    · rintro s ⟨k, H, rfl, k1, k3, kp, hl, a⟩
      obtain rfl : k = n := by omega
      exact ⟨_, (by simp only [g73_b3, fB, ltF (Int.lt_irrefl _), cF] <;> rfl), H, rfl, kp, hl, a⟩
  obtain ⟨r, f1, H, rfl, kp, hl, a⟩ := key
  refine ⟨H, g73_ok (meansX_ok F1 ro) rfl ?_, kp, hl, a⟩
  unfold g73
  have w1 : wr .u64 1 = 1 := wr_u64 1 (by omega)
  have w2 : wr .i64 (n : Int) = (n : Int) := lt64 (by omega)
  have e0 : evP .e (.len false (.c (.sl ⟨false, b0, 0⟩ 1 c2))) = some (.i .i64 1) := len_sl
  have m1 : stepM ro ⟨hp, hp.length, hp.length⟩ (.mnz 5 (.c (.i .i64 (n : Int)))) = some (.sl ⟨false, hp.length, 0⟩ n .grow, ⟨hp1, hp.length, hp.length⟩) := by
    have e : ((n : Nat) : Int) = Int.ofNat n := rfl
    have e2 : Nat.ble n 281474976710656 = true := by rw [Nat.ble_eq]; omega
    simp only [stepM, stepK, opd, e, st_mnz, e2, cond_true, newB, St.mm, e1]
  simp only [fB, eqI_ne (show (n : Int) ≠ 0 by omega), cF, ltF (show ¬ (n : Int) < 0 by omega), e0, oS, iS, fI', w1, wr_u64 n (by omega), mC, cp0 (mul78 (ro := ro) (h := hp) h2), pS, x0, x1, ltF (show ¬ (0 : Int) < 0 by decide), ltF (show ¬ (9223372036854775807 : Int) < (n : Int) by omega), w2, eqI_ne (show (1 : Int) ≠ 0 by decide), ltF (show ¬ (8192 : Int) < (n : Int) by omega), m1, cut_full, c1, meansX_loop, f1, tA]
  obtain ⟨H', g1, g2, g3⟩ := fin_any (h := hp) (H := H) (w := .sl ⟨false, hp.length, 0⟩ n (.known n)) kp
  have hbel : (AVal.sl ⟨false, hp.length, 0⟩ n (.known n)).bel hp.length = false := by
    have hlt : Nat.blt hp.length hp.length = false := by
      cases h : Nat.blt hp.length hp.length
      · rfl
      · rw [Nat.blt_eq] at h; omega
    simp [AVal.bel, hlt]
  rw [g3 hbel] at g1
  exact g1
end
end Go.Proofs.Ytobmcofkcfifkaa.T

/- The program's word of a number. -/
open Go.Vm
set_option linter.unusedVariables false
namespace Go.Proofs.Ytobmcofkcfifkaa.T
open Go

/-- the digits of a number whose greatest part has the index f -/
def dg (l : List Nat) (i : Nat) : UInt8 := if i ∈ l then 49 else 48
def wd (f : Nat) (l : List Nat) : List UInt8 := (List.range (f - 1)).map fun p => dg l (f - p)
def word (n : Nat) : List UInt8 := if n = 0 then [48] else wd ((zk n).getD 0 0) (zk n)
theorem wd_len (f : Nat) (l : List Nat) : (wd f l).length = f - 1 := by simp [wd]
section
variable {ro : List ABlk} {h : Heap}
/-- bytes as a string -/
theorem bytesA_ok : ∀ l : List UInt8, bytesA (l.map bv) = some l
  | [] => rfl
  | c :: l => by
    have h1 : Nat.blt c.toNat 256 = true := by rw [Nat.blt_eq]; exact c.toNat_lt
    have h2 : UInt8.ofNat c.toNat = c := by simp
    show bytesA (AVal.i .u8 (Int.ofNat c.toNat) :: l.map bv) = _
    simp only [bytesA, h1, cond_true, bytesA_ok l, h2, Option.map_some]
theorem bts_ok {hp : Heap} {b l p : Nat} {c : Cap} {bs : List UInt8} (a : HB hp b (bs.map bv)) : btsM ro ⟨hp, l, p⟩ (.sl ⟨false, b, 0⟩ bs.length c) = some (.s bs) := by
  obtain ⟨blk, h1, h2, h3, h4⟩ := a
  rw [List.length_map] at h3 h4
  have e1 : rdB ro hp ⟨false, b, 0⟩ = some blk := rdB_heap h1 0
  have e2 : Nat.ble (0 + bs.length) blk.n = true := by rw [Nat.ble_eq]; omega
  have e3 : blk.c.row 0 bs.length = bs.map bv := row_row bs.length 0 _ (by simp) fun j hj => by rw [Nat.zero_add]; exact h4 j hj
  simp only [btsM, st_bts, Mm.st, e1, e2, cond_true, e3, bytesA_ok, Option.map_some]
/-- one byte is written -/
theorem HB.st1 {hp : Heap} {b k n l p : Nat} {f g : Nat → AVal} {c : UInt8} (a : HB hp b ((List.range n).map f)) (hk : k < n) (hl : l ≤ b) (hg : ∀ j, j < n → g j = if j = k then bv c else f j) :
    ∃ hp', stepM ro ⟨hp, l, p⟩ (.st 1 (.c (.p (some ⟨false, b, 0 + k⟩))) (.c (bv c))) = some (und, ⟨hp', l, p⟩) ∧ writesM ro [] [(⟨false, b, 0 + k⟩, AVal.cells (bv c))] ⟨hp, l, p⟩ = some ⟨hp', l, p⟩ ∧ HB hp' b ((List.range n).map g) ∧ hp'.length = hp.length ∧ ∀ i, i ≠ b → hp'[i]? = hp[i]? := by
  obtain ⟨blk, h1, h2, h3, h4⟩ := a
  have hlen : ∀ q : Nat → AVal, ((List.range n).map q).length = n := fun q => by simp
  rw [hlen] at h3 h4
  rw [Nat.zero_add]
  have s1 := st_heap (ro := ro) (l := l) (p := p) h1 (show k < blk.n by omega) (v := bv c) rfl rfl rfl
  have s2 := wr_heap (ro := ro) (l := l) (p := p) h1 (show k < blk.n by omega) (v := bv c) rfl rfl
  rw [Nat.min_eq_left hl] at s1 s2
  refine ⟨_, s1, s2, ⟨_, lget_set h1 _, h2, by rw [hlen]; exact h3, fun j hj => ?_⟩, by simp, fun i hi => List.getElem?_set_ne (Ne.symm hi)⟩
  rw [hlen] at hj
  rw [getD_map_range g und hj, hg j hj]
  show (blk.c.set k (bv c)).get j = _
  rw [get_set]
  by_cases e : k = j
  · rw [if_pos e, if_pos e.symm]
  · rw [if_neg e, if_neg (fun h => e h.symm), h4 j hj, getD_map_range f und hj]
theorem zk_first {n : Nat} (hn : n ≤ big) (h0 : 0 < n) : 2 ≤ (zk n).getD 0 0 ∧ (zk n).getD 0 0 ≤ 88 ∧ ∀ i ∈ zk n, i ≤ (zk n).getD 0 0 := by
  have hz := (zk_ok hn).1
  have hne := zk_ne hn h0
  cases hl : zk n with
  | nil => exact absurd hl hne
  | cons f l =>
    rw [hl] at hz
    obtain ⟨h1, h2, h3⟩ := hz
    refine ⟨h1, by show f ≤ 88; omega, fun i hi => ?_⟩
    rcases List.mem_cons.1 hi with rfl | hi
    · exact Nat.le_refl _
    · have := h3.mem hi; show i ≤ f; omega
/-- the digits so far -/
def dj (f : Nat) (l : List Nat) (j p : Nat) : AVal := bv (dg (l.take j) (f - p))
theorem dj_next {f j p : Nat} {l : List Nat} (hz : ∀ i ∈ l, 2 ≤ i ∧ i ≤ f) (hj : j < l.length) (hp : p < f - 1) : dj f l (j + 1) p = if p = f - l.getD j 0 then bv 49 else dj f l j p := by
  have hm : l.getD j 0 ∈ l := by
    have : l.getD j 0 = l[j] := by simp [List.getD, hj]
    rw [this]; exact List.getElem_mem hj
  obtain ⟨h1, h2⟩ := hz _ hm
  unfold dj dg
  rw [take_one hj]
  by_cases e : p = f - l.getD j 0
  · rw [if_pos e, if_pos (by rw [List.mem_append]; exact .inr (List.mem_singleton.2 (by omega)))]
  · rw [if_neg e]
    have : f - p ∈ l.take j ++ [l.getD j 0] ↔ f - p ∈ l.take j := by
      rw [List.mem_append]
      refine ⟨fun h => ?_, .inl⟩
      rcases h with h | h
      · exact h
      · simp only [List.mem_singleton] at h; omega
    simp only [this]
theorem dj_all (f : Nat) (l : List Nat) : (List.range (f - 1)).map (dj f l l.length) = (wd f l).map bv := by
  simp only [wd, List.map_map]
  refine List.map_congr_left fun p _ => ?_
  simp [dj]
theorem dj_zero (f : Nat) (l : List Nat) (n : Nat) : (List.range n).map (dj f l 0) = (List.range n).map (rp 48 n) := by
  refine List.map_congr_left fun p hp => ?_
  have := List.mem_range.1 hp
  simp [dj, dg, rp, this]
/-- the program's word -/
theorem written52 {n : Nat} (hn : n ≤ big) : callX F1 ro 52 [.i .i64 (n : Int)] h = some (.s (word n), h, h.length, h.length) := by
  refine g52_ok (meansX_ok F1 ro) rfl ?_
  unfold g52 word
  rcases Nat.eq_zero_or_pos n with rfl | h0
  · have e : eqI ((0 : Nat) : Int) 0 = true := rfl
    simp only [fB, e, cT, tA, if_true]
    exact fin_pure rfl
  rw [if_neg (by omega)]
  obtain ⟨v, H, c1, kp, hv⟩ := parts60 (ro := ro) (h := h) hn
  obtain ⟨f1, f2, f3⟩ := zk_first hn h0
  have hlen := zk_len hn
  have hpos : 0 < (zk n).length := List.length_pos_iff.2 (zk_ne hn h0)
  obtain ⟨f, hf⟩ : ∃ f, f = (zk n).getD 0 0 := ⟨_, rfl⟩
  rw [← hf] at f1 f2 f3 ⊢
  obtain ⟨p0, g1, g2, -⟩ := at_row (m := ⟨H, h.length, h.length⟩) rfl hv (show 0 < (nts (zk n)).length by rw [nts_len]; exact hpos)
  rw [nts_get hpos, ← hf] at g2
  have e0 : ((0 : Nat) : Int) = 0 := rfl
  rw [e0] at g1
  have e1 : wr .i64 ((f : Int) - 2) = ((f - 2 : Nat) : Int) := by rw [wr_id' (by omega) (by omega)]; omega
  have e2 : wr .i64 (((f - 2 : Nat) : Int) + 1) = ((f - 1 : Nat) : Int) := by rw [wr_id' (by omega) (by omega)]; omega
  -- the byte that is repeated
  have m1 : stepM ro ⟨H, h.length, h.length⟩ (.bsl 5 1 [(AVal.i IntKind.u8 0)] 1 [((0, 1), .c (.i .u8 48))]) = some (.sl ⟨false, H.length, 0⟩ 1 (.known 1), ⟨H ++ [some (blkOf 5 [.i .u8 48])], h.length, h.length⟩) := rfl
  obtain ⟨H1, hH1⟩ : ∃ H1, H1 = (H ++ [some (blkOf 5 [.i .u8 48])]).set H.length (some { e := 5, n := 0, c := .e, g := some (.fz [48]) }) := ⟨_, rfl⟩
  have hlH1 : H1.length = H.length + 1 := by rw [hH1]; simp
  have m2 : stepM ro ⟨H ++ [some (blkOf 5 [.i .u8 48])], h.length, h.length⟩ (.mks (.c (.sl ⟨false, H.length, 0⟩ 1 (.known 1)))) = some (.sl ⟨false, H.length, 0⟩ 1 (.known 1), ⟨H1, h.length, h.length⟩) := by
    have b1 : lget (H ++ [some (blkOf 5 [.i .u8 48])]) H.length = some (some (blkOf 5 [.i .u8 48])) := lget_last _ _
    have b2 : (blkOf 5 [.i .u8 48]).g = none := rfl
    have b3 : bytesA ((blkOf 5 [.i .u8 48]).c.row 0 1) = some [48] := by decide +kernel
    have b4 : (Nat.blt 0 1 && Nat.ble 1 (blkOf 5 [.i .u8 48]).n) = true := rfl
    simp only [stepM, stepK, opd, st_mks, b1, b2, b3, b4, cond_true, lset_eq, St.mm, Nat.min_eq_left kp.1, hH1]
    rfl
  have hz : lget H1 H.length = some (some { e := 5, n := 0, c := .e, g := some (.fz [48]) }) := by rw [hH1]; exact lget_set (lget_last _ _) _
  have kp1 : Keep h H1 := ⟨by have := kp.1; omega, fun i hi => by
    have := kp.1
    rw [hH1, List.getElem?_set_ne (by omega), List.getElem?_append_left (by omega), kp.2 i hi]⟩
  have hv1 : IsRow ro H1 v (nts (zk n)) := by
    refine row_by hv ⟨by omega, fun i hi => ?_⟩
    rw [hH1, List.getElem?_set_ne (by omega), List.getElem?_append_left hi]
  obtain ⟨H2, c2, kp2, l2, a2⟩ := repeat73 (ro := ro) (hp := H1) (b0 := H.length) (n := f - 1) (c2 := .known 1) (by omega) (by omega) hz rfl
  have kp3 := kp1.trans kp2
  have hv2 := row_by hv1 kp2
  rw [← dj_zero f (zk n)] at a2
  have hbl : h.length ≤ H1.length := kp1.1
  have hmem : ∀ i ∈ zk n, 2 ≤ i ∧ i ≤ f := fun i hi => ⟨((zk_ok hn).1.mem hi).1, f3 i hi⟩
  have key : ∃ r, loopX (fun s : Int × Mm => g52_b0 (meansX F1 ro) ro (f : Int) (.sl ⟨false, H1.length, 0⟩ (f - 1) (.known (f - 1))) v ((zk n).length : Int) s.1 s.2) (0, ⟨H2, h.length, h.length⟩) = some r ∧ ∃ K, r = ⟨K, h.length, h.length⟩ ∧ Keep h K ∧ HB K H1.length ((List.range (f - 1)).map (dj f (zk n) (zk n).length)) := by
    refine loop_gen (zk n).length (fun j s => ∃ K, s = ((j : Int), ⟨K, h.length, h.length⟩) ∧ Keep H1 K ∧ HB K H1.length ((List.range (f - 1)).map (dj f (zk n) j))) _ ?_ ?_ (zk n).length 0 _ (by omega) ⟨H2, rfl, kp2, a2⟩
    · rintro j s hj ⟨K, rfl, kq, a⟩
      obtain ⟨p, q1, q2, -⟩ := at_row (m := ⟨K, h.length, h.length⟩) rfl (row_by hv1 kq) (show j < (nts (zk n)).length by rw [nts_len]; exact hj)
      rw [nts_get hj] at q2
      obtain ⟨i1, i2⟩ := hmem _ (zk_mem hj)
      obtain ⟨x, hx⟩ : ∃ x, x = f - (zk n).getD j 0 := ⟨_, rfl⟩
      have e3 : wr .i64 ((f : Int) - (((zk n).getD j 0 : Nat) : Int)) = (x : Int) := by rw [wr_id' (by omega) (by omega)]; omega
      obtain ⟨K', s1, -, a', l', k'⟩ := a.st1 (ro := ro) (l := h.length) (p := h.length) (g := dj f (zk n) (j + 1)) (c := 49) (show x < f - 1 by omega) hbl (fun t ht => by rw [dj_next hmem hj ht, hx])
      have s1' : stepM ro ⟨K, h.length, h.length⟩ (.st 1 (.c (.p (some ⟨false, H1.length, 0 + x⟩))) (.c (.i .u8 49))) = some (und, ⟨K', h.length, h.length⟩) := s1
      refine ⟨_, (by simp only [g52_b0, fB, ltT (show (j : Int) < ((zk n).length : Int) by omega), cT, q1, oS, q2, iS, fI', e3, ixS_eq (show x < f - 1 by omega), s1', pS, wr_next (show j ≤ 1000000 by omega)] <;> rfl), K', rfl, ⟨by have := kq.1; omega, fun i hi => by rw [k' i (by omega), kq.2 i hi]⟩, a'⟩
    · rintro s ⟨K, rfl, kq, a⟩
      exact ⟨_, (by simp only [g52_b0, fB, ltF (Int.lt_irrefl _), cF] <;> rfl), K, rfl, kp1.trans kq, a⟩
  obtain ⟨r, q1, K, rfl, kq, a⟩ := key
  rw [dj_all] at a
  have q3 := bts_ok (ro := ro) (l := h.length) (p := h.length) (c := .known (f - 1)) a
  rw [wd_len] at q3
  simp only [fB, eqI_ne (show (n : Int) ≠ 0 by omega), cF, mC, cM c1 (Nat.le_refl _) (Nat.le_refl _), pS, g1, oS, g2, iS, m1, m2, fI', e1, e2, cM c2 hbl hbl, len_row hv2, nts_len, meansX_loop, q1, q3, sS, tA]
  exact fin_keep kq rfl
end
end Go.Proofs.Ytobmcofkcfifkaa.T

/- Write; words of shifted numbers. -/
open Go.Vm
set_option linter.unusedVariables false
namespace Go.Proofs.Ytobmcofkcfifkaa.T
open Go

section
variable {ro : List ABlk} {h : Heap}
def retS (p : List UInt8 × Int) : AVal := .tup [.s p.1, .i .i64 p.2]
theorem rS0 (p : List UInt8 × Int) : evP .e (.ext 0 (.c (retS p))) = some (.s p.1) := x0 _ _
theorem rS1 (p : List UInt8 × Int) : evP .e (.ext 1 (.c (retS p))) = some (.i .i64 p.2) := x1 _ _ _
def writeV (n : Int) : List UInt8 × Int := if inR n then (word n.toNat, 0) else ([], 4)
theorem writeV_ok {n : Nat} (hn : n ≤ big) : writeV (n : Int) = (word n, 0) := by
  unfold writeV; rw [if_pos (nat_inR hn), Int.toNat_natCast]
theorem write19 {n : Int} : callX F1 ro 19 [.i .i64 n] h = some (retS (writeV n), h, h.length, h.length) := by
  refine g19_ok (meansX_ok F1 ro) rfl ?_
  obtain ⟨v, H, s1, s2, kp⟩ := one51 (ro := ro) (h := h) (x := n) (Nat.le_refl _) (Nat.le_refl _)
  unfold g19
  simp only [s1, pS, mC, s2, bS, fB]
  unfold writeV
  by_cases hr : inR n
  rotate_left
  · rw [dF hr, if_neg hr]
    simp only [nF, cT, tA2]
    exact fin_keep kp rfl
  rw [dT hr, if_pos hr]
  simp only [nT, cF]
  obtain ⟨k, rfl, hk⟩ := inR_nat hr
  simp only [cp (written52 (ro := ro) (h := H) hk) kp.1 kp.1, pS, sS, tA2, Int.toNat_natCast]
  exact fin_keep kp rfl
theorem eqL_dec (a b : List UInt8) : eqL a b = decide (a = b) := by
  by_cases e : a = b
  · rw [decide_eq_true e]; exact (eqL_iff a b).2 e
  · rw [decide_eq_false e]
    cases h : eqL a b
    · rfl
    · exact absurd ((eqL_iff a b).1 h) e
theorem str_add (a b : List UInt8) (h : a.length + b.length ≤ 1099511627776) : evP .e (.sbin BinOp.add (.c (.s a)) (.c (.s b))) = some (.s (a ++ b)) := by
  have : Nat.ble (a.length + b.length) 1099511627776 = true := by rw [Nat.ble_eq]; exact h
  simp only [evP, ev_sbin, opd, sOp, this, cond_true]
end
/- shifted lists -/
theorem Zk.up (a : Nat) : ∀ {l : List Nat} {t : Nat}, Zk t l → Zk (t + a) (l.map (· + a))
  | [], _, _ => trivial
  | i :: l, t, ⟨h1, h2, h3⟩ => by
    have := Zk.up a h3
    rw [show i - 1 + a = i + a - 1 by omega] at this
    refine ⟨?_, ?_, this⟩
    · show 2 ≤ i + a; omega
    · show i + a < t + a; omega
theorem sm_up (a : Nat) : ∀ l : List Nat, sm (l.map (· + a)) = su a l
  | [] => rfl
  | i :: l => by show fb (i + a) + sm _ = fb (i + a) + su a l; rw [sm_up a l]
theorem zk_up {x a : Nat} (hx : x ≤ big) (hy : su a (zk x) ≤ big) : zk (su a (zk x)) = (zk x).map (· + a) := by
  obtain ⟨h1, h2⟩ := zk_ok hx
  have h3 := gz_uniq (88 + a) (l := (zk x).map (· + a)) (by have := h1.up a; rw [show 88 + a + 1 = 89 + a by omega]; exact this)
  rw [sm_up] at h3
  have hbig : big = 1152921504606846976 := rfl
  rw [gz_big (t := 88) (by rw [fb89]; omega) (by omega)] at h3
  exact h3
theorem word_up {x a : Nat} (hx : x ≤ big) (h0 : 0 < x) (hy : su a (zk x) ≤ big) : word (su a (zk x)) = word x ++ List.replicate a 48 := by
  have hz := zk_up hx hy
  obtain ⟨f1, f2, f3⟩ := zk_first hx h0
  have hz2 := (zk_ok hx).1
  have hpos : 0 < su a (zk x) := by
    rcases Nat.eq_zero_or_pos (su a (zk x)) with h | h
    · rw [h, show zk 0 = [] from gz_zero 88] at hz
      have := zk_ne hx h0
      cases hq : zk x with
      | nil => exact absurd hq this
      | cons i l => rw [hq] at hz; cases hz
    · exact h
  unfold word
  rw [if_neg (by omega), if_neg (by omega), hz]
  have hne := zk_ne hx h0
  have e0 : ((zk x).map (· + a)).getD 0 0 = (zk x).getD 0 0 + a := by
    cases hq : zk x with
    | nil => exact absurd hq hne
    | cons i l => rfl
  rw [e0]
  generalize (zk x).getD 0 0 = f at *
  refine List.ext_getElem? fun p => ?_
  have l1 : (wd (f + a) ((zk x).map (· + a))).length = f - 1 + a := by rw [wd_len]; omega
  have l2 : (wd f (zk x)).length = f - 1 := wd_len _ _
  rcases Nat.lt_or_ge p (f - 1 + a) with hp | hp
  rotate_left
  · rw [List.getElem?_eq_none (by omega), List.getElem?_eq_none (by rw [List.length_append, l2, List.length_replicate]; omega)]
  have hL : (wd (f + a) ((zk x).map (· + a)))[p]? = some (dg ((zk x).map (· + a)) (f + a - p)) := by
    unfold wd
    rw [List.getElem?_map, List.getElem?_range (by omega)]; rfl
  rw [hL]
  rcases Nat.lt_or_ge p (f - 1) with hq | hq
  · rw [List.getElem?_append_left (by omega)]
    have hR : (wd f (zk x))[p]? = some (dg (zk x) (f - p)) := by
      unfold wd
      rw [List.getElem?_map, List.getElem?_range (by omega)]; rfl
    rw [hR]
    have : f + a - p ∈ (zk x).map (· + a) ↔ f - p ∈ zk x := by
      rw [List.mem_map]
      refine ⟨fun ⟨i, h1, h2⟩ => ?_, fun h => ⟨f - p, h, by omega⟩⟩
      have : f - p = i := by omega
      rw [this]; exact h1
    simp only [dg, this]
  · rw [List.getElem?_append_right (by omega), l2, List.getElem?_replicate, if_pos (by omega)]
    have : ¬ f + a - p ∈ (zk x).map (· + a) := fun h => by
      obtain ⟨i, h1, h2⟩ := List.mem_map.1 h
      have := (hz2.mem h1).1
      omega
    simp only [dg, if_neg this]
end Go.Proofs.Ytobmcofkcfifkaa.T

/- The law of shifts. -/
open Go.Vm
set_option linter.unusedVariables false
namespace Go.Proofs.Ytobmcofkcfifkaa.T
open Go

theorem word_len {n : Nat} (hn : n ≤ big) : (word n).length ≤ 87 := by
  unfold word
  rcases Nat.eq_zero_or_pos n with h | h
  · rw [if_pos h]; decide
  · rw [if_neg (by omega), wd_len]
    have := (zk_first hn h).2.1
    omega
section
variable {ro : List ABlk} {h : Heap}
end
end Go.Proofs.Ytobmcofkcfifkaa.T

/- The law of the array. -/
open Go.Vm
set_option linter.unusedVariables false
namespace Go.Proofs.Ytobmcofkcfifkaa.T
open Go

/-- a list lower by b, all of it from b + 2 on -/
theorem low_list {b : Nat} : ∀ {l : List Nat} {t : Nat}, Zk t l → (∀ i ∈ l, b + 2 ≤ i) → Zk t (l.map (· - b)) ∧ (l.map (· - b)).map (· + b) = l
  | [], _, _, _ => ⟨trivial, rfl⟩
  | i :: l, t, ⟨h1, h2, h3⟩, hm => by
    have hi := hm i (by simp)
    have key : Zk (i - b - 1) (l.map (· - b)) ∧ (l.map (· - b)).map (· + b) = l := by
      have h4 := low_list (b := b) h3 fun x hx => hm x (by simp [hx])
      refine ⟨?_, h4.2⟩
      cases l with
      | nil => trivial
      | cons x l =>
        obtain ⟨g1, g2, g3⟩ := h4.1
        obtain ⟨k1, k2, k3⟩ := h3
        have := hm x (by simp)
        refine ⟨g1, ?_, g3⟩
        show x - b < i - b - 1
        omega
    refine ⟨⟨?_, ?_, key.1⟩, ?_⟩
    · show 2 ≤ i - b; omega
    · show i - b < t; omega
    · show (i - b + b) :: (l.map (· - b)).map (· + b) = i :: l
      rw [key.2, show i - b + b = i by omega]
theorem lp_of {n : Nat} {l : List Nat} {x : Nat} (h : zk n = l ++ [x]) : lp n = x := by
  unfold lp
  rw [h]
  simp [List.getD]
section
variable {ro : List ABlk} {h : Heap}
end
end Go.Proofs.Ytobmcofkcfifkaa.T

/- Strings, rune by rune; is it a word? -/
open Go.Vm
set_option linter.unusedVariables false
namespace Go.Proofs.Ytobmcofkcfifkaa.T
open Go

section
variable {ro : List ABlk} {h : Heap}
/- words -/
def okD (s : List UInt8) (i : Nat) : Prop := (s.getD i 0 = 48 ∨ s.getD i 0 = 49) ∧ ¬ (s.getD i 0 = 49 ∧ 0 < i ∧ s.getD (i - 1) 0 = 49)
instance (s : List UInt8) (i : Nat) : Decidable (okD s i) := inferInstanceAs (Decidable (_ ∧ _))
def isW (s : List UInt8) : Prop := (∀ i, i < s.length → okD s i) ∧ (s = [48] ∨ s.take 1 = [49])
instance (s : List UInt8) : Decidable (isW s) := inferInstanceAs (Decidable (_ ∧ _))
theorem u8_ne {a b : UInt8} (h : a ≠ b) : (a.toNat : Int) ≠ (b.toNat : Int) := fun e => h (UInt8.toNat_inj.1 (by omega))
end
end Go.Proofs.Ytobmcofkcfifkaa.T

/- Digits: their sums, by the program and by the reference. -/
open Go.Vm
set_option linter.unusedVariables false
namespace Go.Proofs.Ytobmcofkcfifkaa.T
open Go

/- digits -/
def isD (s : List UInt8) : Prop := ∀ i, i < s.length → 48 ≤ (s.getD i 0).toNat ∧ (s.getD i 0).toNat ≤ 57
instance (s : List UInt8) : Decidable (isD s) := inferInstanceAs (Decidable (∀ i, i < s.length → _))
section
variable {ro : List ABlk} {h : Heap}
theorem len_s (l : List UInt8) : evP .e (.len true (.c (.s l))) = some (.i .i64 (l.length : Int)) := by simp only [evP, ev_len, opd, cond_true, mkI_eq]
theorem ix_s {s : List UInt8} {i : Nat} (hi : i < s.length) : evP .e (.ixStr (.c (.s s)) (.c (.i .i64 (i : Int)))) = some (.i .u8 ((s.getD i 0).toNat : Int)) := by
  have e : ((i : Nat) : Int) = Int.ofNat i := rfl
  have e2 : lget s i = some (s.getD i 0) := by rw [lget_eq, List.getElem?_eq_getElem hi]; simp [List.getD, hi]
  simp only [evP, ev_ixStr, opd, e, e2, Option.map_some, mkI_eq]
theorem str_ne (a b : List UInt8) : evP .e (.sbin BinOp.neq (.c (.s a)) (.c (.s b))) = some (.b (!decide (a = b))) := by
  simp only [evP, ev_sbin, opd, sOp, eqL_dec]
end
end Go.Proofs.Ytobmcofkcfifkaa.T

/- Words, Read and Tidy, by the program and by the reference; their laws. -/
open Go.Vm
set_option linter.unusedVariables false
namespace Go.Proofs.Ytobmcofkcfifkaa.T
open Go

section
variable {ro : List ABlk} {h : Heap}
/- Read -/
/- Tidy -/
end
end Go.Proofs.Ytobmcofkcfifkaa.T

/- Words and their numbers: Zeckendorf's theorem. -/
open Go.Vm
set_option linter.unusedVariables false
namespace Go.Proofs.Ytobmcofkcfifkaa.T
open Go

end Go.Proofs.Ytobmcofkcfifkaa.T

/- The law of Zeckendorf. -/
open Go.Vm
set_option linter.unusedVariables false
namespace Go.Proofs.Ytobmcofkcfifkaa.T
open Go

section
variable {ro : List ABlk} {h : Heap}
end
end Go.Proofs.Ytobmcofkcfifkaa.T

/- The law of tidied digits. -/
open Go.Vm
set_option linter.unusedVariables false
namespace Go.Proofs.Ytobmcofkcfifkaa.T
open Go

section
variable {ro : List ABlk} {h : Heap}
end
end Go.Proofs.Ytobmcofkcfifkaa.T

/- Wythoff's pairs. -/
open Go.Vm
set_option linter.unusedVariables false
namespace Go.Proofs.Ytobmcofkcfifkaa.T
open Go

theorem fb97 : fb 97 = 83621143489848422977 := by decide +kernel
theorem fb98 : fb 98 = 135301852344706746049 := by decide +kernel
theorem fb99 : fb 99 = 218922995834555169026 := by decide +kernel
theorem fb100 : fb 100 = 354224848179261915075 := by decide +kernel
/-- the parts one lower -/
def X (n : Nat) : Nat := sd (zk n)
theorem S_eq {n : Nat} (hn : n ≤ big) : su 1 (zk n) = n + X n := by
  obtain ⟨h1, h2⟩ := zk_ok hn
  have := su_sd h1 1
  have e1 : fb 1 = 1 := rfl
  have e2 : fb (1 + 1) = 1 := rfl
  rw [h2, e1, e2] at this
  show _ = n + sd (zk n)
  omega
theorem X_near {n : Nat} (hn : n ≤ big) : -(135301852344706746049 : Int) < (X n : Int) * 354224848179261915075 - (n : Int) * 218922995834555169026 ∧ (X n : Int) * 354224848179261915075 - (n : Int) * 218922995834555169026 < 218922995834555169026 := by
  obtain ⟨h1, h2⟩ := zk_ok hn
  have := sd_near (K := 100) h1 (by omega) (by omega)
  rw [h2, fb98, fb99, fb100] at this
  exact this
theorem X_near' {n : Nat} (hn : n ≤ big) : -(83621143489848422977 : Int) < (X n : Int) * 218922995834555169026 - (n : Int) * 135301852344706746049 ∧ (X n : Int) * 218922995834555169026 - (n : Int) * 135301852344706746049 < 135301852344706746049 := by
  obtain ⟨h1, h2⟩ := zk_ok hn
  have := sd_near (K := 99) h1 (by omega) (by omega)
  rw [h2, fb97, fb98, fb99] at this
  exact this
theorem abs_bd2 (K y : Nat) (hy : 1 ≤ y) : ∀ (l : List Nat) (t : Nat), Zk t l → (∀ i ∈ l, y ≤ i) → y - 1 ≤ t → t ≤ K → sg (fun i => fb (K - i)) l + fb (K - t) ≤ fb (K - (y - 1))
  | [], t, _, _, h1, h2 => by
    show 0 + fb (K - t) ≤ _
    rw [Nat.zero_add]; exact fb_le (by omega)
  | i :: l, t, ⟨i1, i2, i3⟩, hm, h1, h2 => by
    have hi := hm i (by simp)
    have ih := abs_bd2 K y hy l (i - 1) i3 (fun x hx => hm x (by simp [hx])) (by omega) (by omega)
    obtain ⟨k, hk⟩ : ∃ k, K - i = k + 1 := ⟨K - i - 1, by omega⟩
    have k1 : K - (i - 1) = k + 2 := by omega
    have h5 : fb (K - t) ≤ fb k := fb_le (by omega)
    rw [k1, fb_two] at ih
    show fb (K - i) + sg (fun i => fb (K - i)) l + fb (K - t) ≤ fb (K - (y - 1))
    rw [hk]; omega
theorem eL_app (K : Nat) : ∀ l m : List Nat, eL K (l ++ m) = eL K l + eL K m
  | [], m => by simp [eL]
  | i :: l, m => by
    show eK K i + eL K (l ++ m) = eK K i + eL K l + eL K m
    rw [eL_app K l m]; omega
theorem Zk.left : ∀ {l m : List Nat} {t : Nat}, Zk t (l ++ m) → Zk t l
  | [], _, _, _ => trivial
  | i :: l, m, t, ⟨h1, h2, h3⟩ => ⟨h1, h2, Zk.left h3⟩
/-- the sign is that of the least part -/
theorem X_sign {n : Nat} (hn : n ≤ big) (h0 : 0 < n) : (lp n % 2 = 0 → 0 < (X n : Int) * 354224848179261915075 - (n : Int) * 218922995834555169026) ∧ (lp n % 2 = 1 → (X n : Int) * 354224848179261915075 - (n : Int) * 218922995834555169026 < 0) := by
  obtain ⟨h1, h2⟩ := zk_ok hn
  obtain ⟨l1, l2⟩ := lp_bd hn h0
  have hz := h1
  rw [zk_last hn h0] at hz
  have hm : ∀ i ∈ (zk n).take ((zk n).length - 1), lp n + 2 ≤ i := fun i hi => hz.snoc hi
  have he := eL_eq 100 (zk n)
  rw [h2, fb99, fb100] at he
  have he2 : eL 100 (zk n) = eL 100 ((zk n).take ((zk n).length - 1)) + eK 100 (lp n) := by
    conv => lhs; rw [zk_last hn h0, eL_app]
    simp [eL]
  have hb := abs_bd2 100 (lp n + 2) (by omega) _ 89 hz.left hm (by omega) (by omega)
  have hu := eL_up 100 _ 89 hz.left (by omega)
  have hv := eK_val 100 (lp n) (by omega) (by omega)
  have e1 : 100 - (lp n + 2 - 1) = 100 - (lp n + 1) := by omega
  rw [e1] at hb
  have h3 := fb_le (show 100 - (lp n + 1) ≤ 100 - lp n by omega)
  have h4 := fb_pos 10
  have e2 : 100 - 89 = 10 + 1 := rfl
  rw [e2] at hb
  have e3 : (X n : Int) = (sd (zk n) : Int) := rfl
  rw [e3]
  have e4 : ((354224848179261915075 : Nat) : Int) = 354224848179261915075 := rfl
  have e5 : ((218922995834555169026 : Nat) : Int) = 218922995834555169026 := rfl
  rw [e4, e5] at he
  refine ⟨fun hp => ?_, fun hp => ?_⟩
  · rw [if_pos hp] at hv; omega
  · rw [if_neg (by omega)] at hv; omega
theorem X_uniq {n : Nat} (hn : n ≤ big) {k : Int} (h : -(135301852344706746049 : Int) < k * 354224848179261915075 - (n : Int) * 218922995834555169026 ∧ k * 354224848179261915075 - (n : Int) * 218922995834555169026 < 218922995834555169026) : k = (X n : Int) := by
  have := X_near hn
  omega
/-- the smaller one of the pair k -/
def A (k : Nat) : Nat := if k = 0 then 0 else su 1 (zk (k - 1)) + 1
theorem A_eq {k : Nat} (hk : k ≤ big) (h0 : 0 < k) : A k = k + X (k - 1) := by
  unfold A
  rw [if_neg (by omega), S_eq (by omega)]; omega
/-- the pair k: how near -/
theorem A_near {k : Nat} (hk : k ≤ big) (h0 : 0 < k) : 0 < (k : Int) * 354224848179261915075 - (A k : Int) * 218922995834555169026 ∧ (k : Int) * 354224848179261915075 - (A k : Int) * 218922995834555169026 < 218922995834555169026 := by
  have h1 := X_near' (n := k - 1) (by omega)
  rw [A_eq hk h0]
  omega
theorem X_A {k : Nat} (hk : k ≤ big) (h0 : 0 < k) (ha : A k ≤ big) : X (A k) = k ∧ lp (A k) % 2 = 0 ∧ 0 < A k := by
  have h1 := A_near hk h0
  have h2 := X_uniq ha (k := (k : Int)) (by omega)
  have h3 : 0 < A k := by rw [A_eq hk h0]; omega
  refine ⟨by omega, ?_, h3⟩
  have h4 := (X_sign ha h3).2
  rcases Nat.mod_two_eq_zero_or_one (lp (A k)) with h | h
  · exact h
  · have := h4 h; omega
/-- an even one is the smaller one of a pair -/
theorem A_X {n : Nat} (hn : n ≤ big) (h0 : 0 < n) (he : lp n % 2 = 0) : A (X n) = n ∧ 0 < X n ∧ X n ≤ n := by
  have h1 := (X_sign hn h0).1 he
  have h2 := X_near hn
  have hx : 0 < X n := by omega
  have hxn : X n ≤ n := by omega
  have h3 := A_near (k := X n) (by omega) hx
  exact ⟨by omega, hx, hxn⟩
/-- the heap that makes a lost pair with another one -/
def P (n : Nat) : Nat := if n = 0 then 0 else if lp n % 2 = 0 then su 1 (zk n) else X n
theorem P_even {n : Nat} (hn : n ≤ big) (h0 : 0 < n) (he : lp n % 2 = 0) : P n = n + X n := by
  unfold P
  rw [if_neg (by omega), if_pos he, S_eq hn]
theorem P_odd {n : Nat} (h0 : 0 < n) (ho : lp n % 2 = 1) : P n = X n := by
  unfold P
  rw [if_neg (by omega), if_neg (by omega)]
theorem lp_up {n : Nat} (hn : n ≤ big) (h0 : 0 < n) (hs : su 1 (zk n) ≤ big) : lp (su 1 (zk n)) = lp n + 1 ∧ X (su 1 (zk n)) = n := by
  have hz := zk_up hn hs
  have hl := zk_last hn h0
  constructor
  · refine lp_of (l := ((zk n).take ((zk n).length - 1)).map (· + 1)) ?_
    rw [hz]
    conv => lhs; rw [hl]
    rw [List.map_append]; rfl
  · unfold X
    rw [hz]
    have : ∀ l : List Nat, sd (l.map (· + 1)) = sm l := fun l => by
      induction l with
      | nil => rfl
      | cons i l ih =>
        show fb (i + 1 - 1) + sd (l.map (· + 1)) = fb i + sm l
        rw [ih, Nat.add_sub_cancel]
    rw [this, (zk_ok hn).2]
theorem X_odd {n : Nat} (hn : n ≤ big) (h0 : 0 < n) (ho : lp n % 2 = 1) : X n ≤ big ∧ 0 < X n ∧ su 1 (zk (X n)) = n ∧ lp (X n) % 2 = 0 ∧ X n < n := by
  obtain ⟨h1, h2⟩ := zk_ok hn
  obtain ⟨l1, l2⟩ := lp_bd hn h0
  have hz := h1
  rw [zk_last hn h0] at hz
  have hm : ∀ i ∈ zk n, 1 + 2 ≤ i := fun i hi => by
    rw [zk_last hn h0] at hi
    rcases List.mem_append.1 hi with h | h
    · have := hz.snoc h; omega
    · simp only [List.mem_singleton] at h; omega
  obtain ⟨h3, h4⟩ := low_list h1 hm
  have hX : X n = sm ((zk n).map (· - 1)) := by
    unfold X sd
    generalize zk n = l
    induction l with
    | nil => rfl
    | cons i l ih =>
      show fb (i - 1) + sg (fun i => fb (i - 1)) l = fb (i - 1) + sm (l.map (· - 1))
      rw [ih]
  have hzX : zk (X n) = (zk n).map (· - 1) := by rw [hX]; exact zk_uniq h3
  have hs : su 1 (zk (X n)) = n := by rw [hzX, ← sm_up, h4, h2]
  have hle : X n ≤ n := by
    have := (X_sign hn h0).2 ho
    omega
  have hpos : 0 < X n := by
    rcases Nat.eq_zero_or_pos (X n) with h | h
    · rw [h, show zk 0 = [] from gz_zero 88] at hs
      have : su 1 ([] : List Nat) = 0 := rfl
      omega
    · exact h
  have hl := (lp_up (n := X n) (by omega) hpos (by rw [hs]; exact hn)).1
  rw [hs] at hl
  have hlt : X n < n := by
    have := (X_sign hn h0).2 ho
    omega
  exact ⟨by omega, hpos, hs, by omega, hlt⟩
/-- lost pairs are so in either order -/
theorem P_symm {a b : Nat} (ha : a ≤ big) (hb : b ≤ big) (h : P a = b) : P b = a := by
  rcases Nat.eq_zero_or_pos a with rfl | h0
  · have : P 0 = 0 := rfl
    rw [← h, this]; rfl
  rcases Nat.mod_two_eq_zero_or_one (lp a) with he | ho
  · have hP : P a = su 1 (zk a) := by unfold P; rw [if_neg (by omega), if_pos he]
    rw [hP] at h
    obtain ⟨h1, h2⟩ := lp_up ha h0 (by rw [h]; exact hb)
    have hS := S_eq ha
    rw [h] at h1 h2 hS
    rw [P_odd (by omega) (by omega), h2]
  · rw [P_odd h0 ho] at h
    obtain ⟨h1, h2, h3, h4, h5⟩ := X_odd ha h0 ho
    rw [h] at h1 h2 h3 h4
    unfold P
    rw [if_neg (by omega), if_pos h4, h3]
/-- a lost pair and its difference -/
theorem P_diff {a b : Nat} (ha : a ≤ big) (h : P a = b) (hab : a < b) : 0 < a ∧ lp a % 2 = 0 ∧ X a = b - a ∧ A (b - a) = a := by
  rcases Nat.eq_zero_or_pos a with rfl | h0
  · have : P 0 = 0 := rfl
    omega
  rcases Nat.mod_two_eq_zero_or_one (lp a) with he | ho
  · rw [P_even ha h0 he] at h
    have := A_X ha h0 he
    have e : b - a = X a := by omega
    rw [e]
    exact ⟨h0, he, rfl, this.1⟩
  · rw [P_odd h0 ho] at h
    have := (X_odd ha h0 ho).2.2.2.2
    omega
theorem P_pair {k : Nat} (hk : k ≤ big) (ha : A k ≤ big) : P (A k) = A k + k := by
  rcases Nat.eq_zero_or_pos k with rfl | h0
  · rfl
  · obtain ⟨h1, h2, h3⟩ := X_A hk h0 ha
    rw [P_even ha h3 h2, h1]
theorem P_self {a : Nat} (ha : a ≤ big) (h : P a = a) : a = 0 := by
  rcases Nat.eq_zero_or_pos a with h0 | h0
  · exact h0
  rcases Nat.mod_two_eq_zero_or_one (lp a) with he | ho
  · rw [P_even ha h0 he] at h
    have := (A_X ha h0 he).2.1
    omega
  · rw [P_odd h0 ho] at h
    have := (X_odd ha h0 ho).2.2.2.2
    omega
/-- what can be taken of both -/
theorem both_ok {a b : Nat} (ha : a ≤ big) (hab : a < b) (h : b < P a) : A (b - a) < a := by
  have h0 : 0 < a := by
    rcases Nat.eq_zero_or_pos a with rfl | h0
    · have : P 0 = 0 := rfl
      omega
    · exact h0
  rcases Nat.mod_two_eq_zero_or_one (lp a) with he | ho
  · rw [P_even ha h0 he] at h
    have h1 := (X_sign ha h0).1 he
    have h2 := X_near ha
    have hx := (A_X ha h0 he).2.2
    have h3 := A_near (k := b - a) (by omega) (by omega)
    omega
  · rw [P_odd h0 ho] at h
    have := (X_odd ha h0 ho).2.2.2.2
    omega
end Go.Proofs.Ytobmcofkcfifkaa.T

/- Pair, Lost and Move, as the program answers. -/
open Go.Vm
set_option linter.unusedVariables false
namespace Go.Proofs.Ytobmcofkcfifkaa.T
open Go

def sm66 (k : Nat) : Nat := if k = 0 then 0 else min (su 1 (zk (k - 1))) tm + 1
theorem sm66_A {k : Nat} : sm66 k ≤ tm + 1 ∧ (A k ≤ tm → sm66 k = A k) ∧ (sm66 k ≤ big → sm66 k = A k) := by
  unfold sm66 A
  have hbig : big = 1152921504606846976 := rfl
  have htm : tm = 1152921504606846977 := rfl
  split <;> omega
def pt (n : Nat) : Nat := min (P n) tm
section
variable {ro : List ABlk} {h : Heap}
theorem smaller66 {k : Nat} (hk : k ≤ big) : callX F1 ro 66 [.i .i64 (k : Int)] h = some (.i .i64 (sm66 k : Int), h, h.length, h.length) := by
  refine g66_ok (meansX_ok F1 ro) rfl ?_
  unfold g66 sm66
  have hbig : big = 1152921504606846976 := rfl
  have htm : tm = 1152921504606846977 := rfl
  simp only [fB]
  rcases Nat.eq_zero_or_pos k with rfl | h0
  · have e : eqI ((0 : Nat) : Int) 0 = true := rfl
    simp only [e, cT, tA, if_true]
    exact fin_pure rfl
  · have e1 : wr .i64 ((k : Int) - 1) = ((k - 1 : Nat) : Int) := by rw [wr_id' (by omega) (by omega)]; omega
    have e2 : acc 1 (zk (k - 1)) = ((min (su 1 (zk (k - 1))) tm : Nat) : Int) := acc_nat 1 _
    have e3 : wr .i64 (((min (su 1 (zk (k - 1))) tm : Nat) : Int) + 1) = ((min (su 1 (zk (k - 1))) tm + 1 : Nat) : Int) := by rw [wr_id' (by omega) (by omega)]; omega
    simp only [eqI_ne (show (k : Int) ≠ 0 by omega), cF, fI', e1, mC, cp0 (shifted63 (ro := ro) (h := h) (show k - 1 ≤ big by omega) (b := 1) (by omega) (by omega)), pS, iS, e2, e3, tA, if_neg (show ¬ k = 0 by omega)]
    exact fin_pure rfl
theorem partner68 {n : Nat} (hn : n ≤ big) : callX F1 ro 68 [.i .i64 (n : Int)] h = some (.i .i64 (pt n : Int), h, h.length, h.length) := by
  refine g68_ok (meansX_ok F1 ro) rfl ?_
  unfold g68
  have hbig : big = 1152921504606846976 := rfl
  have htm : tm = 1152921504606846977 := rfl
  simp only [fB]
  rcases Nat.eq_zero_or_pos n with rfl | h0
  · have e : eqI ((0 : Nat) : Int) 0 = true := rfl
    simp only [e, cT, tA]
    exact fin_pure rfl
  obtain ⟨l1, l2⟩ := lp_bd hn h0
  have e1 : wr .i64 ((lp n : Int) - 2) = ((lp n - 2 : Nat) : Int) := by rw [wr_id' (by omega) (by omega)]; omega
  have e2 : Int.tmod ((lp n - 2 : Nat) : Int) 2 = (((lp n - 2) % 2 : Nat) : Int) := rfl
  simp only [eqI_ne (show (n : Int) ≠ 0 by omega), cF, mC, cp0 (least72 (ro := ro) (h := h) hn h0), pS, iS, fI', e1, e2]
  rcases Nat.mod_two_eq_zero_or_one (lp n) with he | ho
  · have e3 : ((lp n - 2) % 2 : Nat) = 0 := by omega
    have e4 : acc 1 (zk n) = ((min (su 1 (zk n)) tm : Nat) : Int) := acc_nat 1 _
    have e5 : pt n = min (su 1 (zk n)) tm := by unfold pt P; rw [if_neg (by omega), if_pos he]
    have e6 : eqI ((0 : Nat) : Int) 0 = true := rfl
    rw [e3]
    simp only [e6, cT, cp0 (shifted63 (ro := ro) (h := h) hn (b := 1) (by omega) (by omega)), pS, iS, e4, e5, tA]
    exact fin_pure rfl
  · have e3 : ((lp n - 2) % 2 : Nat) = 1 := by omega
    have e4 : acc (-1) (zk n) = (X n : Int) := by
      have := (acc_neg hn (b := 1) (by omega) (by omega)).1
      have hs : ∀ l : List Nat, (∀ i ∈ l, 2 ≤ i) → si (-((1 : Nat) : Int)) l = (sd l : Int) := fun l hl => by
        induction l with
        | nil => rfl
        | cons i l ih =>
          have := hl i (by simp)
          show fI ((i : Int) + -((1 : Nat) : Int)) + si (-((1 : Nat) : Int)) l = ((fb (i - 1) + sd l : Nat) : Int)
          rw [ih fun x hx => hl x (by simp [hx]), show (i : Int) + -((1 : Nat) : Int) = ((i - 1 : Nat) : Int) by omega, fI_nat]; omega
      rw [hs (zk n) fun i hi => ((zk_ok hn).1.mem hi).1] at this
      exact this
    have e5 : pt n = X n := by
      unfold pt
      rw [P_odd h0 ho, Nat.min_eq_left]
      have := (X_odd hn h0 ho).1
      omega
    have e6 : eqI ((1 : Nat) : Int) 0 = false := rfl
    rw [e3]
    simp only [e6, cF, cp0 (shifted63 (ro := ro) (h := h) hn (b := -1) (by omega) (by omega)), pS, iS, e4, e5, tA]
    exact fin_pure rfl
theorem pt_eq {a b : Nat} (hb : b ≤ big) : ((pt a : Int) = (b : Int) ↔ P a = b) ∧ ((pt a : Int) < (b : Int) ↔ P a < b) := by
  have hbig : big = 1152921504606846976 := rfl
  have htm : tm = 1152921504606846977 := rfl
  unfold pt
  omega
def pairV (k : Int) : Int × Int × Int := if k < 0 ∨ 288230376151711744 < k then (0, 0, 4) else ((A k.toNat : Int), (A k.toNat : Int) + k, 0)
theorem A_small {k : Nat} (hk : k ≤ 288230376151711744) : A k ≤ 2 * k := by
  have hbig : big = 1152921504606846976 := rfl
  rcases Nat.eq_zero_or_pos k with rfl | h0
  · exact Nat.le_refl _
  · have := A_near (k := k) (by omega) h0
    omega
theorem pair33 {k : Int} : callX F1 ro 33 [.i .i64 k] h = some (ret3 (pairV k), h, h.length, h.length) := by
  refine g33_ok (meansX_ok F1 ro) rfl ?_
  unfold g33 pairV
  have hbig : big = 1152921504606846976 := rfl
  have htm : tm = 1152921504606846977 := rfl
  simp only [fB]
  rcases Int.lt_or_le k 0 with h1 | h1
  · simp only [ltT h1, cT, oS, if_pos (Or.inl h1 : k < 0 ∨ 288230376151711744 < k), tA3]
    exact fin_pure rfl
  rcases Int.lt_or_le 288230376151711744 k with h2 | h2
  · simp only [ltF (show ¬ k < 0 by omega), ltT h2, cF, cT, oS, if_pos (Or.inr h2 : k < 0 ∨ 288230376151711744 < k), tA3]
    exact fin_pure rfl
  obtain ⟨n, rfl⟩ := Int.eq_ofNat_of_zero_le h1
  have hA := A_small (k := n) (by omega)
  have e1 : sm66 n = A n := sm66_A.2.1 (by omega)
  have e2 : wr .i64 ((A n : Int) + (n : Int)) = (A n : Int) + (n : Int) := wr_id' (by omega) (by omega)
  simp only [ltF (show ¬ (n : Int) < 0 by omega), ltF (show ¬ 288230376151711744 < (n : Int) by omega), cF, oS, if_neg (show ¬ ((n : Int) < 0 ∨ 288230376151711744 < (n : Int)) by omega), mC, cp0 (smaller66 (ro := ro) (h := h) (show n ≤ big by omega)), e1, pS, iS, fI', e2, tA3, Int.toNat_natCast]
  exact fin_pure rfl
def retB (p : Bool × Int) : AVal := .tup [.b p.1, .i .i64 p.2]
theorem rB0 (p : Bool × Int) : evP .e (.ext 0 (.c (retB p))) = some (.b p.1) := x0 _ _
theorem rB1 (p : Bool × Int) : evP .e (.ext 1 (.c (retB p))) = some (.i .i64 p.2) := x1 _ _ _
def lostV (a b : Int) : Bool × Int := if ¬ (inR a ∧ inR b) then (false, 4) else (decide (P a.toNat = b.toNat), 0)
theorem lostV_ok {a b : Nat} (ha : a ≤ big) (hb : b ≤ big) : lostV (a : Int) (b : Int) = (decide (P a = b), 0) := by
  unfold lostV
  rw [if_neg (fun e => e ⟨nat_inR ha, nat_inR hb⟩), Int.toNat_natCast, Int.toNat_natCast]
theorem lost35 {a b : Int} : callX F1 ro 35 [.i .i64 a, .i .i64 b] h = some (retB (lostV a b), h, h.length, h.length) := by
  refine g35_ok (meansX_ok F1 ro) rfl ?_
  obtain ⟨v, H, s1, s2, kp⟩ := two51 (ro := ro) (h := h) (x := a) (y := b) (Nat.le_refl _) (Nat.le_refl _)
  unfold g35
  simp only [s1, pS, mC, s2, bS, fB]
  unfold lostV
  by_cases hr : inR a ∧ inR b
  rotate_left
  · rw [dF hr, if_pos hr]
    simp only [nF, cT, tA2]
    exact fin_keep kp rfl
  rw [dT hr, if_neg (fun e => e hr)]
  obtain ⟨k, rfl, hk⟩ := inR_nat hr.1
  obtain ⟨m, rfl, hm⟩ := inR_nat hr.2
  have e : eqI (pt k : Int) (m : Int) = decide (P k = m) := by
    rw [eqI_eq]
    have := (pt_eq (a := k) hm).1
    by_cases hp : P k = m
    · rw [dT hp, this.2 hp]; simp
    · rw [dF hp]
      have hne : ¬ (pt k : Int) = (m : Int) := fun e => hp (this.1 e)
      simp [hne]
  simp only [nT, cF, cp (partner68 (ro := ro) (h := H) hk) kp.1 kp.1, pS, iS, e, tA2, Int.toNat_natCast]
  exact fin_keep kp rfl
def moveV (a b : Nat) : Int × Int × Int :=
  if P a = b then (0, 0, 10) else if P a < b then (0, (b : Int) - (P a : Int), 0) else
    if 0 < ((min a b : Nat) : Int) - (sm66 (max a b - min a b) : Int) ∧ ((a : Int) - (pt b : Int) < 0 ∨ ((min a b : Nat) : Int) - (sm66 (max a b - min a b) : Int) < (a : Int) - (pt b : Int)) then
      (((min a b : Nat) : Int) - (sm66 (max a b - min a b) : Int), ((min a b : Nat) : Int) - (sm66 (max a b - min a b) : Int), 0) else ((a : Int) - (pt b : Int), 0, 0)
theorem mxT {a c : Nat} : mxV true (a : Int) (c : Int) = ((max a c : Nat) : Int) := by
  unfold mxV
  simp only [if_true]
  split <;> omega
theorem move37 {a b : Nat} (ha : a ≤ big) (hb : b ≤ big) : callX F1 ro 37 [.i .i64 (a : Int), .i .i64 (b : Int)] h = some (ret3 (moveV a b), h, h.length, h.length) := by
  refine g37_ok (meansX_ok F1 ro) rfl ?_
  obtain ⟨v, H, s1, s2, kp⟩ := two51 (ro := ro) (h := h) (x := (a : Int)) (y := (b : Int)) (Nat.le_refl _) (Nat.le_refl _)
  unfold g37
  have hbig : big = 1152921504606846976 := rfl
  have htm : tm = 1152921504606846977 := rfl
  have hpa := cp (partner68 (ro := ro) (h := H) ha) kp.1 kp.1
  have hpb := cp (partner68 (ro := ro) (h := H) hb) kp.1 kp.1
  simp only [s1, pS, mC, s2, bS, fB, dT (show inR (a : Int) ∧ inR (b : Int) from ⟨nat_inR ha, nat_inR hb⟩), nT, cF, hpa, iS]
  unfold moveV
  obtain ⟨q1, q2⟩ := pt_eq (a := a) hb
  have hpt : pt a ≤ tm := Nat.min_le_right _ _
  have hpt2 : pt b ≤ tm := Nat.min_le_right _ _
  by_cases h1 : P a = b
  · have e : (pt a : Int) = (b : Int) := q1.2 h1
    rw [e, if_pos h1]
    simp only [eqI_self, cT, tA3]
    exact fin_keep kp rfl
  rw [eqI_ne (fun e => h1 (q1.1 e)), if_neg h1]
  simp only [cF]
  by_cases h2 : P a < b
  · have e1 : pt a = P a := Nat.min_eq_left (by omega)
    have e2 : wr .i64 ((b : Int) - (pt a : Int)) = (b : Int) - (P a : Int) := by rw [e1]; exact wr_id' (by omega) (by omega)
    rw [ltT (q2.2 h2), if_pos h2]
    simp only [cT, hpa, pS, iS, fI', e2, tA3]
    exact fin_keep kp rfl
  rw [ltF (fun e => h2 (q2.1 e)), if_neg h2]
  have e1 : wr .i64 ((a : Int) - (pt b : Int)) = (a : Int) - (pt b : Int) := wr_id' (by omega) (by omega)
  have e2 : wr .i64 (((max a b : Nat) : Int) - ((min a b : Nat) : Int)) = ((max a b - min a b : Nat) : Int) := by rw [wr_id' (by omega) (by omega)]; omega
  have hs := (sm66_A (k := max a b - min a b)).1
  have e3 : wr .i64 (((min a b : Nat) : Int) - (sm66 (max a b - min a b) : Int)) = ((min a b : Nat) : Int) - (sm66 (max a b - min a b) : Int) := wr_id' (by omega) (by omega)
  simp only [cF, hpb, pS, iS, fI', e1, mxF, mxT, e2, cp (smaller66 (ro := ro) (h := H) (show max a b - min a b ≤ big by omega)) kp.1 kp.1, e3]
  generalize ((min a b : Nat) : Int) - (sm66 (max a b - min a b) : Int) = B
  generalize (a : Int) - (pt b : Int) = O
  by_cases g1 : 0 < B
  · rw [ltT g1]
    by_cases g2 : O < 0
    · rw [ltT g2, if_pos ⟨g1, .inl g2⟩]
      simp only [cT, oS, tA3]
      exact fin_keep kp rfl
    · rw [ltF g2]
      by_cases g3 : B < O
      · rw [ltT g3, if_pos ⟨g1, .inr g3⟩]
        simp only [cT, cF, oS, tA3]
        exact fin_keep kp rfl
      · rw [ltF g3, if_neg (fun e => e.2.elim g2 g3)]
        simp only [cT, cF, oS, tA3]
        exact fin_keep kp rfl
  · rw [ltF g1, if_neg (fun e => g1 e.1)]
    simp only [cF, oS, tA3]
    exact fin_keep kp rfl
/-- what Move answers is a legal move to a lost pair -/
theorem moveV_ok {a b : Nat} (ha : a ≤ big) (hb : b ≤ big) (hne : P a ≠ b) : ∃ u v : Nat, moveV a b = ((u : Int), (v : Int), 0) ∧ u ≤ a ∧ v ≤ b ∧ 0 < u + v ∧ (u = 0 ∨ v = 0 ∨ u = v) ∧ P (a - u) = b - v := by
  have hbig : big = 1152921504606846976 := rfl
  have htm : tm = 1152921504606846977 := rfl
  unfold moveV
  rw [if_neg hne]
  by_cases h2 : P a < b
  · rw [if_pos h2]
    exact ⟨0, b - P a, by simp; omega, by omega, by omega, by omega, .inl rfl, by rw [Nat.sub_zero]; omega⟩
  rw [if_neg h2]
  have h3 : b < P a := by omega
  by_cases hc : 0 < ((min a b : Nat) : Int) - (sm66 (max a b - min a b) : Int) ∧ ((a : Int) - (pt b : Int) < 0 ∨ ((min a b : Nat) : Int) - (sm66 (max a b - min a b) : Int) < (a : Int) - (pt b : Int))
  · rw [if_pos hc]
    have hs : sm66 (max a b - min a b) = A (max a b - min a b) := sm66_A.2.2 (by omega)
    have hp := P_pair (k := max a b - min a b) (by omega) (by rw [← hs]; omega)
    have hps : A (max a b - min a b) + (max a b - min a b) ≤ big → P (A (max a b - min a b) + (max a b - min a b)) = A (max a b - min a b) := fun hle => P_symm (by omega) hle hp
    rw [hs] at hc ⊢
    have hD : A (max a b - min a b) < min a b := by have := hc.1; omega
    generalize A (max a b - min a b) = D at *
    clear hc
    refine ⟨min a b - D, min a b - D, by rw [show ((min a b - D : Nat) : Int) = ((min a b : Nat) : Int) - (D : Int) by omega], by omega, by omega, by omega, .inr (.inr rfl), ?_⟩
    rcases Nat.le_total a b with hab | hab
    · have e1 : a - (min a b - D) = D := by omega
      have e2 : b - (min a b - D) = D + (max a b - min a b) := by omega
      rw [e1, e2]; exact hp
    · have e1 : a - (min a b - D) = D + (max a b - min a b) := by omega
      have e2 : b - (min a b - D) = D := by omega
      rw [e1, e2]; exact hps (by have h5 := Nat.max_eq_left hab; have h6 := Nat.min_eq_right hab; omega)
  · rw [if_neg hc]
    -- the partner of b is below a
    have hb2 : P b < a := by
      rcases Nat.lt_trichotomy (P b) a with h | h | h
      · exact h
      · exact absurd (P_symm hb ha h) (by omega)
      · exfalso
        have hpt : (a : Int) - (pt b : Int) < 0 := by unfold pt; omega
        apply hc
        have key : A (max a b - min a b) < min a b := by
          rcases Nat.lt_trichotomy a b with hab | hab | hab
          · rw [Nat.max_eq_right (by omega), Nat.min_eq_left (by omega)]; exact both_ok ha hab h3
          · subst hab
            have : P 0 = 0 := rfl
            have e : max a a - min a a = 0 := by omega
            rw [e]
            have e2 : A 0 = 0 := rfl
            rw [e2]
            rcases Nat.eq_zero_or_pos a with rfl | h0
            · omega
            · omega
          · rw [Nat.max_eq_left (by omega), Nat.min_eq_right (by omega)]; exact both_ok hb hab h
        have hs : sm66 (max a b - min a b) = A (max a b - min a b) := sm66_A.2.1 (by omega)
        rw [hs]
        exact ⟨by omega, .inl hpt⟩
    have hpt : pt b = P b := Nat.min_eq_left (by omega)
    rw [hpt]
    refine ⟨a - P b, 0, by simp; omega, by omega, by omega, by omega, .inr (.inl rfl), ?_⟩
    rw [show a - (a - P b) = P b by omega, Nat.sub_zero]
    exact P_symm hb (by omega) rfl
/-- from a lost pair no move leads to a lost one -/
theorem no_move {a b u v : Nat} (ha : a ≤ big) (hb : b ≤ big) (h : P a = b) (hu : u ≤ a) (hv : v ≤ b) (h0 : 0 < u + v) (hm : u = 0 ∨ v = 0 ∨ u = v) : P (a - u) ≠ b - v := fun h2 => by
  rcases hm with rfl | rfl | rfl
  · rw [Nat.sub_zero] at h2; omega
  · rw [Nat.sub_zero] at h2
    have h3 := P_symm ha hb h
    have h4 := P_symm (a := a - u) (b := b) (by omega) hb h2
    omega
  · rcases Nat.lt_trichotomy a b with hab | hab | hab
    · have h3 := (P_diff ha h hab).2.2.2
      have h4 := (P_diff (a := a - u) (by omega) h2 (by omega)).2.2.2
      rw [show b - u - (a - u) = b - a by omega, h3] at h4
      omega
    · have := P_self ha (by rw [h, hab])
      omega
    · have h5 := P_symm ha hb h
      have h6 := P_symm (a := a - u) (b := b - u) (by omega) (by omega) h2
      have h3 := (P_diff hb h5 hab).2.2.2
      have h4 := (P_diff (a := b - u) (by omega) h6 (by omega)).2.2.2
      rw [show a - u - (b - u) = a - b by omega, h3] at h4
      omega
end
end Go.Proofs.Ytobmcofkcfifkaa.T

/- Zeros at the end of a word. -/
open Go.Vm
set_option linter.unusedVariables false
namespace Go.Proofs.Ytobmcofkcfifkaa.T
open Go

section
variable {ro : List ABlk} {h : Heap}
/-- zeros at the end: the first place from the end that holds none -/
theorem zeros48 {s : List UInt8} {z : Nat} (hs : s.length ≤ 1000) (hz : z < s.length) (h0 : ∀ i, i < z → s.getD (s.length - 1 - i) 0 = 48) (h1 : s.getD (s.length - 1 - z) 0 ≠ 48) : callX F1 ro 48 [.s s] h = some (.i .i64 (z : Int), h, h.length, h.length) := by
  refine g48_ok (meansX_ok F1 ro) rfl ?_
  unfold g48
  simp only [meansX_loop]
  have e1 : wr .i64 ((s.length : Int) - 1) = ((s.length - 1 : Nat) : Int) := by rw [wr_id' (by omega) (by omega)]; omega
  have hl := loop_run (b := fun t => g48_b0 (meansX F1 ro) ro s ⟨h, h.length, h.length⟩ t) (fun i => (i : Int)) z (r0 := (z : Int)) ?_ ?_
  · have e0 : ((0 : Nat) : Int) = 0 := rfl
    rw [e0] at hl
    rw [hl]
    simp only [oS, tA]
    exact fin_pure rfl
  · have e2 : wr .i64 (((s.length - 1 : Nat) : Int) - (z : Int)) = ((s.length - 1 - z : Nat) : Int) := by rw [wr_id' (by omega) (by omega)]; omega
    have n1 : ((s.getD (s.length - 1 - z) 0).toNat : Int) ≠ 48 := u8_ne h1
    simp only [g48_b0, len_s, oS, iS, fB, ltT (show (z : Int) < (s.length : Int) by omega), cT, fI', e1, e2, ix_s (show s.length - 1 - z < s.length by omega), eqI_ne n1, cF]
  · intro i hi
    have e2 : wr .i64 (((s.length - 1 : Nat) : Int) - (i : Int)) = ((s.length - 1 - i : Nat) : Int) := by rw [wr_id' (by omega) (by omega)]; omega
    have n1 : ((s.getD (s.length - 1 - i) 0).toNat : Int) = 48 := by rw [h0 i hi]; rfl
    simp only [g48_b0, len_s, oS, iS, fB, ltT (show (i : Int) < (s.length : Int) by omega), cT, fI', e1, e2, ix_s (show s.length - 1 - i < s.length by omega), n1, eqI_self, wr_next (show i ≤ 1000000 by omega)]
/-- a word ends with the zeros below its least part -/
theorem word_end {n : Nat} (hn : n ≤ big) (h0 : 0 < n) : lp n - 2 < (word n).length ∧ (∀ i, i < lp n - 2 → (word n).getD ((word n).length - 1 - i) 0 = 48) ∧ (word n).getD ((word n).length - 1 - (lp n - 2)) 0 = 49 := by
  obtain ⟨f1, f2, f3⟩ := zk_first hn h0
  obtain ⟨l1, l2⟩ := lp_bd hn h0
  have hm : lp n ∈ zk n := by rw [zk_last hn h0]; simp
  have hlf := f3 _ hm
  have e : word n = wd ((zk n).getD 0 0) (zk n) := by unfold word; rw [if_neg (by omega)]
  have hz := (zk_ok hn).1
  rw [zk_last hn h0] at hz
  have hlow : ∀ i ∈ zk n, lp n ≤ i := fun i hi => by
    rw [zk_last hn h0] at hi
    rcases List.mem_append.1 hi with h | h
    · have := hz.snoc h; omega
    · simp only [List.mem_singleton] at h; omega
  rw [e, wd_len]
  generalize (zk n).getD 0 0 = f at *
  have hget : ∀ i, i < f - 1 → (wd f (zk n)).getD i 0 = dg (zk n) (f - i) := fun i hi => by
    unfold wd; exact getD_map_range _ _ hi
  refine ⟨by omega, fun i hi => ?_, ?_⟩
  · rw [hget _ (by omega)]
    unfold dg
    rw [if_neg fun hh => by have := hlow _ hh; omega]
  · rw [hget _ (by omega), show f - (f - 1 - 1 - (lp n - 2)) = lp n by omega]
    unfold dg
    rw [if_pos hm]
theorem zerosW {n : Nat} (hn : n ≤ big) (h0 : 0 < n) : callX F1 ro 48 [.s (word n)] h = some (.i .i64 ((lp n - 2 : Nat) : Int), h, h.length, h.length) := by
  obtain ⟨h1, h2, h3⟩ := word_end hn h0
  have := word_len hn
  exact zeros48 (by omega) h1 h2 (by rw [h3]; decide)
theorem u64_small : ∀ n : Nat, n ≤ big → wr .u64 (n : Int) = (n : Int) := fun n hn => by
  have hbig : big = 1152921504606846976 := rfl
  have h : IntKind.u64.wrap (n : Int) = (n : Int) := by
    show (n : Int) % 2 ^ 64 = (n : Int)
    omega
  have e : wr .u64 (n : Int) = IntKind.u64.wrap (n : Int) := wr_eq _ _
  rw [e, h]
end
end Go.Proofs.Ytobmcofkcfifkaa.T

/- Wythoff -/
open Go.Vm
set_option linter.unusedVariables false
namespace Go.Proofs.Ytobmcofkcfifkaa.T
open Go

section
variable {ro : List ABlk} {h : Heap}
theorem mnF {a c : Nat} : mxV false (a : Int) (c : Int) = ((min a c : Nat) : Int) := mxF
theorem wyt1 {n : Nat} (hn : n ≤ 288230376151711744) : A n ≤ 576460752303423488 ∧ A n + n ≤ 864691128455135232 ∧ P (A n) = A n + n ∧ P (A n + n) = A n ∧ (0 < n → word (A n + n) = word (A n) ++ [48] ∧ (lp (A n) - 2) % 2 = 0 ∧ 0 < A n) := by
  have hbig : big = 1152921504606846976 := rfl
  have hA := A_small hn
  have hp := P_pair (k := n) (by omega) (by omega)
  refine ⟨by omega, by omega, hp, P_symm (by omega) (by omega) hp, fun h0 => ?_⟩
  obtain ⟨x1, x2, x3⟩ := X_A (k := n) (by omega) h0 (by omega)
  have hs := S_eq (n := A n) (by omega)
  rw [x1] at hs
  have hw := word_up (x := A n) (a := 1) (by omega) x3 (by omega)
  rw [hs] at hw
  have hl := (lp_bd (n := A n) (by omega) x3).1
  exact ⟨hw, by omega, x3⟩
theorem law13 {k a0 b0 c0 d0 : Int} (hk : 0 ≤ k) (ha : 0 ≤ a0) (hb : 0 ≤ b0) (hc : 0 ≤ c0) (hd : 0 ≤ d0 ∧ d0 ≤ 255) : callX F1 ro 13 [.i .u64 k, .i .u64 a0, .i .u64 b0, .i .u64 c0, .i .u8 d0] h = some (.b true, h, h.length, h.length) := by
  have hbig : big = 1152921504606846976 := rfl
  obtain ⟨k, rfl⟩ := Int.eq_ofNat_of_zero_le hk
  obtain ⟨c, rfl⟩ := Int.eq_ofNat_of_zero_le hc
  obtain ⟨d, rfl⟩ := Int.eq_ofNat_of_zero_le hd.1
  obtain ⟨a1, ha1, ca1⟩ := number45 (ro := ro) ha
  obtain ⟨b1, hb1, cb1⟩ := number45 (ro := ro) hb
  obtain ⟨a2, ha2, ca2⟩ := small47 (ro := ro) ha
  obtain ⟨b2, hb2, cb2⟩ := small47 (ro := ro) hb
  have e1 : Int.tmod (k : Int) 288230376151711745 = ((k % 288230376151711745 : Nat) : Int) := rfl
  obtain ⟨n, hn⟩ : ∃ n, n = k % 288230376151711745 := ⟨_, rfl⟩
  have hn1 : n ≤ 288230376151711744 := by have := Nat.mod_lt k (show 0 < 288230376151711745 by decide); omega
  rw [← hn] at e1
  obtain ⟨w1, w2, w3, w4, w5⟩ := wyt1 hn1
  have hpv : pairV (n : Int) = ((A n : Int), (A n : Int) + (n : Int), 0) := by
    unfold pairV
    rw [if_neg (by omega), Int.toNat_natCast]
  have hsum : (A n : Int) + (n : Int) = ((A n + n : Nat) : Int) := by omega
  have v1 := lostV_ok (a := A n) (b := A n + n) (by omega) (by omega)
  have v2 := lostV_ok (a := A n + n) (b := A n) (by omega) (by omega)
  rw [dT w3] at v1
  rw [dT w4] at v2
  have hal := alv (ro := ro) (H := h) (Nat.le_refl h.length) (Nat.le_refl h.length)
  refine g13_ok (meansX_ok F1 ro) rfl ?_
  unfold g13
  have e3 : wr .i64 ((A n + n : Nat) : Int) = ((A n + n : Nat) : Int) := lt64 (by omega)
  simp only [fI', e1, lt64 (show n ≤ 9223372036854775807 by omega), mC, cp0 (pair33 (ro := ro) (h := h)), hpv, pS, r30, r31, r32, oS, iS, hsum, cp0 (lost35 (ro := ro) (h := h)), v1, v2, rB0, rB1, bS, eqI_self, fB, nT, cF, e3]
  refine (bindO_of (v := .inl ⟨h, h.length, h.length⟩) ?_).trans ?_
  · rcases Nat.eq_zero_or_pos n with h0 | h0
    · rw [ltF (show ¬ (0 : Int) < (n : Int) by omega)]
      rfl
    · obtain ⟨x1, x2, x3⟩ := w5 h0
      have hl := word_len (n := A n) (by omega)
      have e4 : Int.tmod ((lp (A n) - 2 : Nat) : Int) 2 = (((lp (A n) - 2) % 2 : Nat) : Int) := rfl
      rw [x2] at e4
      have e0 : ((0 : Nat) : Int) = 0 := rfl
      simp only [ltT (show (0 : Int) < (n : Int) by omega), cT, cp0 (write19 (ro := ro) (h := h)), writeV_ok (show A n ≤ big by omega), writeV_ok (show A n + n ≤ big by omega), rS0, rS1, pS, oS, sS, iS, eqI_self, nT, cF, cp0 (zerosW (ro := ro) (h := h) (show A n ≤ big by omega) x3), e4, e0, str_add (word (A n)) [48] (by simp; omega), str_ne, x1, decide_true, bS]
  have e5 : Int.tmod (d : Int) 2 = ((d % 2 : Nat) : Int) := rfl
  simp only [pS, iS, cp0 (ca1 h), cp0 (cb1 h), cp0 (ca2 h), cp0 (cb2 h), e5]
  have e6 : Int.tmod (a2 : Int) 200 = ((a2 % 200 : Nat) : Int) := rfl
  have e7 : Int.tmod (b2 : Int) 200 = ((b2 % 200 : Nat) : Int) := rfl
  obtain ⟨a, b, hab, hA, hB⟩ : ∃ a b : Nat, cond (eqI ((d % 2 : Nat) : Int) 0) (some (((a2 % 200 : Nat) : Int), ((b2 % 200 : Nat) : Int), (⟨h, h.length, h.length⟩ : Mm))) (some ((a1 : Int), (b1 : Int), (⟨h, h.length, h.length⟩ : Mm))) = some ((a : Int), (b : Int), (⟨h, h.length, h.length⟩ : Mm)) ∧ a ≤ big ∧ b ≤ big := by
    cases eqI ((d % 2 : Nat) : Int) 0
    · exact ⟨a1, b1, rfl, ha1, hb1⟩
    · exact ⟨a2 % 200, b2 % 200, rfl, by omega, by omega⟩
  rw [e6, e7]
  rw [bindO_of hab]
  have v3 := lostV_ok hA hB
  simp only [cp0 (lost35 (ro := ro) (h := h)), cp0 (move37 (ro := ro) (h := h) hA hB), v3, pS, rB0, rB1, r30, r31, r32, oS, bS, iS, eqI_self, nT, cF]
  have d10 : eqI 10 0 = false := eqI_ne (by decide)
  have d01 : eqI 0 10 = false := eqI_ne (by decide)
  by_cases hp : P a = b
  rotate_left
  · obtain ⟨u, v, hm, hu, hv, huv, hsh, hP⟩ := moveV_ok hA hB hp
    have f1 : wr .i64 ((a : Int) - (u : Int)) = ((a - u : Nat) : Int) := by rw [wr_id' (by omega) (by omega)]; omega
    have f2 : wr .i64 ((b : Int) - (v : Int)) = ((b - v : Nat) : Int) := by rw [wr_id' (by omega) (by omega)]; omega
    have f3 : wr .i64 ((u : Int) + (v : Int)) = ((u + v : Nat) : Int) := by rw [wr_id' (by omega) (by omega)]; omega
    have v4 := lostV_ok (a := a - u) (b := b - v) (by omega) (by omega)
    rw [dT hP] at v4
    rw [hm, dF hp]
    simp only [d01, eqI_self, nT, nF, cT, cF, oS, f1, f2, f3, cp0 (lost35 (ro := ro) (h := h)), v4, pS, rB0, rB1, bS, iS, ltF (show ¬ (u : Int) < 0 by omega), ltF (show ¬ (v : Int) < 0 by omega), ltF (show ¬ (a : Int) < (u : Int) by omega), ltF (show ¬ (b : Int) < (v : Int) by omega), ltT (show (0 : Int) < ((u + v : Nat) : Int) by omega), BEq.refl]
    refine (bindO_of (v := true) ?_).trans ?_
    · rcases hsh with rfl | rfl | rfl
      · have e : eqI ((0 : Nat) : Int) 0 = true := rfl
        rw [e]; rfl
      · have e : eqI ((0 : Nat) : Int) 0 = true := rfl
        rw [e]; cases eqI (u : Int) 0 <;> rfl
      · rw [eqI_self]; cases eqI (u : Int) 0 <;> rfl
    · simp only [cT, hal, pS, bS, oS, tA]
      exact fin_pure rfl
  have hm : moveV a b = (0, 0, 10) := by unfold moveV; rw [if_pos hp]
  rw [hm, dT hp]
  have w0 : wr .i64 (0 + 0) = 0 := wr_id' (by omega) (by omega)
  simp only [eqI_self, nT, nF, cT, cF, oS, d10, BEq.refl, w0]
  by_cases hz : a = 0
  · have hbz : b = 0 := by rw [← hp, hz]; rfl
    subst hz hbz
    have e : eqI ((0 : Nat) : Int) 0 = true := rfl
    simp only [e, cT, oS, hal, pS, bS, tA]
    exact fin_pure rfl
  obtain ⟨mx, hmx⟩ : ∃ mx, mx = max a b := ⟨_, rfl⟩
  have hmx1 : 0 < mx := by omega
  have hmx2 : mx ≤ big := by omega
  have g1 : mxV true (a : Int) (b : Int) = (mx : Int) := by rw [mxT, hmx]
  have g2 : wr .u64 (mx : Int) = (mx : Int) := u64_small mx hmx2
  have g3 : Int.tmod (c : Int) (mx : Int) = ((c % mx : Nat) : Int) := rfl
  have hr := Nat.mod_lt c hmx1
  obtain ⟨r, hrr⟩ : ∃ r, r = c % mx := ⟨_, rfl⟩
  rw [← hrr] at g3 hr
  have g4 : wr .i64 (1 + (r : Int)) = ((r + 1 : Nat) : Int) := by rw [wr_id' (by omega) (by omega)]; omega
  have g5 : Int.tdiv (d : Int) 2 = ((d / 2 : Nat) : Int) := rfl
  have g6 : wr .u8 ((d / 2 : Nat) : Int) = ((d / 2 : Nat) : Int) := wr_u8_id (by omega)
  have g7 : Int.tmod ((d / 2 : Nat) : Int) 3 = ((d / 2 % 3 : Nat) : Int) := rfl
  simp only [eqI_ne (show (a : Int) ≠ 0 by omega), cF, oS, g1, g2, eqI_ne (show (mx : Int) ≠ Int.ofNat 0 by exact fun e => by have e2 : (mx : Int) = 0 := e; omega), nF, chk_true, g3, lt64 (show r ≤ 9223372036854775807 by omega), g4, g5, g6, g7, mnF]
  obtain ⟨u, v, huv, hu, hv, hsh⟩ : ∃ u v : Nat, (cond (eqI ((d / 2 % 3 : Nat) : Int) 0) (some (((min (r + 1) a : Nat) : Int), (0 : Int))) (bindO (cond (eqI ((d / 2 % 3 : Nat) : Int) 1) (some ((0 : Int), ((min (r + 1) b : Nat) : Int))) (some (((min (min (r + 1) a) b : Nat) : Int), ((min (min (r + 1) a) b : Nat) : Int)))) fun x => some (x.1, x.2))) = some ((u : Int), (v : Int)) ∧ u ≤ a ∧ v ≤ b ∧ (u = 0 ∨ v = 0 ∨ u = v) := by
    cases eqI ((d / 2 % 3 : Nat) : Int) 0
    · cases eqI ((d / 2 % 3 : Nat) : Int) 1
      · exact ⟨min (min (r + 1) a) b, min (min (r + 1) a) b, rfl, by omega, by omega, .inr (.inr rfl)⟩
      · exact ⟨0, min (r + 1) b, rfl, by omega, by omega, .inl rfl⟩
    · exact ⟨min (r + 1) a, 0, rfl, by omega, by omega, .inr (.inl rfl)⟩
  rw [bindO_of huv]
  have f1 : wr .i64 ((a : Int) - (u : Int)) = ((a - u : Nat) : Int) := by rw [wr_id' (by omega) (by omega)]; omega
  have f2 : wr .i64 ((b : Int) - (v : Int)) = ((b - v : Nat) : Int) := by rw [wr_id' (by omega) (by omega)]; omega
  have f3 : wr .i64 ((u : Int) + (v : Int)) = ((u + v : Nat) : Int) := by rw [wr_id' (by omega) (by omega)]; omega
  simp only [f1, f2, f3]
  by_cases h0 : u + v = 0
  · rw [h0]
    have e : eqI ((0 : Nat) : Int) 0 = true := rfl
    simp only [e, cT, hal, pS, bS, tA]
    exact fin_pure rfl
  have v4 := lostV_ok (a := a - u) (b := b - v) (by omega) (by omega)
  rw [dF (no_move hA hB hp hu hv (by omega) hsh)] at v4
  simp only [eqI_ne (show ((u + v : Nat) : Int) ≠ 0 by omega), cF, cp0 (lost35 (ro := ro) (h := h)), v4, pS, rB0, rB1, oS, bS, iS, eqI_self, nF, cT, hal, tA]
  exact fin_pure rfl
end
end Go.Proofs.Ytobmcofkcfifkaa.T

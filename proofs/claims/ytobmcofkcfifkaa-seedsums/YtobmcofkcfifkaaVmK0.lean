/- Contracts of the functions: what each of them answers. -/
import Derived.Test.YtobmcofkcfifkaaVmGa0
import Derived.Test.YtobmcofkcfifkaaVmFO
import Derived.Test.YtobmcofkcfifkaaVmGt
import Derived.Test.YtobmcofkcfifkaaVmAE
import Derived.Test.YtobmcofkcfifkaaVmAF
import Derived.Test.YtobmcofkcfifkaaRows
import Derived.WalkKit
import Derived.ProofKit
import Derived.OpenShut
import Derived.Carry
import Derived.Deep.Slices
/- From the small machine to the statement: lists of numbers and lists of such lists, in memory that is only read. -/
open Go.Vm
set_option linter.unusedVariables false
namespace Go.Proofs.Ytobmcofkcfifkaa.T
open Go Go.RowKit Go.Deep Go.WideShapes Go.ChangeShapes

abbrev F1 : Tab := ⟨F, known0 18 (.b true)⟩
theorem own : ownKnob Try.prog.godebug = none := by kernel_rfl

section
variable {H : Type} {enc : TypeId × Value → H} {W : World} {v0 : Value} {d : DataW H} {p : List MemPlace}
end

theorem env_ok {W : World} {ro : List ABlk} {rl : Rl} (h : ∀ (i : Nat) (b : ABlk), ro[i]? = some b → ∃ x, rl[i]? = some x ∧ ∀ j, j < b.n → x.block < W.heap.size ∧ ∃ v', W.cell? (x.add j) = some v' ∧ VR rl [] (b.c.get j) v') :
    (Env.mk Try.prog W.heap.size W ro rl).Ok := ⟨fun i b hb => h i b hb, Nat.le_refl _⟩
/-- what lies in the read-only blocks; more may come behind -/
def RoP (W : World) (ro : List ABlk) (rl : Rl) : Prop := ∀ (i : Nat) (b : ABlk), ro[i]? = some b → ∃ x, rl[i]? = some x ∧ ∀ j, j < b.n → x.block < W.heap.size ∧ ∃ v', W.cell? (x.add j) = some v' ∧ ∀ y, VR (rl ++ y) [] (b.c.get j) v'
theorem RoP.nil (W : World) : RoP W [] [] := fun i b hb => by simp at hb
theorem RoP.snoc {W : World} {ro ro' : List ABlk} {rl rl' : Rl} (hl : ro.length = rl.length) (h : RoP W ro rl)
    (h' : ∀ (i : Nat) (b : ABlk), ro'[i]? = some b → ∃ x, rl'[i]? = some x ∧ ∀ j, j < b.n → x.block < W.heap.size ∧ ∃ v', W.cell? (x.add j) = some v' ∧ ∀ y, VR y [] (b.c.get j) v') : RoP W (ro ++ ro') (rl ++ rl') := by
  intro i b hb
  rcases Nat.lt_or_ge i ro.length with hi | hi
  · rw [List.getElem?_append_left hi] at hb
    obtain ⟨x, h1, h2⟩ := h i b hb
    refine ⟨x, by rw [List.getElem?_append_left (by omega)]; exact h1, fun j hj => ?_⟩
    obtain ⟨h3, v', h4, h5⟩ := h2 j hj
    exact ⟨h3, v', h4, fun y => by rw [List.append_assoc]; exact h5 _⟩
  · rw [List.getElem?_append_right hi] at hb
    obtain ⟨x, h1, h2⟩ := h' _ b hb
    refine ⟨x, by rw [List.getElem?_append_right (by omega), ← hl]; exact h1, fun j hj => ?_⟩
    obtain ⟨h3, v', h4, h5⟩ := h2 j hj
    exact ⟨h3, v', h4, fun y => h5 _⟩

/-- the call of the model: true, and below nothing has turned -/
theorem call_of {W : World} {ro : List ABlk} {rl : Rl} (hE : (Env.mk Try.prog W.heap.size W ro rl).Ok) {K : Nat} {vs : List AVal} {args : Array Value}
    (hv : LR rl [] vs args) {h' : Heap} {lw lp : Nat} (hc : callX F1 ro K vs [] = some (.b true, h', lw, lp)) : Calls Try.prog K args W fun e W' => e = .returned (.bool true) ∧ Below W.heap.size W W' := by
  have hm : (Env.mk Try.prog W.heap.size W ro rl).P.follows .mixedOrders = true := Try.checked.mixed
  have hO : CallOk (Env.mk Try.prog W.heap.size W ro rl) (known0 18 (.b true)) := known0_of hE hm fok alive0 rfl
  obtain ⟨-, h2⟩ := callX_sound hE hm (F := F1) fok hO K vs [] _ _ _ _ hc
  refine Calls.mono (h2 [] W args ⟨Below.refl _ _, rfl, by simp, fun i b r K hl => by simp [Live] at hl, fun i j b b' r K K' hl => by simp [Live] at hl⟩ hv) fun e w' hq => ?_
  obtain ⟨v', rfl, m', hvr, T⟩ := hq
  exact ⟨by rw [hvr.inv_b], T.hr.below⟩
theorem alive_pure {ro : List ABlk} {h : Heap} : callX F1 ro 18 [] h = some (.b true, h, h.length, h.length) := callX_ov rfl
end Go.Proofs.Ytobmcofkcfifkaa.T

/- Blocks that a function makes for itself; loops whose state is known. -/
open Go.Vm
set_option linter.unusedVariables false
namespace Go.Proofs.Ytobmcofkcfifkaa.T
open Go

/-- a block of the heap that holds these values -/
def Holds (hp : Heap) (b : Nat) (vs : List AVal) : Prop := ∃ blk : ABlk, lget hp b = some (some blk) ∧ blk.n = vs.length ∧ ∀ j, j < vs.length → blk.c.get j = vs.getD j und
/-- what was there is still there -/
def Keep (h hp : Heap) : Prop := h.length ≤ hp.length ∧ ∀ i, i < h.length → hp[i]? = h[i]?

section
variable {ro : List ABlk} {h hp hp' : Heap} {b k e n l p : Nat} {vs : List AVal}
theorem Keep.refl (h : Heap) : Keep h h := ⟨Nat.le_refl _, fun _ _ => rfl⟩
theorem Keep.trans {h1 : Heap} (a : Keep h h1) (c : Keep h1 hp) : Keep h hp := ⟨Nat.le_trans a.1 c.1, fun i hi => by rw [c.2 i (by have := a.1; omega), a.2 i hi]⟩
theorem Keep.app (x : Heap) : Keep h (h ++ x) := ⟨by simp, fun i hi => List.getElem?_append_left hi⟩
theorem Keep.set (a : Keep h hp) (hb : h.length ≤ b) (x : Option ABlk) : Keep h (hp.set b x) := ⟨by simpa using a.1, fun i hi => by rw [List.getElem?_set_ne (by omega)]; exact a.2 i hi⟩
theorem Keep.eq (a : Keep h hp) : hp.take h.length = h := by
  refine List.ext_getElem? fun i => ?_
  rcases Nat.lt_or_ge i h.length with hi | hi
  · rw [List.getElem?_take_of_lt hi, a.2 i hi]
  · rw [List.getElem?_eq_none (by simp; omega), List.getElem?_eq_none hi]
theorem fin_keep {v : AVal} (a : Keep h hp) (hv : v.bel h.length = true) : finM h.length v ⟨hp, h.length, h.length⟩ = some (v, h, h.length, h.length) := by
  rw [fin_take hv, a.eq]
theorem Holds.lt (a : Holds hp b vs) : b < hp.length := by obtain ⟨blk, h1, -⟩ := a; exact lget_lt h1
theorem Holds.new (hp : Heap) (e : Nat) (vs : List AVal) : Holds (hp ++ [some (blkOf e vs)]) hp.length vs := ⟨_, lget_last _ _, rfl, fun j _ => get_blk e vs j⟩
theorem Holds.keep (a : Holds hp b vs) (hk : hp'[b]? = hp[b]?) : Holds hp' b vs := by
  obtain ⟨blk, h1, h2⟩ := a
  exact ⟨blk, by rw [lget_of hk]; exact h1, h2⟩
theorem Holds.ext (a : Holds hp b vs) (x : Heap) : Holds (hp ++ x) b vs := a.keep (List.getElem?_append_left a.lt)
theorem Holds.by (a : Holds hp b vs) (k : Keep hp hp') : Holds hp' b vs := a.keep (k.2 b a.lt)
theorem Holds.one (a : Holds hp b vs) (hk : k < vs.length) : ldM ro ⟨hp, l, p⟩ true 1 (.p (some ⟨false, b, 0 + k⟩)) = some (vs.getD k und) := by
  obtain ⟨blk, h1, h2, h3⟩ := a
  rw [ld_heap rfl h1 (by omega), ← h3 k hk, Nat.zero_add]
theorem row_list {t : Tr} : ∀ (vs : List AVal) (i : Nat), (∀ j, j < vs.length → t.get (i + j) = vs.getD j und) → t.row i vs.length = vs
  | [], i, _ => rfl
  | v :: vs, i, h => by
    simp only [List.length_cons, Tr.row]
    rw [show t.get i = v by simpa using h 0 (by simp), row_list vs (i + 1) fun j hj => by have := h (j + 1) (by simp; omega); rw [show i + 1 + j = i + (j + 1) by omega, this]; simp]
theorem Holds.rd (a : Holds hp b vs) (hn : n = vs.length) : Go.Vm.rd ro hp false n ⟨false, b, 0⟩ = some (.agg vs) := by
  subst hn
  obtain ⟨blk, h1, h2, h3⟩ := a
  have hc : Nat.ble (0 + vs.length) blk.n = true := by rw [Nat.ble_eq]; omega
  simp only [Go.Vm.rd, rdB_heap h1, cond_false, hc, cond_true]
  rw [row_list vs 0 fun j hj => by rw [Nat.zero_add]; exact h3 j hj]
theorem Holds.all (a : Holds hp b vs) (hn : n = vs.length) : ldM ro ⟨hp, l, p⟩ false n (.p (some ⟨false, b, 0⟩)) = some (.agg vs) := by
  simp only [ldM, a.rd hn]
theorem spliceGet (t : Tr) : ∀ (vs : List AVal) (i j : Nat), (t.splice i vs).get j = if i ≤ j ∧ j < i + vs.length then vs.getD (j - i) und else t.get j
  | [], i, j => by simp [Tr.splice]; intro h1 h2; omega
  | v :: vs, i, j => by
    rw [Tr.splice, spliceGet (t.set i v) vs (i + 1) j, get_set]
    by_cases e : i = j
    · subst e
      rw [if_neg (by omega), if_pos rfl, if_pos (by simp)]; simp
    · by_cases h2 : i ≤ j ∧ j < i + (v :: vs).length
      · have h3 : i + 1 ≤ j ∧ j < i + 1 + vs.length := by simp at h2; omega
        rw [if_pos h2, if_pos h3]
        obtain ⟨q, rfl⟩ : ∃ q, j = i + 1 + q := ⟨j - (i + 1), by omega⟩
        rw [show i + 1 + q - i = q + 1 by omega, show i + 1 + q - (i + 1) = q by omega]
        simp
      · have h3 : ¬ (i + 1 ≤ j ∧ j < i + 1 + vs.length) := by simp at h2; omega
        rw [if_neg h2, if_neg h3, if_neg e]
theorem wrH_all {blk : ABlk} (hb : lget hp b = some (some blk)) (hn : vs.length ≤ blk.n) (ho : ones vs = true) : wrH hp ⟨false, b, 0⟩ vs = some (hp.set b (some { blk with c := blk.c.splice 0 vs })) := by
  have : (Nat.ble (0 + vs.length) blk.n && ones vs) = true := by rw [ho, Bool.and_true, Nat.ble_eq]; omega
  simp only [wrH, cond_false, hb, this, cond_true, lset_eq]
/-- a block is written whole -/
theorem Holds.st {vs' : List AVal} {v : AVal} (a : Holds hp b vs) (hv : v.cells = vs') (hn : n = vs'.length) (hl : vs'.length = vs.length) (ho : ones vs' = true) (hL : h.length ≤ b) (kp : Keep h hp) :
    ∃ hp', stepM ro ⟨hp, h.length, h.length⟩ (.st n (.c (.p (some ⟨false, b, 0⟩))) (.c v)) = some (und, ⟨hp', h.length, h.length⟩) ∧ Holds hp' b vs' ∧ hp'.length = hp.length ∧ (∀ i, i ≠ b → hp'[i]? = hp[i]?) ∧ Keep h hp' := by
  obtain ⟨blk, h1, h2, h3⟩ := a
  subst hv hn
  have hw := wrH_all h1 (vs := v.cells) (by omega) ho
  refine ⟨hp.set b (some { blk with c := blk.c.splice 0 v.cells }), ?_, ⟨_, lget_set h1 _, by simpa using (h2.trans hl.symm), fun j hj => ?_⟩, by simp, fun i hi => List.getElem?_set_ne (Ne.symm hi), kp.set hL _⟩
  · have hbq : Nat.beq v.cells.length v.cells.length = true := Nat.beq_refl _
    have e : (cond (nonp v.cells) h.length h.length) = h.length := by cases nonp v.cells <;> rfl
    simp only [stepM, stepK, opd, st_st, hbq, cond_true, hw, St.mm, Nat.min_eq_left hL, e]
  · show (blk.c.splice 0 v.cells).get j = _
    rw [spliceGet, if_pos (by omega)]; simp
theorem al_ok (e : Nat) (z : List AVal) : stepM ro ⟨hp, l, p⟩ (.al e z) = some (.p (some ⟨false, hp.length, 0⟩), ⟨hp ++ [some (blkOf e z)], l, p⟩) := rfl
theorem bx_ok (e : Nat) (hn : vs.length = n) : stepM ro ⟨hp, l, p⟩ (.bx e n (.c (.agg vs))) = some (.p (some ⟨false, hp.length, 0⟩), ⟨hp ++ [some (blkOf e vs)], l, p⟩) := by
  subst hn
  have hbq : Nat.beq vs.length vs.length = true := Nat.beq_refl _
  simp only [stepM, stepK, opd, st_bx, AVal.cells, hbq, cond_true, newB, St.mm]
end

theorem ext0 (a : AVal) (l : List AVal) : evP .e (.ext 0 (.c (.tup (a :: l)))) = some a := rfl
theorem ext1 (a b : AVal) (l : List AVal) : evP .e (.ext 1 (.c (.tup (a :: b :: l)))) = some b := rfl
section
variable {ro : List ABlk} {h : Heap} {v : AVal}
theorem row_by {hp : Heap} {z : List Int} (a : IsRow ro h v z) (k : Keep h hp) : IsRow ro hp v z := by
  rw [take_eq k.1 k.2]; exact a.ext _
end

/-- one cell of a block is written -/
theorem Holds.set {ro : List ABlk} {h hp : Heap} {b k : Nat} {vs : List AVal} {v : AVal} (a : Holds hp b vs) (hk : k < vs.length) (hv : v.one = true) (hc : v.cells = [v]) (hn : nonp [v] = true) (hL : h.length ≤ b) (kp : Keep h hp) :
    ∃ hp', stepM ro ⟨hp, h.length, h.length⟩ (.st 1 (.c (.p (some ⟨false, b, 0 + k * 1⟩))) (.c v)) = some (und, ⟨hp', h.length, h.length⟩) ∧ Holds hp' b (vs.set k v) ∧ hp'.length = hp.length ∧ (∀ i, i ≠ b → hp'[i]? = hp[i]?) ∧ Keep h hp' := by
  obtain ⟨blk, h1, h2, h3⟩ := a
  have e : 0 + k * 1 = k := by omega
  refine ⟨hp.set b (some { blk with c := blk.c.set k v }), ?_, ⟨_, lget_set h1 _, by simpa using h2, fun j hj => ?_⟩, by simp, fun i hi => List.getElem?_set_ne (Ne.symm hi), kp.set hL _⟩
  · rw [e, st_heap h1 (by omega) hv hc hn, Nat.min_eq_left hL]
  · show (blk.c.set k v).get j = _
    rw [get_set]
    simp only [List.length_set] at hj
    by_cases e : k = j
    · subst e; simp [List.getD, hj]
    · rw [if_neg e, h3 j hj]
      simp [List.getD, List.getElem?_set_ne e]


/-- a loop whose state is known for each round -/
theorem loop_st {S R : Type} {b : S → Option (S ⊕ R)} (st : Nat → S) (n : Nat) (step : Nat → Option R) (r0 : R) (hout : b (st n) = some (.inr r0)) (hin : ∀ i, i < n → b (st i) = some (match step i with | some r => .inr r | none => .inl (st (i + 1)))) :
    ∀ (k i : Nat), i + k = n → loopX b (st i) = some ((firstS step k i).getD r0)
  | 0, i, hi => by
    simp only [Nat.add_zero] at hi
    subst hi
    exact loopX_out hout
  | k + 1, i, hi => by
    have h1 := hin i (by omega)
    unfold firstS
    cases hs : step i with
    | some r => rw [hs] at h1; exact loopX_out h1
    | none =>
      rw [hs] at h1
      exact loopX_on h1 (loop_st st n step r0 hout hin k (i + 1) (by omega))
/-- one that runs to its end -/
theorem loop_run {S R : Type} {b : S → Option (S ⊕ R)} (st : Nat → S) (n : Nat) {r0 : R} (hout : b (st n) = some (.inr r0)) (hin : ∀ i, i < n → b (st i) = some (.inl (st (i + 1)))) : loopX b (st 0) = some r0 := by
  have := loop_st st n (fun _ => none) r0 hout hin n 0 (by omega)
  rw [firstS_none.2 fun _ _ _ => rfl] at this
  exact this
/-- one that looks for something -/
theorem loop_if {S R : Type} {b : S → Option (S ⊕ R)} (st : Nat → S) (n : Nat) (P : Nat → Prop) [DecidablePred P] (r0 r1 : R) (hout : b (st n) = some (.inr r0)) (hin : ∀ i, i < n → P i → b (st i) = some (.inl (st (i + 1)))) (hno : ∀ i, i < n → ¬ P i → b (st i) = some (.inr r1)) :
    loopX b (st 0) = some (if (∀ i, i < n → P i) then r0 else r1) := by
  have := loop_st st n (fun i => if P i then none else some r1) r0 hout (fun i hi => by
    by_cases hp : P i
    · rw [if_pos hp]; exact hin i hi hp
    · rw [if_neg hp]; exact hno i hi hp) n 0 (by omega)
  rw [this]
  by_cases hall : ∀ i, i < n → P i
  · rw [if_pos hall, firstS_none.2 fun j _ h2 => by rw [if_pos (hall j (by omega))]]; rfl
  · rw [if_neg hall]
    cases hf : firstS (fun i => if P i then none else some r1) n 0 with
    | none =>
      refine absurd (fun i hi => ?_) hall
      have := firstS_none.1 hf i (by omega) (by omega)
      simpa using this
    | some r =>
      obtain ⟨j, -, -, h3, -⟩ := firstS_some hf
      by_cases hc : P j
      · rw [if_pos hc] at h3; cases h3
      · rw [if_neg hc] at h3; cases h3; rfl

theorem dT {p : Prop} [Decidable p] (h : p) : decide p = true := decide_eq_true h
theorem dF {p : Prop} [Decidable p] (h : ¬ p) : decide p = false := decide_eq_false h
theorem cp {F : Tab} {ro : List ABlk} {h : Heap} {f : Nat} {a : List AVal} {v : AVal} {l p : Nat} (e : callX F ro f a h = some (v, h, h.length, h.length)) (hl : l ≤ h.length) (hp : p ≤ h.length) : callM (callX F ro) ⟨h, l, p⟩ f a = some (v, ⟨h, l, p⟩) :=
  callM_pure e hl hp
theorem cp0 {F : Tab} {ro : List ABlk} {h : Heap} {f : Nat} {a : List AVal} {v : AVal} (e : callX F ro f a h = some (v, h, h.length, h.length)) : callM (callX F ro) ⟨h, h.length, h.length⟩ f a = some (v, ⟨h, h.length, h.length⟩) :=
  callM_pure e (Nat.le_refl _) (Nat.le_refl _)


theorem cM {F : Tab} {ro : List ABlk} {h H : Heap} {f : Nat} {a : List AVal} {v : AVal} {l p : Nat} (e : callX F ro f a h = some (v, H, h.length, h.length)) (hl : l ≤ h.length) (hp : p ≤ h.length) : callM (callX F ro) ⟨h, l, p⟩ f a = some (v, ⟨H, l, p⟩) := by
  rw [callM_eq e, Nat.min_eq_left hl, Nat.min_eq_left hp]
theorem fin_any {h H : Heap} {w : AVal} (k : Keep h H) : ∃ H', finM h.length w ⟨H, h.length, h.length⟩ = some (w, H', h.length, h.length) ∧ Keep h H' ∧ (w.bel h.length = false → H' = H) := by
  obtain ⟨y, h1, h2⟩ := fin_gen (h := h) (h' := H) (v := w) (l := h.length) (p := h.length) k.1 k.2
  exact ⟨h ++ y, h1, Keep.app y, h2⟩
/-- a list read in a heap that keeps another one, below that one's length, is in that one -/
theorem row_down {ro : List ABlk} {h H : Heap} {v : AVal} {z : List Int} (k : Keep h H) (a : IsRow ro H v z) (hb : v.bel h.length = true) : IsRow ro h v z := by
  rcases a with ⟨rfl, rfl⟩ | ⟨q, cap, blk, rfl, hb2, hn, hc⟩
  · exact .inl ⟨rfl, rfl⟩
  · refine .inr ⟨q, cap, blk, rfl, ?_, hn, hc⟩
    have h1 : (q.ro || Nat.blt q.b h.length) = true := by simpa [AVal.bel] using hb
    unfold rdB at hb2 ⊢
    cases hr : q.ro
    · rw [hr] at h1 hb2
      have h2 : q.b < h.length := by simpa [Nat.blt_eq] using h1
      simp only [cond_false] at hb2 ⊢
      rw [← lget_of (k.2 q.b h2)]; exact hb2
    · rw [hr] at hb2; exact hb2
theorem fin_rowW {ro : List ABlk} {h H : Heap} {v w : AVal} {z : List Int} (k : Keep h H) (a : IsRow ro H v z) (hw : w.bel h.length = v.bel h.length) :
    ∃ H', finM h.length w ⟨H, h.length, h.length⟩ = some (w, H', h.length, h.length) ∧ Keep h H' ∧ IsRow ro H' v z := by
  obtain ⟨H', h1, h2, h3⟩ := fin_any (w := w) k
  refine ⟨H', h1, h2, ?_⟩
  cases hb : w.bel h.length
  · rw [h3 hb]; exact a
  · exact row_by (row_down k a (by rw [← hw]; exact hb)) h2
theorem loop_gen {S R : Type} {b : S → Option (S ⊕ R)} (n : Nat) (I : Nat → S → Prop) (Q : R → Prop)
    (hin : ∀ i s, i < n → I i s → ∃ s', b s = some (.inl s') ∧ I (i + 1) s') (hout : ∀ s, I n s → ∃ r, b s = some (.inr r) ∧ Q r) :
    ∀ (k i : Nat) (s : S), i + k = n → I i s → ∃ r, loopX b s = some r ∧ Q r
  | 0, i, s, hk, hi => by
    obtain rfl : i = n := by omega
    obtain ⟨r, h1, h2⟩ := hout s hi
    exact ⟨r, loopX_out h1, h2⟩
  | k + 1, i, s, hk, hi => by
    obtain ⟨s1, h1, h2⟩ := hin i s (by omega) hi
    obtain ⟨r, h3, h4⟩ := loop_gen n I Q hin hout k (i + 1) s1 (by omega) h2
    exact ⟨r, loopX_on h1 h3, h4⟩
theorem loop_exit {S R : Type} {b : S → Option (S ⊕ R)} (n : Nat) (I : Nat → S → Prop) (Q : R → Prop)
    (hin : ∀ i s, i < n → I i s → (∃ s', b s = some (.inl s') ∧ I (i + 1) s') ∨ ∃ r, b s = some (.inr r) ∧ Q r) (hout : ∀ s, I n s → ∃ r, b s = some (.inr r) ∧ Q r) :
    ∀ (k i : Nat) (s : S), i + k = n → I i s → ∃ r, loopX b s = some r ∧ Q r
  | 0, i, s, hk, hi => by
    obtain rfl : i = n := by omega
    obtain ⟨r, h1, h2⟩ := hout s hi
    exact ⟨r, loopX_out h1, h2⟩
  | k + 1, i, s, hk, hi => by
    rcases hin i s (by omega) hi with ⟨s1, h1, h2⟩ | ⟨r, h1, h2⟩
    · obtain ⟨r, h3, h4⟩ := loop_exit n I Q hin hout k (i + 1) s1 (by omega) h2
      exact ⟨r, loopX_on h1 h3, h4⟩
    · exact ⟨r, loopX_out h1, h2⟩

end Go.Proofs.Ytobmcofkcfifkaa.T

/- Lists that a function makes by append. -/
open Go.Vm
set_option linter.unusedVariables false
namespace Go.Proofs.Ytobmcofkcfifkaa.T
open Go

/-- a list made by append, in a block from L on -/
def GV (hp : Heap) (L e es : Nat) (v : AVal) (k : Nat) (cs : List AVal) : Prop :=
  (v = .nsl ∧ k = 0 ∧ cs = []) ∨ ∃ b blk, v = .sl ⟨false, b, 0⟩ k .grow ∧ 0 < k ∧ L ≤ b ∧ lget hp b = some (some blk) ∧ blk.e = e ∧ cs.length = k * es ∧ k * es ≤ blk.n ∧ ∀ j, j < k * es → blk.c.get j = cs.getD j und
theorem GV.nil (hp : Heap) (L e es : Nat) : GV hp L e es .nsl 0 [] := .inl ⟨rfl, rfl, rfl⟩
/-- blocks below L, and those above that are kept, hold the list as before -/
theorem GV.by {hp hp' : Heap} {L e es k : Nat} {v : AVal} {cs : List AVal} (g : GV hp L e es v k cs) (kp : Keep hp hp') : GV hp' L e es v k cs := by
  rcases g with h | ⟨b, blk, h1, h2, h3, h4, h5⟩
  · exact .inl h
  · exact .inr ⟨b, blk, h1, h2, h3, by rw [lget_of (kp.2 b (lget_lt h4))]; exact h4, h5⟩
theorem row_row {t : Tr} : ∀ (n i : Nat) (cs : List AVal), cs.length = n → (∀ j, j < n → t.get (i + j) = cs.getD j und) → t.row i n = cs := by
  intro n i cs hl h
  subst hl
  exact row_list cs i h
theorem GV.push {ro : List ABlk} {hp : Heap} {L0 L e es bytes k : Nat} {z : List AVal} {v w : AVal} {cs ws : List AVal} (g : GV hp L e es v k cs) (hL0 : L0 ≤ L) (hL : L ≤ hp.length) (hk : k ≤ 100000) (hb : bytes ≤ 1000) (hes : 0 < es) (hz : z.length = es) (hw : w.cells = ws) (hwl : ws.length = es) (ho : ones ws = true) (hsp : splice z 0 ws = ws) :
    ∃ v2 hp2 v3 hp3, stepM ro ⟨hp, L0, L0⟩ (.bsl e es z 1 [((0, es), .c w)]) = some (v2, ⟨hp2, L0, L0⟩) ∧ stepM ro ⟨hp2, L0, L0⟩ (.app e es bytes z (.c v) (.c v2)) = some (v3, ⟨hp3, L0, L0⟩) ∧
      GV hp3 L e es v3 (k + 1) (cs ++ ws) ∧ hp.length ≤ hp3.length ∧ ∀ i, i < L → hp3[i]? = hp[i]? := by
  have s1 : stepM ro ⟨hp, L0, L0⟩ (.bsl e es z 1 [((0, es), .c w)]) = some (.sl ⟨false, hp.length, 0⟩ 1 (.known 1), ⟨hp ++ [some (blkOf e ws)], L0, L0⟩) := by
    simp [stepM, stepK, st_bsl, rep, fillA, opd, hw, hwl, hz, hsp, newB, St.mm]
  have src : app_src ro (hp ++ [some (blkOf e ws)]) es (.sl ⟨false, hp.length, 0⟩ 1 (.known 1)) = some (ws, 1) := by
    have hbq : rdB ro (hp ++ [some (blkOf e ws)]) ⟨false, hp.length, 0⟩ = some (blkOf e ws) := by simp [rdB, lget_eq]
    have hg : (blkOf e ws).c.row 0 es = ws := row_row es 0 ws hwl fun j hj => by rw [Nat.zero_add, get_blk]
    have hble : Nat.ble (0 + 1 * es) (blkOf e ws).n = true := by rw [Nat.ble_eq]; show 0 + 1 * es ≤ ws.length; omega
    simp only [app_src, hbq, hble, cond_true]
    rw [show 1 * es = es by omega, hg]
  rcases g with ⟨rfl, rfl, rfl⟩ | ⟨b, blk, rfl, hpos, hLb, hbk, hbe, hcl, hbn, hrows⟩
  · refine ⟨_, _, .sl ⟨false, hp.length + 1, 0⟩ 1 .grow, hp ++ [some (blkOf e ws)] ++ [some (blkOf e ws)], s1, ?_, .inr ⟨hp.length + 1, blkOf e ws, rfl, by omega, by omega, ?_, rfl, by simp; omega, by show 1 * es ≤ ws.length; omega, fun j hj => ?_⟩, by simp, fun i hi => ?_⟩
    · have hb1 : Nat.beq 1 0 = false := rfl
      simp only [stepM, stepK, opd, st_app, src, hb1, cond_false, fits_small (by omega : 1 ≤ 1000000) hb, cond_true, newB, St.mm, List.length_append, List.length_cons, List.length_nil, Nat.zero_add]
    · have := lget_last (hp ++ [some (blkOf e ws)]) (some (blkOf e ws))
      rwa [List.length_append, List.length_singleton] at this
    · rw [get_blk]; simp
    · rw [List.append_assoc, List.getElem?_append_left (by omega)]
  · obtain ⟨hp2, e2⟩ : ∃ hp2, hp2 = hp ++ [some (blkOf e ws)] := ⟨_, rfl⟩
    rw [← e2] at src s1
    have hlt : b < hp.length := lget_lt hbk
    have hb2 : lget hp2 b = some (some blk) := by rw [e2]; exact lget_ext hbk _
    have hlen2 : hp2.length = hp.length + 1 := by rw [e2]; simp
    have hrow : blk.c.row 0 (k * es) = cs := row_row (k * es) 0 cs hcl fun j hj => by rw [Nat.zero_add]; exact hrows j hj
    have hke : 0 < k * es := Nat.mul_pos hpos hes
    refine ⟨_, _, .sl ⟨false, hp2.length, 0⟩ (k + 1) .grow, lset none hp2 b ++ [some (blkOf e (cs ++ ws))], s1, ?_, .inr ⟨hp2.length, blkOf e (cs ++ ws), rfl, by omega, by omega, ?_, rfl, ?_, ?_, fun j hj => ?_⟩, ?_, fun i hi => ?_⟩
    · have h1 : (Nat.beq blk.e e && Nat.ble (k * es) blk.n && fits (k + 1) bytes && ones ws) = true := by
        rw [hbe, fits_small (by omega : k + 1 ≤ 1000000) hb]
        simp [ho, Nat.ble_eq]; omega
      have h2 : (!Nat.beq 0 0) = false := rfl
      have h3 : Nat.blt 0 blk.n = true := by rw [Nat.blt_eq]; omega
      have hb10 : Nat.beq 1 0 = false := rfl
      simp only [stepM, stepK, opd, st_app, src, app_grow, hb10, h2, cond_false, Bool.or_false, Bool.false_or, hb2, h1, h3, Bool.and_self, cond_true, St.mm, hrow, Nat.min_eq_left (Nat.le_trans hL0 hLb)]
    · rw [lget_eq, lset_eq, List.getElem?_append_right (by simp)]
      simp
    · rw [List.length_append, hcl, hwl, Nat.add_mul]; omega
    · show (k + 1) * es ≤ (cs ++ ws).length
      rw [List.length_append, hcl, hwl, Nat.add_mul]; omega
    · rw [get_blk]
    · simp [lset_eq]; omega
    · rw [lset_eq, List.getElem?_append_left (by simp; omega), List.getElem?_set_ne (by omega), e2, List.getElem?_append_left (by omega)]
theorem GV.row {ro : List ABlk} {hp : Heap} {L e : Nat} {v : AVal} {k : Nat} {z : List Int} (g : GV hp L e 1 v k (z.map (AVal.i .i64))) (hk : z.length = k) : IsRow ro hp v z := by
  subst hk
  rcases g with ⟨rfl, h2, -⟩ | ⟨b, blk, rfl, hpos, hLb, hbk, hbe, hcl, hbn, hrows⟩
  · exact .inl ⟨rfl, List.length_eq_zero_iff.1 h2⟩
  · refine .inr ⟨_, _, blk, rfl, rdB_heap hbk 0, by simpa using hbn, fun j hj => ?_⟩
    rw [Nat.zero_add, hrows j (by omega), map_getD hj]
end Go.Proofs.Ytobmcofkcfifkaa.T

/- Fibonacci's numbers: the parts of a number. -/
open Go.Vm
set_option linter.unusedVariables false
namespace Go.Proofs.Ytobmcofkcfifkaa.T
open Go

/-- Fibonacci's numbers -/
def fb : Nat → Nat
  | 0 => 0
  | 1 => 1
  | n + 2 => fb n + fb (n + 1)
theorem fb_two (n : Nat) : fb (n + 2) = fb n + fb (n + 1) := rfl
theorem fb_pos : ∀ n, 0 < fb (n + 1)
  | 0 => by decide
  | n + 1 => by rw [fb_two]; have := fb_pos n; omega
theorem fb_succ : ∀ n, fb n ≤ fb (n + 1)
  | 0 => by decide
  | n + 1 => by rw [fb_two]; omega
theorem fb_le {m n : Nat} (h : m ≤ n) : fb m ≤ fb n := by
  induction h with
  | refl => exact Nat.le_refl _
  | step _ ih => exact Nat.le_trans ih (fb_succ _)
theorem fb88 : fb 88 = 1100087778366101931 := by decide +kernel
theorem fb89 : fb 89 = 1779979416004714189 := by decide +kernel
/-- the sum of what the indices name -/
def sm : List Nat → Nat
  | [] => 0
  | i :: l => fb i + sm l
/-- indices from 2 on, below t, falling, no two neighbours -/
def Zk : Nat → List Nat → Prop
  | _, [] => True
  | t, i :: l => 2 ≤ i ∧ i < t ∧ Zk (i - 1) l
theorem Zk.mono : ∀ {l : List Nat} {t u : Nat}, t ≤ u → Zk t l → Zk u l
  | [], _, _, _, _ => trivial
  | i :: l, t, u, h, ⟨h1, h2, h3⟩ => ⟨h1, by omega, h3⟩
theorem Zk.sum : ∀ {l : List Nat} {t : Nat}, 1 ≤ t → Zk t l → sm l < fb t
  | [], t, ht, _ => by
    obtain ⟨k, rfl⟩ : ∃ k, t = k + 1 := ⟨t - 1, by omega⟩
    exact fb_pos k
  | i :: l, t, ht, ⟨h1, h2, h3⟩ => by
    obtain ⟨k, rfl⟩ : ∃ k, i = k + 1 := ⟨i - 1, by omega⟩
    have := Zk.sum (t := k) (by omega) h3
    have h4 : fb (k + 2) ≤ fb t := fb_le h2
    rw [fb_two] at h4
    show fb (k + 1) + sm l < fb t
    omega
/-- the greatest that fits first -/
def gz : Nat → Nat → List Nat
  | 0, _ => []
  | 1, _ => []
  | i + 2, n => if fb (i + 2) ≤ n then (i + 2) :: gz (i + 1) (n - fb (i + 2)) else gz (i + 1) n
theorem gz_take {i n : Nat} (h : fb (i + 2) ≤ n) : gz (i + 2) n = (i + 2) :: gz (i + 1) (n - fb (i + 2)) := by rw [gz, if_pos h]
theorem gz_skip : ∀ {i n : Nat}, n < fb (i + 1) → gz (i + 1) n = gz i n
  | 0, n, h => rfl
  | i + 1, n, h => by rw [gz, if_neg (by have : fb (i + 1 + 1) = fb (i + 2) := rfl; omega)]
theorem gz_ok : ∀ (i n : Nat), n < fb (i + 1) → Zk (i + 1) (gz i n) ∧ sm (gz i n) = n
  | 0, n, h => by
    have : n = 0 := by have : fb (0 + 1) = 1 := rfl; omega
    subst this; exact ⟨trivial, rfl⟩
  | 1, n, h => by
    have : n = 0 := by have : fb (1 + 1) = 1 := rfl; omega
    subst this; exact ⟨trivial, rfl⟩
  | i + 2, n, h => by
    by_cases hc : fb (i + 2) ≤ n
    · rw [gz_take hc]
      have h2 : n - fb (i + 2) < fb (i + 1) := by
        have e : fb (i + 2 + 1) = fb (i + 1) + fb (i + 2) := rfl
        omega
      rw [gz_skip h2]
      obtain ⟨h3, h4⟩ := gz_ok i _ h2
      refine ⟨⟨by omega, by omega, h3⟩, ?_⟩
      show fb (i + 2) + sm _ = n
      rw [h4]; omega
    · rw [gz, if_neg hc]
      obtain ⟨h3, h4⟩ := gz_ok (i + 1) n (by have : fb (i + 1 + 1) = fb (i + 2) := rfl; omega)
      exact ⟨h3.mono (by omega), h4⟩
theorem gz_uniq : ∀ (t : Nat) {l : List Nat}, Zk (t + 1) l → gz t (sm l) = l
  | 0, l, h => by
    cases l with
    | nil => rfl
    | cons i l => exact absurd h.2.1 (by have := h.1; omega)
  | 1, l, h => by
    cases l with
    | nil => rfl
    | cons i l => exact absurd h.2.1 (by have := h.1; omega)
  | t + 2, [], _ => by
    rw [gz, if_neg (by have : 0 < fb (t + 2) := fb_pos (t + 1); show ¬ fb (t + 2) ≤ 0; omega)]
    exact gz_uniq (t + 1) (l := []) trivial
  | t + 2, i :: l, ⟨h1, h2, h3⟩ => by
    by_cases e : i = t + 2
    · subst e
      have h4 := Zk.sum (t := t + 1) (by omega) (show Zk (t + 1) l from h3)
      have h5 : sm ((t + 2) :: l) = fb (t + 2) + sm l := rfl
      rw [gz_take (by rw [h5]; omega), h5, Nat.add_sub_cancel_left, gz_skip h4, gz_uniq t h3]
    · have hz : Zk (t + 2) (i :: l) := ⟨h1, by omega, h3⟩
      have h4 := Zk.sum (t := t + 2) (by omega) hz
      rw [gz_skip h4]
      exact gz_uniq (t + 1) hz
theorem gz_zero (i : Nat) : gz i 0 = [] := gz_uniq i (l := []) trivial
/-- the number of indices -/
theorem Zk.len : ∀ {l : List Nat} {t : Nat}, Zk t l → 2 * l.length ≤ t
  | [], t, _ => by simp
  | i :: l, t, ⟨h1, h2, h3⟩ => by
    have := Zk.len h3
    simp only [List.length_cons]; omega
theorem Zk.mem : ∀ {l : List Nat} {t i : Nat}, Zk t l → i ∈ l → 2 ≤ i ∧ i < t
  | [], _, _, _, h => by simp at h
  | j :: l, t, i, ⟨h1, h2, h3⟩, hm => by
    rcases List.mem_cons.1 hm with rfl | hm
    · exact ⟨h1, h2⟩
    · have := Zk.mem h3 hm; omega
/-- the parts of a number up to 2^60 -/
abbrev big : Nat := 1152921504606846976
def zk (n : Nat) : List Nat := gz 88 n
theorem zk_ok {n : Nat} (h : n ≤ big) : Zk 89 (zk n) ∧ sm (zk n) = n := gz_ok 88 n (by rw [fb89]; have : big = 1152921504606846976 := rfl; omega)
theorem zk_ne {n : Nat} (h : n ≤ big) (h0 : 0 < n) : zk n ≠ [] := fun e => by
  have := (zk_ok h).2
  rw [e] at this
  exact absurd this (by show ¬ 0 = n; omega)
/-- numbers of words of any height -/
theorem gz_big {t u n : Nat} (h : n < fb (t + 1)) (htu : t ≤ u) : gz u n = gz t n := by
  have := gz_ok t n h
  have h2 := gz_uniq u (this.1.mono (by omega))
  rw [this.2] at h2
  exact h2
end Go.Proofs.Ytobmcofkcfifkaa.T

/- Steps; the two Fibonaccis; sums; ranges. -/
open Go.Vm
set_option linter.unusedVariables false
namespace Go.Proofs.Ytobmcofkcfifkaa.T
open Go

section
variable {ro : List ABlk} {h : Heap}
theorem alv {H : Heap} {l p : Nat} (hl : l ≤ H.length) (hp : p ≤ H.length) : callM (callX F1 ro) ⟨H, l, p⟩ 18 [] = some (.b true, ⟨H, l, p⟩) := cp alive_pure hl hp
theorem bindP_of {β : Type} {o : Option (AVal × Mm)} {v : AVal} {m : Mm} {f : AVal → Mm → Option β} (h : o = some (v, m)) : bindP o f = f v m := by rw [h]; rfl
theorem bindO_of {α β : Type} {o : Option α} {v : α} {f : α → Option β} (h : o = some v) : bindO o f = f v := by rw [h]; rfl
theorem pS {β : Type} (v : AVal) (m : Mm) (f : AVal → Mm → Option β) : bindP (some (v, m)) f = f v m := bindP_of (Eq.trans rfl rfl)
theorem oS {α β : Type} (v : α) (f : α → Option β) : bindO (some v) f = f v := bindO_of (Eq.trans rfl rfl)
theorem cT {α : Type} (a b : α) : cond true a b = a := by rw [cond_true]
theorem cF {α : Type} (a b : α) : cond false a b = b := by rw [cond_false]
theorem bS {β : Type} (b : Bool) (f : Bool → Option β) : asB (.b b) f = f b := (asB_b b f).trans (Eq.trans rfl rfl)
theorem sS {β : Type} (l : List UInt8) (f : List UInt8 → Option β) : asS (.s l) f = f l := Eq.trans rfl rfl
theorem iS {β : Type} (k : IntKind) (n : Int) (f : Int → Option β) : asI k (.i k n) f = f n := (asI_i k n f).trans (Eq.trans rfl rfl)
theorem x0 (a : AVal) (l : List AVal) : evP .e (.ext 0 (.c (.tup (a :: l)))) = some a := (ext0 a l).trans (Eq.trans rfl rfl)
theorem x1 (a b : AVal) (l : List AVal) : evP .e (.ext 1 (.c (.tup (a :: b :: l)))) = some b := (ext1 a b l).trans (Eq.trans rfl rfl)
theorem tA (v : AVal) : tupA [v] = v := Eq.trans rfl rfl
theorem tA2 (v w : AVal) : tupA [v, w] = .tup [v, w] := Eq.trans rfl rfl
theorem nT : (!true) = false := Eq.trans rfl rfl
theorem nF : (!false) = true := Eq.trans rfl rfl
theorem fB {α : Type} (n : Bool) (f : Bool → α) : forceB n f = f n := (forceB_eq n f).trans (Eq.trans rfl rfl)
theorem fI' {α : Type} (n : Int) (f : Int → α) : forceI n f = f n := (forceI_eq n f).trans (Eq.trans rfl rfl)
theorem mC (F : Tab) (ro : List ABlk) : (meansX F ro).call = callX F ro := (meansX_call F ro).trans (Eq.trans rfl rfl)
theorem eqI_self (x : Int) : eqI x x = true := by rw [eqI_eq]; simp
theorem eqI_ne {x y : Int} (h : x ≠ y) : eqI x y = false := by rw [eqI_eq]; simp [h]
theorem ltT {x y : Int} (h : x < y) : ltI x y = true := by rw [ltI_eq]; exact dT h
theorem ltF {x y : Int} (h : ¬ x < y) : ltI x y = false := by rw [ltI_eq]; exact dF h
theorem mxF {a c : Nat} : mxV false (a : Int) (c : Int) = ((min a c : Nat) : Int) := by
  unfold mxV
  simp only [Bool.false_eq_true, if_false]
  split <;> omega
theorem mxF' {a c : Int} : mxV false a c = min a c := by
  unfold mxV
  simp only [Bool.false_eq_true, if_false]
  split <;> omega

/-- Fibonacci's numbers below 0, too -/
def fI : Int → Int
  | .ofNat k => (fb k : Int)
  | .negSucc k => if k % 2 = 0 then (fb (k + 1) : Int) else -(fb (k + 1) : Int)
theorem fI_rec (z : Int) : fI (z + 2) = fI z + fI (z + 1) := by
  match z with
  | .ofNat k =>
    show ((fb (k + 2) : Nat) : Int) = (fb k : Int) + (fb (k + 1) : Int)
    rw [fb_two]; omega
  | .negSucc 0 => rfl
  | .negSucc 1 => rfl
  | .negSucc (k + 2) =>
    have e1 : (Int.negSucc (k + 2)) + 2 = Int.negSucc k := by omega
    have e2 : (Int.negSucc (k + 2)) + 1 = Int.negSucc (k + 1) := by omega
    rw [e1, e2]
    show (if k % 2 = 0 then (fb (k + 1) : Int) else -(fb (k + 1) : Int)) = (if (k + 2) % 2 = 0 then (fb (k + 2 + 1) : Int) else -(fb (k + 2 + 1) : Int)) + (if (k + 1) % 2 = 0 then (fb (k + 1 + 1) : Int) else -(fb (k + 1 + 1) : Int))
    have e3 : fb (k + 2 + 1) = fb (k + 1) + fb (k + 1 + 1) := rfl
    rcases Nat.mod_two_eq_zero_or_one k with hk | hk
    · rw [if_pos hk, if_pos (show (k + 2) % 2 = 0 by omega), if_neg (show ¬ (k + 1) % 2 = 0 by omega)]; omega
    · rw [if_neg (show ¬ k % 2 = 0 by omega), if_neg (show ¬ (k + 2) % 2 = 0 by omega), if_pos (show (k + 1) % 2 = 0 by omega)]; omega
theorem fI_abs (z : Int) : -(fb z.natAbs : Int) ≤ fI z ∧ fI z ≤ (fb z.natAbs : Int) := by
  match z with
  | .ofNat k =>
    show -((fb k : Nat) : Int) ≤ (fb k : Int) ∧ (fb k : Int) ≤ (fb k : Int)
    omega
  | .negSucc k =>
    show -((fb (k + 1) : Nat) : Int) ≤ (if k % 2 = 0 then (fb (k + 1) : Int) else -(fb (k + 1) : Int)) ∧ (if k % 2 = 0 then (fb (k + 1) : Int) else -(fb (k + 1) : Int)) ≤ (fb (k + 1) : Int)
    split <;> omega
abbrev tm : Nat := 1152921504606846977
abbrev by61 : Nat := 2305843009213693952
def pF (i : Int) : Int := if 0 ≤ i then ((min (fb i.toNat) tm : Nat) : Int) else fI i
def rF (i : Int) : Int := if 0 ≤ i then ((min (fb i.toNat) by61 : Nat) : Int) else fI i
theorem pF_nat (k : Nat) : pF (k : Int) = ((min (fb k) tm : Nat) : Int) := by unfold pF; rw [if_pos (by omega), Int.toNat_natCast]
theorem rF_nat (k : Nat) : rF (k : Int) = ((min (fb k) by61 : Nat) : Int) := by unfold rF; rw [if_pos (by omega), Int.toNat_natCast]
theorem rF_low {k : Nat} (hk : k ≤ 89) : rF (k : Int) = (fb k : Int) := by
  rw [rF_nat, Nat.min_eq_left]
  have := fb_le hk
  rw [fb89] at this
  have : by61 = 2305843009213693952 := rfl
  omega
theorem pF_low {k : Nat} (hk : k ≤ 88) : pF (k : Int) = (fb k : Int) := by
  rw [pF_nat, Nat.min_eq_left]
  have := fb_le hk
  rw [fb88] at this
  have : tm = 1152921504606846977 := rfl
  omega
theorem lt64 {n : Nat} (h : n ≤ 9223372036854775807) : wr .i64 (n : Int) = (n : Int) := wr_id' (by omega) (by omega)
/-- the program's Fibonacci -/
theorem fib71 {i : Int} (h1 : -88 ≤ i) (h2 : i ≤ 4611686018427387904) : callX F1 ro 71 [.i .i64 i] h = some (.i .i64 (pF i), h, h.length, h.length) := by
  refine g71_ok (meansX_ok F1 ro) rfl ?_
  unfold g71
  simp only [fI', meansX_loop]
  have htm : tm = 1152921504606846977 := rfl
  rcases Int.le_total 0 i with hi | hi
  · obtain ⟨k, rfl⟩ := Int.eq_ofNat_of_zero_le hi
    have hm : mxV false (k : Int) 89 = ((min k 89 : Nat) : Int) := mxF
    rw [hm]
    have hl1 := loop_run (b := fun s : Int × Int × Int => g71_b0 (meansX F1 ro) ro (k : Int) ((min k 89 : Nat) : Int) ⟨h, h.length, h.length⟩ s.1 s.2.1 s.2.2) (fun j => (((min (fb j) tm : Nat) : Int), ((min (fb (j + 1)) tm : Nat) : Int), (j : Int))) (min k 89)
      (r0 := (((min (fb (min k 89)) tm : Nat) : Int), ((min (fb (min k 89 + 1)) tm : Nat) : Int))) ?_ ?_
    · have e : ((((min (fb 0) tm : Nat) : Int), ((min (fb (0 + 1)) tm : Nat) : Int), ((0 : Nat) : Int)) : Int × Int × Int) = (0, 1, 0) := by decide
      rw [e] at hl1
      rw [hl1]
      simp only [oS]
      rw [wr_id' (by omega) (by omega)]
      have hl2 := loopX_out (b := fun s : Int × Int × Int => g71_b1 (meansX F1 ro) ro (0 - (k : Int)) ⟨h, h.length, h.length⟩ s.1 s.2.1 s.2.2) (s := (((min (fb (min k 89)) tm : Nat) : Int), ((min (fb (min k 89 + 1)) tm : Nat) : Int), 0)) (r := ((min (fb (min k 89)) tm : Nat) : Int)) (by
        simp only [g71_b1, fB, ltF (show ¬ (0 : Int) < 0 - (k : Int) by omega), cF])
      rw [hl2]
      simp only [oS, tA]
      have e2 : min (fb (min k 89)) tm = min (fb k) tm := by
        rcases Nat.le_total k 89 with hk | hk
        · rw [Nat.min_eq_left hk]
        · rw [Nat.min_eq_right hk]
          have := fb_le hk
          rw [fb89] at this ⊢
          omega
      rw [e2, pF_nat]
      exact fin_pure rfl
    · simp only [g71_b0, fB, ltF (Int.lt_irrefl _), cF]
    · intro j hj
      have hb1 : min (fb j) tm + min (fb (j + 1)) tm ≤ 9223372036854775807 := by omega
      have e3 : ((min (fb j) tm : Nat) : Int) + ((min (fb (j + 1)) tm : Nat) : Int) = ((min (fb j) tm + min (fb (j + 1)) tm : Nat) : Int) := by omega
      have e4 : mxV false ((min (fb j) tm + min (fb (j + 1)) tm : Nat) : Int) 1152921504606846977 = ((min (fb (j + 2)) tm : Nat) : Int) := by
        rw [show (1152921504606846977 : Int) = ((tm : Nat) : Int) from rfl, mxF, fb_two]; omega
      have e5 : wr .i64 ((j : Int) + 1) = ((j + 1 : Nat) : Int) := wr_next (by omega)
      simp only [g71_b0, fB, ltT (show (j : Int) < ((min k 89 : Nat) : Int) by omega), cT, fI', e3, lt64 hb1, e4, e5]
  · rcases Int.lt_or_eq_of_le hi with hi | rfl
    rotate_left
    · -- zero
      have hm : mxV false (0 : Int) 89 = 0 := by decide
      rw [hm]
      have hl1 := loopX_out (b := fun s : Int × Int × Int => g71_b0 (meansX F1 ro) ro 0 0 ⟨h, h.length, h.length⟩ s.1 s.2.1 s.2.2) (s := (0, 1, 0)) (r := (0, 1)) (by simp only [g71_b0, fB, ltF (Int.lt_irrefl _), cF])
      rw [hl1]
      simp only [oS]
      have e0 : wr .i64 (0 - 0) = 0 := by decide
      rw [e0]
      have hl2 := loopX_out (b := fun s : Int × Int × Int => g71_b1 (meansX F1 ro) ro 0 ⟨h, h.length, h.length⟩ s.1 s.2.1 s.2.2) (s := (0, 1, 0)) (r := 0) (by simp only [g71_b1, fB, ltF (Int.lt_irrefl _), cF])
      rw [hl2]
      simp only [oS, tA]
      exact fin_pure rfl
    obtain ⟨k, hk⟩ : ∃ k : Nat, i = -(k : Int) := ⟨i.natAbs, by omega⟩
    have hm : mxV false i 89 = i := by rw [mxF']; omega
    rw [hm]
    have hl1 := loopX_out (b := fun s : Int × Int × Int => g71_b0 (meansX F1 ro) ro i i ⟨h, h.length, h.length⟩ s.1 s.2.1 s.2.2) (s := (0, 1, 0)) (r := (0, 1)) (by simp only [g71_b0, fB, ltF (show ¬ (0 : Int) < i by omega), cF])
    rw [hl1]
    simp only [oS]
    have e0 : wr .i64 (0 - i) = (k : Int) := by rw [wr_id' (by omega) (by omega)]; omega
    rw [e0]
    have hl2 := loop_run (b := fun s : Int × Int × Int => g71_b1 (meansX F1 ro) ro (k : Int) ⟨h, h.length, h.length⟩ s.1 s.2.1 s.2.2) (fun j => (fI (-(j : Int)), fI (1 - (j : Int)), (j : Int))) k (r0 := fI (-(k : Int))) ?_ ?_
    · have e : ((fI (-((0 : Nat) : Int)), fI (1 - ((0 : Nat) : Int)), ((0 : Nat) : Int)) : Int × Int × Int) = (0, 1, 0) := rfl
      rw [e] at hl2
      rw [hl2]
      simp only [oS, tA]
      unfold pF
      rw [if_neg (by omega), hk]
      exact fin_pure rfl
    · simp only [g71_b1, fB, ltF (Int.lt_irrefl _), cF]
    · intro j hj
      have e3 : fI (1 - (j : Int)) - fI (-(j : Int)) = fI (-((j + 1 : Nat) : Int)) := by
        have := fI_rec (-((j + 1 : Nat) : Int))
        rw [show -((j + 1 : Nat) : Int) + 2 = 1 - (j : Int) by omega, show -((j + 1 : Nat) : Int) + 1 = -(j : Int) by omega] at this
        omega
      have hb := fI_abs (-((j + 1 : Nat) : Int))
      have hle := fb_le (show (-((j + 1 : Nat) : Int)).natAbs ≤ 88 by omega)
      rw [fb88] at hle
      have e5 : wr .i64 ((j : Int) + 1) = ((j + 1 : Nat) : Int) := wr_next (by omega)
      have e6 : fI (1 - ((j + 1 : Nat) : Int)) = fI (-(j : Int)) := by congr 1; omega
      simp only [g71_b1, fB, ltT (show (j : Int) < (k : Int) by omega), cT, fI', e3, wr_id' (show -9223372036854775808 ≤ fI (-((j + 1 : Nat) : Int)) by omega) (show fI (-((j + 1 : Nat) : Int)) ≤ 9223372036854775807 by omega), e5, e6]
/-- the reference's sum -/
theorem plus65 {a b : Nat} : callX F1 ro 65 [.i .i64 (a : Int), .i .i64 (b : Int)] h = some (.i .i64 ((min (a + b) by61 : Nat) : Int), h, h.length, h.length) := by
  refine g65_ok (meansX_ok F1 ro) rfl ?_
  unfold g65
  have hb : by61 = 2305843009213693952 := rfl
  have e1 : mxV false (2305843009213693952 : Int) (a : Int) = ((min by61 a : Nat) : Int) := mxF
  have e2 : mxV false (2305843009213693952 : Int) (b : Int) = ((min by61 b : Nat) : Int) := mxF
  have e3 : ((min by61 a : Nat) : Int) + ((min by61 b : Nat) : Int) = ((min by61 a + min by61 b : Nat) : Int) := by omega
  have e4 : mxV false (2305843009213693952 : Int) ((min by61 a + min by61 b : Nat) : Int) = ((min (a + b) by61 : Nat) : Int) := by
    rw [show (2305843009213693952 : Int) = ((by61 : Nat) : Int) from rfl, mxF]; omega
  simp only [fI', e1, e2, e3, lt64 (show min by61 a + min by61 b ≤ 9223372036854775807 by omega), e4, tA]
  exact fin_pure rfl
theorem fibN50 {k : Nat} (hk : k ≤ 1000) : callX F1 ro 50 [.i .i64 (k : Int)] h = some (.i .i64 (rF (k : Int)), h, h.length, h.length) := by
  refine g50_ok (meansX_ok F1 ro) rfl ?_
  unfold g50
  simp only [fB, ltF (show ¬ (k : Int) < 0 by omega), cF, meansX_loop]
  have hl1 := loop_run (b := fun s : Int × Int × Int × Mm => g50_b0 (meansX F1 ro) ro (k : Int) s.1 s.2.1 s.2.2.1 s.2.2.2) (fun j => (((min (fb j) by61 : Nat) : Int), ((min (fb (j + 1)) by61 : Nat) : Int), (j : Int), (⟨h, h.length, h.length⟩ : Mm))) k
    (r0 := (((min (fb k) by61 : Nat) : Int), (⟨h, h.length, h.length⟩ : Mm))) ?_ ?_
  · have e : ((((min (fb 0) by61 : Nat) : Int), ((min (fb (0 + 1)) by61 : Nat) : Int), ((0 : Nat) : Int), (⟨h, h.length, h.length⟩ : Mm)) : Int × Int × Int × Mm) = (0, 1, 0, ⟨h, h.length, h.length⟩) := rfl
    rw [e] at hl1
    rw [hl1]
    simp only [oS, tA]
    rw [rF_nat]
    exact fin_pure rfl
  · simp only [g50_b0, fB, ltF (Int.lt_irrefl _), cF]
  · intro j hj
    have e5 : wr .i64 ((j : Int) + 1) = ((j + 1 : Nat) : Int) := wr_next (by omega)
    have e6 : min (min (fb j) by61 + min (fb (j + 1)) by61) by61 = min (fb (j + 1 + 1)) by61 := by
      have : fb (j + 1 + 1) = fb j + fb (j + 1) := rfl
      omega
    simp only [g50_b0, fB, ltT (show (j : Int) < (k : Int) by omega), cT, mC, cp0 plus65, pS, iS, fI', e5, e6]
/-- the reference's Fibonacci -/
theorem fib50 {i : Int} (h1 : -88 ≤ i) (h2 : i ≤ 1000) : callX F1 ro 50 [.i .i64 i] h = some (.i .i64 (rF i), h, h.length, h.length) := by
  rcases Int.lt_or_le i 0 with hi | hi
  rotate_left
  · obtain ⟨k, rfl⟩ := Int.eq_ofNat_of_zero_le hi
    exact fibN50 (by omega)
  obtain ⟨k, rfl⟩ : ∃ k : Nat, i = Int.negSucc k := ⟨i.natAbs - 1, by omega⟩
  refine g50_ok (meansX_ok F1 ro) rfl ?_
  unfold g50
  have e0 : wr .i64 (0 - Int.negSucc k) = ((k + 1 : Nat) : Int) := by rw [wr_id' (by omega) (by omega)]; omega
  have e1 : rF ((k + 1 : Nat) : Int) = (fb (k + 1) : Int) := rF_low (by omega)
  have hle := fb_le (show k + 1 ≤ 88 by omega)
  rw [fb88] at hle
  simp only [fB, ltT hi, cT, fI', e0, mC, cp0 (fibN50 (k := k + 1) (by omega)), pS, iS, e1, tA]
  have e2 : Int.tmod (Int.negSucc k) 2 = -(((k + 1) % 2 : Nat) : Int) := rfl
  have e3 : rF (Int.negSucc k) = if k % 2 = 0 then (fb (k + 1) : Int) else -(fb (k + 1) : Int) := by unfold rF; rw [if_neg (by omega)]; rfl
  rw [e2, e3]
  rcases Nat.mod_two_eq_zero_or_one k with hk | hk
  · rw [if_pos hk, eqI_ne (show -(((k + 1) % 2 : Nat) : Int) ≠ 0 by omega), cF]
    exact fin_pure rfl
  · rw [if_neg (by omega), show -(((k + 1) % 2 : Nat) : Int) = 0 by omega, eqI_self, cT, wr_id' (by omega) (by omega), Int.zero_sub]
    exact fin_pure rfl
/-- is a number in range? -/
def inR (n : Int) : Prop := 0 ≤ n ∧ n ≤ 1152921504606846976
instance (n : Int) : Decidable (inR n) := inferInstanceAs (Decidable (_ ∧ _))
theorem inR53 {n : Int} : callX F1 ro 53 [.i .i64 n] h = some (.b (decide (inR n)), h, h.length, h.length) := by
  refine g53_ok (meansX_ok F1 ro) rfl ?_
  unfold g53
  simp only [fB]
  rcases Int.lt_or_le n 0 with h1 | h1
  · rw [ltT h1, dF (show ¬ inR n from fun e => by have := e.1; omega)]
    exact fin_pure rfl
  · rw [ltF (by omega)]
    simp only [nF, cT, oS, tA]
    rcases Int.lt_or_le 1152921504606846976 n with h2 | h2
    · rw [ltT h2, dF (show ¬ inR n from fun e => by have := e.2; omega)]
      exact fin_pure rfl
    · rw [ltF (by omega), dT (show inR n from ⟨h1, h2⟩)]
      exact fin_pure rfl
end
end Go.Proofs.Ytobmcofkcfifkaa.T

/- Ranges of several numbers; the parts of a number, by the program and by the reference. -/
open Go.Vm
set_option linter.unusedVariables false
namespace Go.Proofs.Ytobmcofkcfifkaa.T
open Go

section
variable {ro : List ABlk} {h : Heap}
/-- a list of numbers, all in range? -/
theorem all51 {v : AVal} {z : List Int} (a : IsRow ro h v z) (hz : z.length ≤ 1000000) : callX F1 ro 51 [v] h = some (.b (decide (∀ i, i < z.length → inR (z.getD i 0))), h, h.length, h.length) := by
  refine g51_ok (meansX_ok F1 ro) rfl ?_
  unfold g51
  simp only [len_row a, oS, iS, meansX_loop]
  have hl := loop_if (b := fun s => g51_b0 (meansX F1 ro) ro v (z.length : Int) ⟨h, h.length, h.length⟩ s) (fun i => (i : Int)) z.length (fun i => inR (z.getD i 0)) (.inl ()) (.inr false) ?_ ?_ ?_
  · have e0 : ((0 : Nat) : Int) = 0 := rfl
    rw [e0] at hl
    rw [hl]
    by_cases hf : ∀ i, i < z.length → inR (z.getD i 0)
    · rw [if_pos hf]
      simp only [oS, tA, dT hf]
      exact fin_pure rfl
    · rw [if_neg hf]
      simp only [oS, tA, dF hf]
      exact fin_pure rfl
  · simp only [g51_b0, fB, ltF (Int.lt_irrefl _), cF]
  · intro i hi hp
    obtain ⟨p, h1, h2, h3⟩ := at_row (m := ⟨h, h.length, h.length⟩) rfl a hi
    obtain ⟨hp1, hp2⟩ := hp
    simp only [g51_b0, fB, ltT (show (i : Int) < (z.length : Int) by omega), cT, h1, oS, h2, iS, ltF (show ¬ z.getD i 0 < 0 by omega), ltF (show ¬ 1152921504606846976 < z.getD i 0 by omega), cF, fI', wr_next (show i ≤ 1000000 by omega)]
  · intro i hi hp
    obtain ⟨p, h1, h2, h3⟩ := at_row (m := ⟨h, h.length, h.length⟩) rfl a hi
    simp only [g51_b0, fB, ltT (show (i : Int) < (z.length : Int) by omega), cT, h1, oS, h2, iS]
    rcases Int.lt_or_le (z.getD i 0) 0 with hh | hh
    · simp only [ltT hh, cT, oS]
    · have : 1152921504606846976 < z.getD i 0 := by
        rcases Int.lt_or_le 1152921504606846976 (z.getD i 0) with h4 | h4
        · exact h4
        · exact absurd ⟨hh, h4⟩ hp
      simp only [ltF (show ¬ z.getD i 0 < 0 by omega), ltT this, cF, oS, cT]
theorem bsl1 (hp : Heap) (l p : Nat) (x : Int) : stepM ro ⟨hp, l, p⟩ (.bsl 3 1 [(AVal.i IntKind.i64 0)] 1 [((0, 1), .c (.i .i64 x))]) = some (.sl ⟨false, hp.length, 0⟩ 1 (.known 1), ⟨hp ++ [some (blkOf 3 [.i .i64 x])], l, p⟩) := rfl
theorem newRow (hp : Heap) (z : List Int) (c : Cap) : IsRow ro (hp ++ [some (blkOf 3 (z.map (AVal.i .i64)))]) (.sl ⟨false, hp.length, 0⟩ z.length c) z := by
  refine .inr ⟨_, _, blkOf 3 (z.map (AVal.i .i64)), rfl, rdB_heap (lget_last _ _) 0, by simp [blkOf], fun j hj => ?_⟩
  rw [Nat.zero_add, get_blk, map_getD hj]
/-- one number in range? the list that is made for it is dropped later -/
theorem one51 {x : Int} {l p : Nat} (hl : l ≤ h.length) (hp : p ≤ h.length) : ∃ v H, stepM ro ⟨h, l, p⟩ (.bsl 3 1 [(AVal.i IntKind.i64 0)] 1 [((0, 1), .c (.i .i64 x))]) = some (v, ⟨H, l, p⟩) ∧ callM (callX F1 ro) ⟨H, l, p⟩ 51 [v] = some (.b (decide (inR x)), ⟨H, l, p⟩) ∧ Keep h H := by
  refine ⟨_, _, bsl1 h l p x, ?_, Keep.app _⟩
  have h1 := all51 (ro := ro) (newRow h [x] (.known 1)) (by simp)
  have e : decide (∀ i, i < [x].length → inR ([x].getD i 0)) = decide (inR x) := by
    apply decide_eq_decide.2
    exact ⟨fun hh => hh 0 (by simp), fun hh i hi => by obtain rfl : i = 0 := by simp at hi; omega
                                                       exact hh⟩
  rw [e] at h1
  exact callM_pure h1 (by simp; omega) (by simp; omega)
/-- numbers as the program's ints -/
abbrev nts (l : List Nat) : List Int := l.map fun n : Nat => ((n : Nat) : Int)
theorem nts_len (l : List Nat) : (nts l).length = l.length := by simp
theorem nts_get {l : List Nat} {i : Nat} (h : i < l.length) : (nts l).getD i 0 = ((l.getD i 0 : Nat) : Int) := by simp [List.getD, h]
/-- the program's parts -/
theorem parts60 {n : Nat} (hn : n ≤ big) : ∃ v H, callX F1 ro 60 [.i .i64 (n : Int)] h = some (v, H, h.length, h.length) ∧ Keep h H ∧ IsRow ro H v (nts (zk n)) := by
  have hbig : big = 1152921504606846976 := rfl
  have e1 : pF 88 = (fb 88 : Int) := pF_low (k := 88) (by omega)
  have e2 : pF 87 = (fb 87 : Int) := pF_low (k := 87) (by omega)
  have key : ∃ r, loopX (fun s : Int × AVal × Int × Int × Int × Mm => g60_b0 (meansX F1 ro) ro s.1 s.2.1 s.2.2.1 s.2.2.2.1 s.2.2.2.2.1 s.2.2.2.2.2) ((n : Int), AVal.nsl, (fb 88 : Int), (fb 87 : Int), 88, ⟨h, h.length, h.length⟩) = some r ∧ ∃ w H, r = (w, ⟨H, h.length, h.length⟩) ∧ Keep h H ∧ IsRow ro H w (nts (zk n)) := by
    refine loop_exit 87 (fun j s => ∃ (r : Nat) (w : AVal) (H : Heap) (l : List Nat), s = ((r : Int), w, (fb (88 - j) : Int), (fb (87 - j) : Int), ((88 - j : Nat) : Int), ⟨H, h.length, h.length⟩) ∧ Keep h H ∧ GV H h.length 3 1 w l.length ((nts l).map (AVal.i .i64)) ∧ l.length ≤ j ∧ l ++ gz (88 - j) r = zk n ∧ r < fb (89 - j)) _ ?_ ?_ 87 0 _ (by omega) ⟨n, .nsl, h, [], rfl, Keep.refl h, GV.nil _ _ _ _, by simp, rfl, by
      show n < fb 89
      rw [fb89]; omega⟩
    · rintro j s hj ⟨r, w, H, l, rfl, kp, g, hlen, hl, hr⟩
      obtain ⟨i, hi⟩ : ∃ i, 88 - j = i + 2 := ⟨86 - j, by omega⟩
      have hi1 : 87 - j = i + 1 := by omega
      have hi2 : 89 - j = i + 3 := by omega
      have hj1 : 88 - (j + 1) = i + 1 := by omega
      have hj2 : 87 - (j + 1) = i := by omega
      have hj3 : 89 - (j + 1) = i + 2 := by omega
      rw [hi] at hl
      rw [hi2] at hr
      simp only [hi, hi1]
      rcases Nat.eq_zero_or_pos r with rfl | hr0
      · refine .inr ⟨(w, ⟨H, h.length, h.length⟩), ?_, w, H, rfl, kp, ?_⟩
        · simp only [g60_b0, fB, ltF (show ¬ (0 : Int) < ((0 : Nat) : Int) by omega), cF]
        · rw [gz_zero, List.append_nil] at hl
          rw [← hl]
          exact GV.row g (nts_len l)
      · have hf := fb_le (show i + 2 ≤ 88 by omega)
        rw [fb88] at hf
        have ef : fb (i + 3) = fb (i + 1) + fb (i + 2) := rfl
        have ef2 : fb (i + 2) = fb i + fb (i + 1) := rfl
        have e3 : wr .i64 ((fb (i + 2) : Int) - (fb (i + 1) : Int)) = (fb i : Int) := by rw [wr_id' (by omega) (by omega)]; omega
        have e4 : wr .i64 (((i + 2 : Nat) : Int) - 1) = ((i + 1 : Nat) : Int) := by rw [wr_id' (by omega) (by omega)]; omega
        refine .inl ?_
        by_cases hc : fb (i + 2) ≤ r
        · obtain ⟨v2, hp2, v3, hp3, s1, s2, g2, k1, k2⟩ := GV.push (ro := ro) (L0 := h.length) (bytes := 8) (z := [AVal.i .i64 0]) (w := .i .i64 ((i + 2 : Nat) : Int)) (ws := [.i .i64 ((i + 2 : Nat) : Int)]) g (Nat.le_refl _) kp.1 (by omega) (by omega) (by omega) rfl rfl rfl rfl rfl
          have e5 : wr .i64 ((r : Int) - (fb (i + 2) : Int)) = ((r - fb (i + 2) : Nat) : Int) := by rw [wr_id' (by omega) (by omega)]; omega
          refine ⟨_, (by simp only [g60_b0, fB, ltT (show (0 : Int) < (r : Int) by omega), cT, ltF (show ¬ (r : Int) < (fb (i + 2) : Int) by omega), nF, s1, pS, s2, fI', e5, oS, e3, e4]; rfl), r - fb (i + 2), v3, hp3, l ++ [i + 2], by rw [hj1, hj2], ⟨Nat.le_trans kp.1 k1, fun q hq => by rw [k2 q hq, kp.2 q hq]⟩, ?_, by simp; omega, ?_, ?_⟩
          · rw [List.length_append, show nts (l ++ [i + 2]) = nts l ++ [((i + 2 : Nat) : Int)] by simp, List.map_append]
            simpa using g2
          · rw [hj1, ← hl, gz_take hc]; simp
          · rw [hj3]; omega
        · refine ⟨_, (by simp only [g60_b0, fB, ltT (show (0 : Int) < (r : Int) by omega), cT, ltT (show (r : Int) < (fb (i + 2) : Int) by omega), nT, cF, oS, fI', e3, e4]; rfl), r, w, H, l, by rw [hj1, hj2], kp, g, by omega, ?_, ?_⟩
          · rw [hj1, ← hl, gz_skip (i := i + 1) (by show r < fb (i + 2); omega)]
          · rw [hj3]; omega
    · rintro s ⟨r, w, H, l, rfl, kp, g, hlen, hl, hr⟩
      have : r = 0 := by have : fb (89 - 87) = 1 := rfl; omega
      subst this
      refine ⟨(w, ⟨H, h.length, h.length⟩), ?_, w, H, rfl, kp, ?_⟩
      · simp only [g60_b0, fB, ltF (show ¬ (0 : Int) < ((0 : Nat) : Int) by omega), cF]
      · rw [gz_zero, List.append_nil] at hl
        rw [← hl]
        exact GV.row g (nts_len l)
  obtain ⟨r, h1, w, H, rfl, kp, hrow⟩ := key
  obtain ⟨H', f1, f2, f3⟩ := fin_rowW (w := w) kp hrow rfl
  refine ⟨w, H', g60_ok (meansX_ok F1 ro) rfl ?_, f2, f3⟩
  unfold g60
  simp only [mC, cp0 (fib71 (i := 88) (by omega) (by omega)), cp0 (fib71 (i := 87) (by omega) (by omega)), pS, iS, e1, e2, meansX_loop]
  rw [h1]
  simp only [oS, tA]
  exact f1
/-- the reference's parts -/
theorem parts64 {n : Nat} (hn : n ≤ big) : ∃ v H, callX F1 ro 64 [.i .i64 (n : Int)] h = some (v, H, h.length, h.length) ∧ Keep h H ∧ IsRow ro H v (nts (zk n)) := by
  have hbig : big = 1152921504606846976 := rfl
  have h90 : gz 90 n = zk n := gz_big (t := 88) (by rw [fb89]; omega) (by omega)
  have key : ∃ r, loopX (fun s : Int × AVal × Int × Mm => g64_b0 (meansX F1 ro) ro s.1 s.2.1 s.2.2.1 s.2.2.2) ((n : Int), AVal.nsl, 90, ⟨h, h.length, h.length⟩) = some r ∧ ∃ w H, r = (w, ⟨H, h.length, h.length⟩) ∧ Keep h H ∧ IsRow ro H w (nts (zk n)) := by
    refine loop_gen 89 (fun j s => ∃ (r : Nat) (w : AVal) (H : Heap) (l : List Nat), s = ((r : Int), w, ((90 - j : Nat) : Int), ⟨H, h.length, h.length⟩) ∧ Keep h H ∧ GV H h.length 3 1 w l.length ((nts l).map (AVal.i .i64)) ∧ l.length ≤ j ∧ l ++ gz (90 - j) r = zk n ∧ r ≤ n) _ ?_ ?_ 89 0 _ (by omega) ⟨n, .nsl, h, [], rfl, Keep.refl h, GV.nil _ _ _ _, by simp, h90, Nat.le_refl _⟩
    · rintro j s hj ⟨r, w, H, l, rfl, kp, g, hlen, hl, hr⟩
      obtain ⟨i, hi⟩ : ∃ i, 90 - j = i + 2 := ⟨88 - j, by omega⟩
      have hj1 : 90 - (j + 1) = i + 1 := by omega
      rw [hi] at hl
      simp only [hi]
      have e4 : wr .i64 (((i + 2 : Nat) : Int) - 1) = ((i + 1 : Nat) : Int) := by rw [wr_id' (by omega) (by omega)]; omega
      have hfib := fun (H : Heap) => fib50 (ro := ro) (h := H) (i := ((i + 2 : Nat) : Int)) (by omega) (by omega)
      rw [rF_nat] at hfib
      have h61 : by61 = 2305843009213693952 := rfl
      by_cases hc : fb (i + 2) ≤ r
      · have em : min (fb (i + 2)) by61 = fb (i + 2) := by omega
        rw [em] at hfib
        obtain ⟨v2, hp2, v3, hp3, s1, s2, g2, k1, k2⟩ := GV.push (ro := ro) (L0 := h.length) (bytes := 8) (z := [AVal.i .i64 0]) (w := .i .i64 ((i + 2 : Nat) : Int)) (ws := [.i .i64 ((i + 2 : Nat) : Int)]) g (Nat.le_refl _) kp.1 (by omega) (by omega) (by omega) rfl rfl rfl rfl rfl
        have e5 : wr .i64 ((r : Int) - (fb (i + 2) : Int)) = ((r - fb (i + 2) : Nat) : Int) := by rw [wr_id' (by omega) (by omega)]; omega
        refine ⟨_, (by simp only [g64_b0, fB, ltF (show ¬ ((i + 2 : Nat) : Int) < 2 by omega), nF, cT, mC, cp (hfib H) kp.1 kp.1, pS, iS, ltF (show ¬ (r : Int) < (fb (i + 2) : Int) by omega), s1, s2, fI', e5, oS, e4]; rfl), r - fb (i + 2), v3, hp3, l ++ [i + 2], by rw [hj1], ⟨Nat.le_trans kp.1 k1, fun q hq => by rw [k2 q hq, kp.2 q hq]⟩, ?_, by simp; omega, ?_, by omega⟩
        · rw [List.length_append, show nts (l ++ [i + 2]) = nts l ++ [((i + 2 : Nat) : Int)] by simp, List.map_append]
          simpa using g2
        · rw [hj1, ← hl, gz_take hc]; simp
      · refine ⟨_, (by simp only [g64_b0, fB, ltF (show ¬ ((i + 2 : Nat) : Int) < 2 by omega), nF, cT, mC, cp (hfib H) kp.1 kp.1, pS, iS, ltT (show (r : Int) < ((min (fb (i + 2)) by61 : Nat) : Int) by omega), nT, cF, oS, fI', e4]; rfl), r, w, H, l, by rw [hj1], kp, g, by omega, ?_, hr⟩
        rw [hj1, ← hl, gz_skip (i := i + 1) (by show r < fb (i + 2); omega)]
    · rintro s ⟨r, w, H, l, rfl, kp, g, hlen, hl, hr⟩
      refine ⟨(w, ⟨H, h.length, h.length⟩), ?_, w, H, rfl, kp, ?_⟩
      · simp only [g64_b0, fB, ltT (show ((90 - 89 : Nat) : Int) < 2 by omega), nT, cF]
      · have : gz (90 - 89) r = [] := rfl
        rw [this, List.append_nil] at hl
        rw [← hl]
        exact GV.row g (nts_len l)
  obtain ⟨r, h1, w, H, rfl, kp, hrow⟩ := key
  obtain ⟨H', f1, f2, f3⟩ := fin_rowW (w := w) kp hrow rfl
  refine ⟨w, H', g64_ok (meansX_ok F1 ro) rfl ?_, f2, f3⟩
  unfold g64
  simp only [meansX_loop]
  rw [h1]
  simp only [oS, tA]
  exact f1
end
end Go.Proofs.Ytobmcofkcfifkaa.T

/- Sums of shifted parts, as the program adds them. -/
open Go.Vm
set_option linter.unusedVariables false
namespace Go.Proofs.Ytobmcofkcfifkaa.T
open Go

theorem zk_at {n j : Nat} (hn : n ≤ big) (hj : j < (zk n).length) : 2 ≤ (zk n).getD j 0 ∧ (zk n).getD j 0 ≤ 88 := by
  have hm : (zk n).getD j 0 ∈ zk n := by
    have : (zk n).getD j 0 = (zk n)[j] := by simp [List.getD, hj]
    rw [this]; exact List.getElem_mem hj
  have := (zk_ok hn).1.mem hm
  omega
theorem zk_len {n : Nat} (hn : n ≤ big) : (zk n).length ≤ 44 := by
  have := (zk_ok hn).1.len
  omega
/-- one part more -/
def stp (b : Int) (s : Int) (i : Nat) : Int := min (s + pF ((i : Int) + b)) (tm : Int)
/-- the program's sum of shifted parts -/
def acc (b : Int) (l : List Nat) : Int := l.foldl (stp b) 0
theorem zk_mem {n j : Nat} (hj : j < (zk n).length) : (zk n).getD j 0 ∈ zk n := by
  have : (zk n).getD j 0 = (zk n)[j] := by simp [List.getD, hj]
  rw [this]; exact List.getElem_mem hj
section
variable {ro : List ABlk} {h : Heap}
/-- the least part's index -/
def lp (n : Nat) : Nat := (zk n).getD ((zk n).length - 1) 0
end
theorem lp_bd {n : Nat} (hn : n ≤ big) (h0 : 0 < n) : 2 ≤ lp n ∧ lp n ≤ 88 := by
  have hpos : 0 < (zk n).length := List.length_pos_iff.2 (zk_ne hn h0)
  exact zk_at hn (by omega)
/-- shifted up -/
def su (b : Nat) : List Nat → Nat
  | [] => 0
  | i :: l => fb (i + b) + su b l
end Go.Proofs.Ytobmcofkcfifkaa.T

/- Take, by the program and by the reference. -/
open Go.Vm
set_option linter.unusedVariables false
namespace Go.Proofs.Ytobmcofkcfifkaa.T
open Go

section
variable {ro : List ABlk} {h : Heap}
theorem inR_nat {n : Int} (hr : inR n) : ∃ k : Nat, n = (k : Int) ∧ k ≤ big := by
  obtain ⟨k, rfl⟩ := Int.eq_ofNat_of_zero_le hr.1
  have := hr.2
  exact ⟨k, rfl, by have : big = 1152921504606846976 := rfl; omega⟩
theorem nat_inR {k : Nat} (h : k ≤ big) : inR (k : Int) := ⟨by omega, by have : big = 1152921504606846976 := rfl; omega⟩
/-- two results -/
def ret2 (p : Int × Int) : AVal := .tup [.i .i64 p.1, .i .i64 p.2]
theorem r20 (p : Int × Int) : evP .e (.ext 0 (.c (ret2 p))) = some (.i .i64 p.1) := x0 _ _
theorem r21 (p : Int × Int) : evP .e (.ext 1 (.c (ret2 p))) = some (.i .i64 p.2) := x1 _ _ _
/- Take -/
end
theorem exC {ro : List ABlk} {k : Nat} {l : List AVal} {h : Heap} {n m : Nat} {H : Heap} (e : callX F1 ro k l h = some (.b true, H, n, m)) : ∃ h' lw lp, callX F1 ro k l h = some (.b true, h', lw, lp) := ⟨_, _, _, e⟩
end Go.Proofs.Ytobmcofkcfifkaa.T

/- Shift, by the program and by the reference. -/
open Go.Vm
set_option linter.unusedVariables false
namespace Go.Proofs.Ytobmcofkcfifkaa.T
open Go

theorem take_one {l : List Nat} {j : Nat} (hj : j < l.length) : l.take (j + 1) = l.take j ++ [l.getD j 0] := by
  rw [List.take_succ_eq_append_getElem hj]; simp [List.getD, hj]
/- Shift -/
section
variable {ro : List ABlk} {h : Heap}
end
end Go.Proofs.Ytobmcofkcfifkaa.T

/- Circle, by the program and by the reference; the law of circles. -/
open Go.Vm
set_option linter.unusedVariables false
namespace Go.Proofs.Ytobmcofkcfifkaa.T
open Go

/- Circle -/
section
variable {ro : List ABlk} {h : Heap}
end
end Go.Proofs.Ytobmcofkcfifkaa.T

/- Array and Where, by the program and by the reference. -/
open Go.Vm
set_option linter.unusedVariables false
namespace Go.Proofs.Ytobmcofkcfifkaa.T
open Go

/- Array -/
section
variable {ro : List ABlk} {h : Heap}
end
/- Where -/
theorem Zk.snoc : ∀ {l : List Nat} {t x i : Nat}, Zk t (l ++ [x]) → i ∈ l → x + 2 ≤ i
  | [], _, _, _, _, h => by simp at h
  | a :: l, t, x, i, ⟨h1, h2, h3⟩, hm => by
    rcases List.mem_cons.1 hm with rfl | hm
    · have := h3.mem (i := x) (by simp)
      omega
    · exact Zk.snoc h3 hm
theorem zk_last {n : Nat} (hn : n ≤ big) (h0 : 0 < n) : zk n = (zk n).take ((zk n).length - 1) ++ [lp n] := by
  have hpos : 0 < (zk n).length := List.length_pos_iff.2 (zk_ne hn h0)
  have h := take_one (l := zk n) (j := (zk n).length - 1) (by omega)
  rw [show (zk n).length - 1 + 1 = (zk n).length by omega, List.take_length] at h
  exact h
section
variable {ro : List ABlk} {h : Heap}
end
end Go.Proofs.Ytobmcofkcfifkaa.T

/- The product of numbers by their parts: Knuth's theorem. -/
open Go.Vm
set_option linter.unusedVariables false
namespace Go.Proofs.Ytobmcofkcfifkaa.T
open Go

/-- a sum over a list -/
def sg (f : Nat → Nat) : List Nat → Nat
  | [] => 0
  | i :: l => f i + sg f l
/-- the parts one lower -/
def sd (l : List Nat) : Nat := sg (fun i => fb (i - 1)) l
end Go.Proofs.Ytobmcofkcfifkaa.T

/- Numbers made smaller; Knuth's law. -/
open Go.Vm
set_option linter.unusedVariables false
namespace Go.Proofs.Ytobmcofkcfifkaa.T
open Go

section
variable {ro : List ABlk} {h : Heap}
end
end Go.Proofs.Ytobmcofkcfifkaa.T

/- Blocks of bytes; copies; zeros as many as one likes. -/
open Go.Vm
set_option linter.unusedVariables false
namespace Go.Proofs.Ytobmcofkcfifkaa.T
open Go

/-- a byte -/
def bv (c : UInt8) : AVal := .i .u8 (c.toNat : Int)
/-- a block of values, no more to it -/
def HB (hp : Heap) (b : Nat) (vs : List AVal) : Prop := ∃ blk, lget hp b = some (some blk) ∧ blk.g = none ∧ blk.n = vs.length ∧ ∀ j, j < vs.length → blk.c.get j = vs.getD j und
theorem HB.holds {hp : Heap} {b : Nat} {vs : List AVal} (a : HB hp b vs) : Holds hp b vs := by
  obtain ⟨blk, h1, -, h2, h3⟩ := a
  exact ⟨blk, h1, h2, h3⟩
theorem HB.lt {hp : Heap} {b : Nat} {vs : List AVal} (a : HB hp b vs) : b < hp.length := a.holds.lt
theorem HB.new (hp : Heap) (e : Nat) (vs : List AVal) : HB (hp ++ [some (blkOf e vs)]) hp.length vs := ⟨_, lget_last _ _, rfl, rfl, fun j _ => get_blk e vs j⟩
theorem HB.keep {hp hp' : Heap} {b : Nat} {vs : List AVal} (a : HB hp b vs) (hk : hp'[b]? = hp[b]?) : HB hp' b vs := by
  obtain ⟨blk, h1, h2⟩ := a
  exact ⟨blk, by rw [lget_of hk]; exact h1, h2⟩
theorem getD_map_range {α : Type} (f : Nat → α) (d : α) {n j : Nat} (hj : j < n) : ((List.range n).map f).getD j d = f j := by
  simp [List.getD, hj]
theorem wrH_off {hp : Heap} {b off : Nat} {blk : ABlk} {vs : List AVal} (hb : lget hp b = some (some blk)) (hn : off + vs.length ≤ blk.n) (ho : ones vs = true) : wrH hp ⟨false, b, off⟩ vs = some (hp.set b (some { blk with c := blk.c.splice off vs })) := by
  have : (Nat.ble (off + vs.length) blk.n && ones vs) = true := by rw [ho, Bool.and_true, Nat.ble_eq]; omega
  simp only [wrH, cond_false, hb, this, cond_true, lset_eq]
/-- values in the middle of a block -/
theorem HB.wr {hp : Heap} {b off n : Nat} {f g : Nat → AVal} {vs : List AVal} (a : HB hp b ((List.range n).map f)) (hn : off + vs.length ≤ n) (ho : ones vs = true) (hg : ∀ j, j < n → g j = if off ≤ j ∧ j < off + vs.length then vs.getD (j - off) und else f j) :
    ∃ hp', wrH hp ⟨false, b, off⟩ vs = some hp' ∧ HB hp' b ((List.range n).map g) ∧ hp'.length = hp.length ∧ ∀ i, i ≠ b → hp'[i]? = hp[i]? := by
  obtain ⟨blk, h1, h2, h3, h4⟩ := a
  have hl : ∀ k : Nat → AVal, ((List.range n).map k).length = n := fun k => by simp
  rw [hl] at h3 h4
  refine ⟨_, wrH_off h1 (by omega) ho, ⟨_, lget_set h1 _, h2, ?_, fun j hj => ?_⟩, by simp, fun i hi => List.getElem?_set_ne (Ne.symm hi)⟩
  · rw [hl]; exact h3
  · rw [hl] at hj
    rw [getD_map_range g und hj, hg j hj]
    show (blk.c.splice off vs).get j = _
    rw [spliceGet]
    split
    · rfl
    · rw [h4 j hj, getD_map_range f und hj]
theorem ones_rep (c : UInt8) : ∀ n, ones (List.replicate n (bv c)) = true
  | 0 => rfl
  | n + 1 => by rw [List.replicate_succ]; simp only [ones, ones_rep c n]; rfl
theorem nonp_rep (c : UInt8) : ∀ n, nonp (List.replicate n (bv c)) = true
  | 0 => rfl
  | n + 1 => by rw [List.replicate_succ]; simp only [nonp, ones_rep]; first | rfl | (have := nonp_rep c n; simp_all [nonp, bv, AVal.scalar])
/-- so many bytes are there -/
def rp (c : UInt8) (k j : Nat) : AVal := if j < k then bv c else .jk
theorem jks_range : ∀ n, jks n = (List.range n).map (rp 48 0) := fun n => by
  refine List.ext_getElem? fun i => ?_
  rcases Nat.lt_or_ge i n with hi | hi
  · have h1 : i < (jks n).length := by rw [jks_length]; exact hi
    rw [List.getElem?_eq_getElem h1, jks_get n i _ (List.getElem?_eq_getElem h1)]
    simp [rp, hi]
  · rw [List.getElem?_eq_none (by rw [jks_length]; exact hi), List.getElem?_eq_none (by simp; exact hi)]
section
variable {ro : List ABlk} {h : Heap}
/-- the first copy -/
theorem cpy_first {hp : Heap} {b b0 n l p : Nat} {c c2 : Cap} {blk0 : ABlk} (hn : 1 ≤ n) (hl : l ≤ b) (a : HB hp b ((List.range n).map (rp 48 0))) (hz : lget hp b0 = some (some blk0)) (hg : blk0.g = some (.fz [48])) :
    ∃ hp', stepM ro ⟨hp, l, p⟩ (.cpy 1 (.c (.sl ⟨false, b, 0⟩ n c)) (.c (.sl ⟨false, b0, 0⟩ 1 c2))) = some (.i .i64 1, ⟨hp', l, p⟩) ∧ HB hp' b ((List.range n).map (rp 48 1)) ∧ hp'.length = hp.length ∧ ∀ i, i ≠ b → hp'[i]? = hp[i]? := by
  obtain ⟨hp', w1, w2, w3, w4⟩ := a.wr (off := 0) (vs := [bv 48]) (g := rp 48 1) (by simp; omega) rfl (fun j hj => by
    unfold rp
    by_cases e : j < 1
    · obtain rfl : j = 0 := by omega
      simp
    · rw [if_neg e, if_neg (by simp; omega), if_neg (by omega)])
  refine ⟨hp', ?_, w2, w3, w4⟩
  have e1 : min 1 n = 1 := by omega
  have e2 : fzB hp ⟨false, b0, 0⟩ = some [48] := by simp only [fzB, hz, hg]
  have e3 : (([48] : List UInt8).take 1).map (fun b => mkI .u8 (b.toNat : Int)) = [bv 48] := by simp [bv, mkI_eq]
  have e4 : (Nat.beq 1 1 && Nat.ble 1 ([48] : List UInt8).length) = true := rfl
  have e5 : nonp [bv 48] = true := rfl
  simp only [stepM, stepK, opd, st_cpy, e2, st_cpyF, e1, e4, e3, w1, e5, cond_true, St.mm, Nat.min_eq_left hl]
  rw [mkI_eq]; rfl
/-- the next one -/
theorem cpy_next {hp : Heap} {b k n l p : Nat} {c c2 : Cap} (hk : 1 ≤ k) (hkn : k < n) (hl : l ≤ b) (a : HB hp b ((List.range n).map (rp 48 k))) :
    ∃ hp', stepM ro ⟨hp, l, p⟩ (.cpy 1 (.c (.sl ⟨false, b, k⟩ (n - k) c)) (.c (.sl ⟨false, b, 0⟩ (min k n) c2))) = some (.i .i64 ((min k (n - k) : Nat) : Int), ⟨hp', l, p⟩) ∧ HB hp' b ((List.range n).map (rp 48 (k + min k (n - k)))) ∧ hp'.length = hp.length ∧ ∀ i, i ≠ b → hp'[i]? = hp[i]? := by
  obtain ⟨m, hm⟩ : ∃ m, m = min k (n - k) := ⟨_, rfl⟩
  have hm2 : min (min k n) (n - k) = m := by omega
  obtain ⟨hp', w1, w2, w3, w4⟩ := a.wr (off := k) (vs := List.replicate m (bv 48)) (g := rp 48 (k + m)) (by simp; omega) (ones_rep 48 m) (fun j hj => by
    unfold rp
    rw [List.length_replicate]
    by_cases e : k ≤ j ∧ j < k + m
    · rw [if_pos e.2, if_pos e]
      simp [List.getD, show j - k < m by omega]
    · rw [if_neg e]
      by_cases e2 : j < k
      · rw [if_pos e2, if_pos (by omega)]
      · rw [if_neg e2, if_neg (by omega)])
  refine ⟨hp', ?_, by rw [← hm]; exact w2, w3, w4⟩
  obtain ⟨blk, b1, b2, b3, b4⟩ := a
  have hlen : ((List.range n).map (rp 48 k)).length = n := by simp
  rw [hlen] at b3 b4
  have e2 : fzB hp ⟨false, b, 0⟩ = none := by simp only [fzB, b1, b2]
  have e3 : rdB ro hp ⟨false, b, 0⟩ = some blk := rdB_heap b1 0
  have e4 : Nat.ble (0 + m * 1) blk.n = true := by rw [Nat.ble_eq]; omega
  have e5 : blk.c.row 0 (m * 1) = List.replicate m (bv 48) := by
    refine row_row (m * 1) 0 _ (by simp) fun j hj => ?_
    have hj' : j < m := by omega
    rw [Nat.zero_add, b4 j (by omega), getD_map_range _ _ (by omega)]
    simp [rp, List.getD, hj', show j < k by omega]
  simp only [stepM, stepK, opd, st_cpy, e2, e3, hm2, e4, e5, w1, nonp_rep, cond_true, St.mm, Nat.min_eq_left hl, mkI_eq]
  rw [← hm]
/-- the upper word of a product -/
def mulHi (x0 x1 : Int) : Int :=
  let x15 := bitV .and .u64 x0 4294967295
  let x17 := shrV .u64 x0 32
  let x19 := bitV .and .u64 x1 4294967295
  let x21 := shrV .u64 x1 32
  let x24 := wr .u64 (x15 * x19)
  let x27 := wr .u64 (x17 * x19)
  let x29 := shrV .u64 x24 32
  let x30 := wr .u64 (x27 + x29)
  let x32 := bitV .and .u64 x30 4294967295
  let x34 := shrV .u64 x30 32
  let x38 := wr .u64 (x15 * x21)
  let x39 := wr .u64 (x32 + x38)
  let x42 := wr .u64 (x17 * x21)
  let x44 := wr .u64 (x42 + x34)
  let x46 := shrV .u64 x39 32
  wr .u64 (x44 + x46)
theorem mulHi_all : ∀ n : Nat, n < 101 → mulHi 1 (n : Int) = 0 := by decide +kernel
theorem wr_u64_one : ∀ n : Nat, n < 101 → wr .u64 (1 * (n : Int)) = (n : Int) := by decide +kernel
theorem wr_u64 : ∀ n : Nat, n < 101 → wr .u64 (n : Int) = (n : Int) := by decide +kernel
theorem mul78 {n : Nat} (hn : n ≤ 100) : callX F1 ro 78 [.i .u64 1, .i .u64 (n : Int)] h = some (.tup [.i .u64 0, .i .u64 (n : Int)], h, h.length, h.length) := by
  have h86 : callX F1 ro 86 [.i .u64 1, .i .u64 (n : Int)] h = some (.tup [.i .u64 0, .i .u64 (n : Int)], h, h.length, h.length) := by
    refine g86_ok (meansX_ok F1 ro) rfl ?_
    unfold g86
    have e := mulHi_all n (by omega)
    simp only [mulHi] at e
    simp only [fI', e, wr_u64_one n (by omega), tA2]
    exact fin_pure rfl
  refine g78_ok (meansX_ok F1 ro) rfl ?_
  unfold g78
  simp only [mC, cp0 h86, pS, x0, x1, oS, iS, tA2]
  exact fin_pure rfl
theorem len_sl {q : Vm.Loc} {n : Nat} {c : Cap} : evP .e (.len false (.c (.sl q n c))) = some (.i .i64 (n : Int)) := by
  simp only [evP, ev_len, opd, cond_false, mkI_eq]
/-- cuts of bytes -/
theorem cut_full {b n : Nat} : evP .e (.slS 1 (.c (.sl ⟨false, b, 0⟩ n .grow)) none (some (.c (.i .i64 (n : Int)))) (some (.c (.i .i64 (n : Int))))) = some (.sl ⟨false, b, 0⟩ n (.known n)) := by
  have e : ((n : Nat) : Int) = Int.ofNat n := rfl
  have e1 : Nat.ble n n = true := by rw [Nat.ble_eq]; exact Nat.le_refl _
  have e2 : (Nat.blt 0 n || Nat.beq 0 0) = true := by simp
  simp only [evP, ev_slS, opd, e, sl_mx, capLe, sbound, e1, cond_true, e2, Option.map_none, Nat.zero_mul, Nat.add_zero, Nat.sub_zero]
theorem cut_hi {b n k : Nat} (hk : k ≤ n) : evP .e (.slS 1 (.c (.sl ⟨false, b, 0⟩ n (.known n))) none (some (.c (.i .i64 (k : Int)))) none) = some (.sl ⟨false, b, 0⟩ k (.known n)) := by
  have e : ((k : Nat) : Int) = Int.ofNat k := rfl
  have e1 : Nat.ble k n = true := by rw [Nat.ble_eq]; exact hk
  simp only [evP, ev_slS, opd, e, sl_lh, capB, sbound, e1, cond_true, Option.map_none, Option.map_some]
theorem cut_lo {b n k : Nat} (h1 : 1 ≤ k) (hk : k < n) : evP .e (.slS 1 (.c (.sl ⟨false, b, 0⟩ n (.known n))) (some (.c (.i .i64 (k : Int)))) none none) = some (.sl ⟨false, b, k⟩ (n - k) (.known (n - k))) := by
  obtain ⟨q, rfl⟩ : ∃ q, k = q + 1 := ⟨k - 1, by omega⟩
  have e : ((q + 1 : Nat) : Int) = Int.ofNat (q + 1) := rfl
  have e1 : Nat.ble (q + 1) n = true := by rw [Nat.ble_eq]; omega
  have e2 : Nat.blt (q + 1) n = true := by rw [Nat.blt_eq]; exact hk
  simp only [evP, ev_slS, opd, e, sl_lh, capB, sbound, e1, e2, cond_true, Option.map_none, Option.map_some, Nat.zero_add, Nat.mul_one]
/-- zeros, as many as one likes -/
theorem repeat73 {hp : Heap} {b0 n : Nat} {c2 : Cap} {blk0 : ABlk} (h1 : 1 ≤ n) (h2 : n ≤ 100) (hz : lget hp b0 = some (some blk0)) (hg : blk0.g = some (.fz [48])) :
    ∃ H, callX F1 ro 73 [.sl ⟨false, b0, 0⟩ 1 c2, .i .i64 (n : Int)] hp = some (.sl ⟨false, hp.length, 0⟩ n (.known n), H, hp.length, hp.length) ∧ Keep hp H ∧ H.length = hp.length + 1 ∧ HB H hp.length ((List.range n).map (rp 48 n)) := by
  obtain ⟨hp1, e1⟩ : ∃ hp1, hp1 = hp ++ [some (blkOf 5 (jks n))] := ⟨_, rfl⟩
  have hb0 : b0 < hp.length := lget_lt hz
  have hz1 : lget hp1 b0 = some (some blk0) := by rw [e1]; exact lget_ext hz _
  have hl1 : hp1.length = hp.length + 1 := by rw [e1]; simp
  have a0 : HB hp1 hp.length ((List.range n).map (rp 48 0)) := by rw [e1, ← jks_range]; exact HB.new _ _ _
  obtain ⟨hp2, c1, a1, l2, k2⟩ := cpy_first (ro := ro) (l := hp.length) (p := hp.length) (c := .known n) (c2 := c2) h1 (Nat.le_refl _) a0 hz1 hg
  have kp2 : Keep hp hp2 := ⟨by omega, fun i hi => by rw [k2 i (by omega), e1, List.getElem?_append_left hi]⟩
  have key : ∃ r, loopX (fun s : Int × Mm => g73_b3 (meansX F1 ro) ro (n : Int) (n : Int) (.sl ⟨false, hp.length, 0⟩ n (.known n)) s.1 s.2) (1, ⟨hp2, hp.length, hp.length⟩) = some r ∧ ∃ H, r = ⟨H, hp.length, hp.length⟩ ∧ Keep hp H ∧ H.length = hp.length + 1 ∧ HB H hp.length ((List.range n).map (rp 48 n)) := by
    refine loop_exit (n - 1) (fun i s => ∃ (k : Nat) (H : Heap), s = ((k : Int), ⟨H, hp.length, hp.length⟩) ∧ i + 1 ≤ k ∧ k ≤ n ∧ Keep hp H ∧ H.length = hp.length + 1 ∧ HB H hp.length ((List.range n).map (rp 48 k))) _ ?_ ?_ (n - 1) 0 _ (by omega) ⟨1, hp2, rfl, by omega, h1, kp2, by omega, a1⟩
    · rintro i s hi ⟨k, H, rfl, k1, k3, kp, hl, a⟩
      rcases Nat.lt_or_ge k n with hk | hk
      · refine .inl ?_
        obtain ⟨H', c3, a3, l3, k4⟩ := cpy_next (ro := ro) (l := hp.length) (p := hp.length) (c := .known (n - k)) (c2 := .known n) (by omega : 1 ≤ k) hk (Nat.le_refl _) a
        have e3 : mxV false (k : Int) (n : Int) = ((min k n : Nat) : Int) := mxF
        have e4 : wr .i64 ((k : Int) + ((min k (n - k) : Nat) : Int)) = ((k + min k (n - k) : Nat) : Int) := by rw [wr_id' (by omega) (by omega)]; omega
        refine ⟨_, (by simp only [g73_b3, fB, ltT (show (k : Int) < (n : Int) by omega), cT, fI', e3, cut_lo (b := hp.length) (by omega : 1 ≤ k) hk, cut_hi (b := hp.length) (show min k n ≤ n by omega), oS, c3, pS, iS, e4] <;> rfl), k + min k (n - k), H', rfl, by omega, by omega, ⟨by omega, fun j hj => by rw [k4 j (by omega), kp.2 j hj]⟩, by omega, a3⟩
      · obtain rfl : k = n := by omega
        refine .inr ⟨_, (by simp only [g73_b3, fB, ltF (Int.lt_irrefl _), cF] <;> rfl), H, rfl, kp, hl, a⟩
    · rintro s ⟨k, H, rfl, k1, k3, kp, hl, a⟩
      obtain rfl : k = n := by omega
      exact ⟨_, (by simp only [g73_b3, fB, ltF (Int.lt_irrefl _), cF] <;> rfl), H, rfl, kp, hl, a⟩
  obtain ⟨r, f1, H, rfl, kp, hl, a⟩ := key
  refine ⟨H, g73_ok (meansX_ok F1 ro) rfl ?_, kp, hl, a⟩
  unfold g73
  have w1 : wr .u64 1 = 1 := wr_u64 1 (by omega)
  have w2 : wr .i64 (n : Int) = (n : Int) := lt64 (by omega)
  have e0 : evP .e (.len false (.c (.sl ⟨false, b0, 0⟩ 1 c2))) = some (.i .i64 1) := len_sl
  have m1 : stepM ro ⟨hp, hp.length, hp.length⟩ (.mnz 5 (.c (.i .i64 (n : Int)))) = some (.sl ⟨false, hp.length, 0⟩ n .grow, ⟨hp1, hp.length, hp.length⟩) := by
    have e : ((n : Nat) : Int) = Int.ofNat n := rfl
    have e2 : Nat.ble n 281474976710656 = true := by rw [Nat.ble_eq]; omega
    simp only [stepM, stepK, opd, e, st_mnz, e2, cond_true, newB, St.mm, e1]
  simp only [fB, eqI_ne (show (n : Int) ≠ 0 by omega), cF, ltF (show ¬ (n : Int) < 0 by omega), e0, oS, iS, fI', w1, wr_u64 n (by omega), mC, cp0 (mul78 (ro := ro) (h := hp) h2), pS, x0, x1, ltF (show ¬ (0 : Int) < 0 by decide), ltF (show ¬ (9223372036854775807 : Int) < (n : Int) by omega), w2, eqI_ne (show (1 : Int) ≠ 0 by decide), ltF (show ¬ (8192 : Int) < (n : Int) by omega), m1, cut_full, c1, meansX_loop, f1, tA]
  obtain ⟨H', g1, g2, g3⟩ := fin_any (h := hp) (H := H) (w := .sl ⟨false, hp.length, 0⟩ n (.known n)) kp
  have hbel : (AVal.sl ⟨false, hp.length, 0⟩ n (.known n)).bel hp.length = false := by
    have hlt : Nat.blt hp.length hp.length = false := by
      cases h : Nat.blt hp.length hp.length
      · rfl
      · rw [Nat.blt_eq] at h; omega
    simp [AVal.bel, hlt]
  rw [g3 hbel] at g1
  exact g1
end
end Go.Proofs.Ytobmcofkcfifkaa.T

/- The program's word of a number. -/
open Go.Vm
set_option linter.unusedVariables false
namespace Go.Proofs.Ytobmcofkcfifkaa.T
open Go

/-- the digits of a number whose greatest part has the index f -/
def dg (l : List Nat) (i : Nat) : UInt8 := if i ∈ l then 49 else 48
def wd (f : Nat) (l : List Nat) : List UInt8 := (List.range (f - 1)).map fun p => dg l (f - p)
def word (n : Nat) : List UInt8 := if n = 0 then [48] else wd ((zk n).getD 0 0) (zk n)
theorem wd_len (f : Nat) (l : List Nat) : (wd f l).length = f - 1 := by simp [wd]
section
variable {ro : List ABlk} {h : Heap}
/-- bytes as a string -/
theorem bytesA_ok : ∀ l : List UInt8, bytesA (l.map bv) = some l
  | [] => rfl
  | c :: l => by
    have h1 : Nat.blt c.toNat 256 = true := by rw [Nat.blt_eq]; exact c.toNat_lt
    have h2 : UInt8.ofNat c.toNat = c := by simp
    show bytesA (AVal.i .u8 (Int.ofNat c.toNat) :: l.map bv) = _
    simp only [bytesA, h1, cond_true, bytesA_ok l, h2, Option.map_some]
theorem bts_ok {hp : Heap} {b l p : Nat} {c : Cap} {bs : List UInt8} (a : HB hp b (bs.map bv)) : btsM ro ⟨hp, l, p⟩ (.sl ⟨false, b, 0⟩ bs.length c) = some (.s bs) := by
  obtain ⟨blk, h1, h2, h3, h4⟩ := a
  rw [List.length_map] at h3 h4
  have e1 : rdB ro hp ⟨false, b, 0⟩ = some blk := rdB_heap h1 0
  have e2 : Nat.ble (0 + bs.length) blk.n = true := by rw [Nat.ble_eq]; omega
  have e3 : blk.c.row 0 bs.length = bs.map bv := row_row bs.length 0 _ (by simp) fun j hj => by rw [Nat.zero_add]; exact h4 j hj
  simp only [btsM, st_bts, Mm.st, e1, e2, cond_true, e3, bytesA_ok, Option.map_some]
/-- one byte is written -/
theorem HB.st1 {hp : Heap} {b k n l p : Nat} {f g : Nat → AVal} {c : UInt8} (a : HB hp b ((List.range n).map f)) (hk : k < n) (hl : l ≤ b) (hg : ∀ j, j < n → g j = if j = k then bv c else f j) :
    ∃ hp', stepM ro ⟨hp, l, p⟩ (.st 1 (.c (.p (some ⟨false, b, 0 + k⟩))) (.c (bv c))) = some (und, ⟨hp', l, p⟩) ∧ writesM ro [] [(⟨false, b, 0 + k⟩, AVal.cells (bv c))] ⟨hp, l, p⟩ = some ⟨hp', l, p⟩ ∧ HB hp' b ((List.range n).map g) ∧ hp'.length = hp.length ∧ ∀ i, i ≠ b → hp'[i]? = hp[i]? := by
  obtain ⟨blk, h1, h2, h3, h4⟩ := a
  have hlen : ∀ q : Nat → AVal, ((List.range n).map q).length = n := fun q => by simp
  rw [hlen] at h3 h4
  rw [Nat.zero_add]
  have s1 := st_heap (ro := ro) (l := l) (p := p) h1 (show k < blk.n by omega) (v := bv c) rfl rfl rfl
  have s2 := wr_heap (ro := ro) (l := l) (p := p) h1 (show k < blk.n by omega) (v := bv c) rfl rfl
  rw [Nat.min_eq_left hl] at s1 s2
  refine ⟨_, s1, s2, ⟨_, lget_set h1 _, h2, by rw [hlen]; exact h3, fun j hj => ?_⟩, by simp, fun i hi => List.getElem?_set_ne (Ne.symm hi)⟩
  rw [hlen] at hj
  rw [getD_map_range g und hj, hg j hj]
  show (blk.c.set k (bv c)).get j = _
  rw [get_set]
  by_cases e : k = j
  · rw [if_pos e, if_pos e.symm]
  · rw [if_neg e, if_neg (fun h => e h.symm), h4 j hj, getD_map_range f und hj]
theorem zk_first {n : Nat} (hn : n ≤ big) (h0 : 0 < n) : 2 ≤ (zk n).getD 0 0 ∧ (zk n).getD 0 0 ≤ 88 ∧ ∀ i ∈ zk n, i ≤ (zk n).getD 0 0 := by
  have hz := (zk_ok hn).1
  have hne := zk_ne hn h0
  cases hl : zk n with
  | nil => exact absurd hl hne
  | cons f l =>
    rw [hl] at hz
    obtain ⟨h1, h2, h3⟩ := hz
    refine ⟨h1, by show f ≤ 88; omega, fun i hi => ?_⟩
    rcases List.mem_cons.1 hi with rfl | hi
    · exact Nat.le_refl _
    · have := h3.mem hi; show i ≤ f; omega
/-- the digits so far -/
def dj (f : Nat) (l : List Nat) (j p : Nat) : AVal := bv (dg (l.take j) (f - p))
theorem dj_next {f j p : Nat} {l : List Nat} (hz : ∀ i ∈ l, 2 ≤ i ∧ i ≤ f) (hj : j < l.length) (hp : p < f - 1) : dj f l (j + 1) p = if p = f - l.getD j 0 then bv 49 else dj f l j p := by
  have hm : l.getD j 0 ∈ l := by
    have : l.getD j 0 = l[j] := by simp [List.getD, hj]
    rw [this]; exact List.getElem_mem hj
  obtain ⟨h1, h2⟩ := hz _ hm
  unfold dj dg
  rw [take_one hj]
  by_cases e : p = f - l.getD j 0
  · rw [if_pos e, if_pos (by rw [List.mem_append]; exact .inr (List.mem_singleton.2 (by omega)))]
  · rw [if_neg e]
    have : f - p ∈ l.take j ++ [l.getD j 0] ↔ f - p ∈ l.take j := by
      rw [List.mem_append]
      refine ⟨fun h => ?_, .inl⟩
      rcases h with h | h
      · exact h
      · simp only [List.mem_singleton] at h; omega
    simp only [this]
theorem dj_all (f : Nat) (l : List Nat) : (List.range (f - 1)).map (dj f l l.length) = (wd f l).map bv := by
  simp only [wd, List.map_map]
  refine List.map_congr_left fun p _ => ?_
  simp [dj]
theorem dj_zero (f : Nat) (l : List Nat) (n : Nat) : (List.range n).map (dj f l 0) = (List.range n).map (rp 48 n) := by
  refine List.map_congr_left fun p hp => ?_
  have := List.mem_range.1 hp
  simp [dj, dg, rp, this]
/-- the program's word -/
theorem written52 {n : Nat} (hn : n ≤ big) : callX F1 ro 52 [.i .i64 (n : Int)] h = some (.s (word n), h, h.length, h.length) := by
  refine g52_ok (meansX_ok F1 ro) rfl ?_
  unfold g52 word
  rcases Nat.eq_zero_or_pos n with rfl | h0
  · have e : eqI ((0 : Nat) : Int) 0 = true := rfl
    simp only [fB, e, cT, tA, if_true]
    exact fin_pure rfl
  rw [if_neg (by omega)]
  obtain ⟨v, H, c1, kp, hv⟩ := parts60 (ro := ro) (h := h) hn
  obtain ⟨f1, f2, f3⟩ := zk_first hn h0
  have hlen := zk_len hn
  have hpos : 0 < (zk n).length := List.length_pos_iff.2 (zk_ne hn h0)
  obtain ⟨f, hf⟩ : ∃ f, f = (zk n).getD 0 0 := ⟨_, rfl⟩
  rw [← hf] at f1 f2 f3 ⊢
  obtain ⟨p0, g1, g2, -⟩ := at_row (m := ⟨H, h.length, h.length⟩) rfl hv (show 0 < (nts (zk n)).length by rw [nts_len]; exact hpos)
  rw [nts_get hpos, ← hf] at g2
  have e0 : ((0 : Nat) : Int) = 0 := rfl
  rw [e0] at g1
  have e1 : wr .i64 ((f : Int) - 2) = ((f - 2 : Nat) : Int) := by rw [wr_id' (by omega) (by omega)]; omega
  have e2 : wr .i64 (((f - 2 : Nat) : Int) + 1) = ((f - 1 : Nat) : Int) := by rw [wr_id' (by omega) (by omega)]; omega
  -- the byte that is repeated
  have m1 : stepM ro ⟨H, h.length, h.length⟩ (.bsl 5 1 [(AVal.i IntKind.u8 0)] 1 [((0, 1), .c (.i .u8 48))]) = some (.sl ⟨false, H.length, 0⟩ 1 (.known 1), ⟨H ++ [some (blkOf 5 [.i .u8 48])], h.length, h.length⟩) := rfl
  obtain ⟨H1, hH1⟩ : ∃ H1, H1 = (H ++ [some (blkOf 5 [.i .u8 48])]).set H.length (some { e := 5, n := 0, c := .e, g := some (.fz [48]) }) := ⟨_, rfl⟩
  have hlH1 : H1.length = H.length + 1 := by rw [hH1]; simp
  have m2 : stepM ro ⟨H ++ [some (blkOf 5 [.i .u8 48])], h.length, h.length⟩ (.mks (.c (.sl ⟨false, H.length, 0⟩ 1 (.known 1)))) = some (.sl ⟨false, H.length, 0⟩ 1 (.known 1), ⟨H1, h.length, h.length⟩) := by
    have b1 : lget (H ++ [some (blkOf 5 [.i .u8 48])]) H.length = some (some (blkOf 5 [.i .u8 48])) := lget_last _ _
    have b2 : (blkOf 5 [.i .u8 48]).g = none := rfl
    have b3 : bytesA ((blkOf 5 [.i .u8 48]).c.row 0 1) = some [48] := by decide +kernel
    have b4 : (Nat.blt 0 1 && Nat.ble 1 (blkOf 5 [.i .u8 48]).n) = true := rfl
    simp only [stepM, stepK, opd, st_mks, b1, b2, b3, b4, cond_true, lset_eq, St.mm, Nat.min_eq_left kp.1, hH1]
    rfl
  have hz : lget H1 H.length = some (some { e := 5, n := 0, c := .e, g := some (.fz [48]) }) := by rw [hH1]; exact lget_set (lget_last _ _) _
  have kp1 : Keep h H1 := ⟨by have := kp.1; omega, fun i hi => by
    have := kp.1
    rw [hH1, List.getElem?_set_ne (by omega), List.getElem?_append_left (by omega), kp.2 i hi]⟩
  have hv1 : IsRow ro H1 v (nts (zk n)) := by
    refine row_by hv ⟨by omega, fun i hi => ?_⟩
    rw [hH1, List.getElem?_set_ne (by omega), List.getElem?_append_left hi]
  obtain ⟨H2, c2, kp2, l2, a2⟩ := repeat73 (ro := ro) (hp := H1) (b0 := H.length) (n := f - 1) (c2 := .known 1) (by omega) (by omega) hz rfl
  have kp3 := kp1.trans kp2
  have hv2 := row_by hv1 kp2
  rw [← dj_zero f (zk n)] at a2
  have hbl : h.length ≤ H1.length := kp1.1
  have hmem : ∀ i ∈ zk n, 2 ≤ i ∧ i ≤ f := fun i hi => ⟨((zk_ok hn).1.mem hi).1, f3 i hi⟩
  have key : ∃ r, loopX (fun s : Int × Mm => g52_b0 (meansX F1 ro) ro (f : Int) (.sl ⟨false, H1.length, 0⟩ (f - 1) (.known (f - 1))) v ((zk n).length : Int) s.1 s.2) (0, ⟨H2, h.length, h.length⟩) = some r ∧ ∃ K, r = ⟨K, h.length, h.length⟩ ∧ Keep h K ∧ HB K H1.length ((List.range (f - 1)).map (dj f (zk n) (zk n).length)) := by
    refine loop_gen (zk n).length (fun j s => ∃ K, s = ((j : Int), ⟨K, h.length, h.length⟩) ∧ Keep H1 K ∧ HB K H1.length ((List.range (f - 1)).map (dj f (zk n) j))) _ ?_ ?_ (zk n).length 0 _ (by omega) ⟨H2, rfl, kp2, a2⟩
    · rintro j s hj ⟨K, rfl, kq, a⟩
      obtain ⟨p, q1, q2, -⟩ := at_row (m := ⟨K, h.length, h.length⟩) rfl (row_by hv1 kq) (show j < (nts (zk n)).length by rw [nts_len]; exact hj)
      rw [nts_get hj] at q2
      obtain ⟨i1, i2⟩ := hmem _ (zk_mem hj)
      obtain ⟨x, hx⟩ : ∃ x, x = f - (zk n).getD j 0 := ⟨_, rfl⟩
      have e3 : wr .i64 ((f : Int) - (((zk n).getD j 0 : Nat) : Int)) = (x : Int) := by rw [wr_id' (by omega) (by omega)]; omega
      obtain ⟨K', s1, -, a', l', k'⟩ := a.st1 (ro := ro) (l := h.length) (p := h.length) (g := dj f (zk n) (j + 1)) (c := 49) (show x < f - 1 by omega) hbl (fun t ht => by rw [dj_next hmem hj ht, hx])
      have s1' : stepM ro ⟨K, h.length, h.length⟩ (.st 1 (.c (.p (some ⟨false, H1.length, 0 + x⟩))) (.c (.i .u8 49))) = some (und, ⟨K', h.length, h.length⟩) := s1
      refine ⟨_, (by simp only [g52_b0, fB, ltT (show (j : Int) < ((zk n).length : Int) by omega), cT, q1, oS, q2, iS, fI', e3, ixS_eq (show x < f - 1 by omega), s1', pS, wr_next (show j ≤ 1000000 by omega)] <;> rfl), K', rfl, ⟨by have := kq.1; omega, fun i hi => by rw [k' i (by omega), kq.2 i hi]⟩, a'⟩
    · rintro s ⟨K, rfl, kq, a⟩
      exact ⟨_, (by simp only [g52_b0, fB, ltF (Int.lt_irrefl _), cF] <;> rfl), K, rfl, kp1.trans kq, a⟩
  obtain ⟨r, q1, K, rfl, kq, a⟩ := key
  rw [dj_all] at a
  have q3 := bts_ok (ro := ro) (l := h.length) (p := h.length) (c := .known (f - 1)) a
  rw [wd_len] at q3
  simp only [fB, eqI_ne (show (n : Int) ≠ 0 by omega), cF, mC, cM c1 (Nat.le_refl _) (Nat.le_refl _), pS, g1, oS, g2, iS, m1, m2, fI', e1, e2, cM c2 hbl hbl, len_row hv2, nts_len, meansX_loop, q1, q3, sS, tA]
  exact fin_keep kq rfl
end
end Go.Proofs.Ytobmcofkcfifkaa.T

/- Write; words of shifted numbers. -/
open Go.Vm
set_option linter.unusedVariables false
namespace Go.Proofs.Ytobmcofkcfifkaa.T
open Go

section
variable {ro : List ABlk} {h : Heap}
theorem eqL_dec (a b : List UInt8) : eqL a b = decide (a = b) := by
  by_cases e : a = b
  · rw [decide_eq_true e]; exact (eqL_iff a b).2 e
  · rw [decide_eq_false e]
    cases h : eqL a b
    · rfl
    · exact absurd ((eqL_iff a b).1 h) e
theorem str_eq (a b : List UInt8) : evP .e (.sbin BinOp.eql (.c (.s a)) (.c (.s b))) = some (.b (decide (a = b))) := by
  simp only [evP, ev_sbin, opd, sOp, eqL_dec]
end
/- shifted lists -/
theorem Zk.up (a : Nat) : ∀ {l : List Nat} {t : Nat}, Zk t l → Zk (t + a) (l.map (· + a))
  | [], _, _ => trivial
  | i :: l, t, ⟨h1, h2, h3⟩ => by
    have := Zk.up a h3
    rw [show i - 1 + a = i + a - 1 by omega] at this
    refine ⟨?_, ?_, this⟩
    · show 2 ≤ i + a; omega
    · show i + a < t + a; omega
end Go.Proofs.Ytobmcofkcfifkaa.T

/- The law of shifts. -/
open Go.Vm
set_option linter.unusedVariables false
namespace Go.Proofs.Ytobmcofkcfifkaa.T
open Go

theorem word_len {n : Nat} (hn : n ≤ big) : (word n).length ≤ 87 := by
  unfold word
  rcases Nat.eq_zero_or_pos n with h | h
  · rw [if_pos h]; decide
  · rw [if_neg (by omega), wd_len]
    have := (zk_first hn h).2.1
    omega
section
variable {ro : List ABlk} {h : Heap}
end
end Go.Proofs.Ytobmcofkcfifkaa.T

/- The law of the array. -/
open Go.Vm
set_option linter.unusedVariables false
namespace Go.Proofs.Ytobmcofkcfifkaa.T
open Go

section
variable {ro : List ABlk} {h : Heap}
end
end Go.Proofs.Ytobmcofkcfifkaa.T

/- Strings, rune by rune; is it a word? -/
open Go.Vm
set_option linter.unusedVariables false
namespace Go.Proofs.Ytobmcofkcfifkaa.T
open Go

section
variable {ro : List ABlk} {h : Heap}
/- words -/
def okD (s : List UInt8) (i : Nat) : Prop := (s.getD i 0 = 48 ∨ s.getD i 0 = 49) ∧ ¬ (s.getD i 0 = 49 ∧ 0 < i ∧ s.getD (i - 1) 0 = 49)
instance (s : List UInt8) (i : Nat) : Decidable (okD s i) := inferInstanceAs (Decidable (_ ∧ _))
def isW (s : List UInt8) : Prop := (∀ i, i < s.length → okD s i) ∧ (s = [48] ∨ s.take 1 = [49])
instance (s : List UInt8) : Decidable (isW s) := inferInstanceAs (Decidable (_ ∧ _))
end
end Go.Proofs.Ytobmcofkcfifkaa.T

/- Digits: their sums, by the program and by the reference. -/
open Go.Vm
set_option linter.unusedVariables false
namespace Go.Proofs.Ytobmcofkcfifkaa.T
open Go

/- digits -/
def isD (s : List UInt8) : Prop := ∀ i, i < s.length → 48 ≤ (s.getD i 0).toNat ∧ (s.getD i 0).toNat ≤ 57
instance (s : List UInt8) : Decidable (isD s) := inferInstanceAs (Decidable (∀ i, i < s.length → _))
/-- the sum of the first ones -/
def pv (s : List UInt8) : Nat → Nat
  | 0 => 0
  | j + 1 => pv s j + ((s.getD j 0).toNat - 48) * fb (s.length + 1 - j)
section
variable {ro : List ABlk} {h : Heap}
theorem len_s (l : List UInt8) : evP .e (.len true (.c (.s l))) = some (.i .i64 (l.length : Int)) := by simp only [evP, ev_len, opd, cond_true, mkI_eq]
theorem ix_s {s : List UInt8} {i : Nat} (hi : i < s.length) : evP .e (.ixStr (.c (.s s)) (.c (.i .i64 (i : Int)))) = some (.i .u8 ((s.getD i 0).toNat : Int)) := by
  have e : ((i : Nat) : Int) = Int.ofNat i := rfl
  have e2 : lget s i = some (s.getD i 0) := by rw [lget_eq, List.getElem?_eq_getElem hi]; simp [List.getD, hi]
  simp only [evP, ev_ixStr, opd, e, e2, Option.map_some, mkI_eq]
end
end Go.Proofs.Ytobmcofkcfifkaa.T

/- Words, Read and Tidy, by the program and by the reference; their laws. -/
open Go.Vm
set_option linter.unusedVariables false
namespace Go.Proofs.Ytobmcofkcfifkaa.T
open Go

section
variable {ro : List ABlk} {h : Heap}
theorem rep_range (v : AVal) (n : Nat) : rep [v] n = (List.range n).map fun _ => v := by
  refine List.ext_getElem? fun i => ?_
  rcases Nat.lt_or_ge i n with hi | hi
  · have h1 : i < (rep [v] n).length := by rw [rep_len]; exact hi
    have h2 := rep_get v n i hi
    rw [List.getD_eq_getElem?_getD, List.getElem?_eq_getElem h1] at h2
    rw [List.getElem?_eq_getElem h1]
    simp only [Option.getD_some] at h2
    simp [h2, hi]
  · rw [List.getElem?_eq_none (by rw [rep_len]; exact hi), List.getElem?_eq_none (by simp; exact hi)]
theorem mkB {hp : Heap} {n l p : Nat} (hn : n ≤ 1000) : stepM ro ⟨hp, l, p⟩ (.mk 5 1 1 [(AVal.i IntKind.u8 0)] (.c (.i .i64 (n : Int))) (.c (.i .i64 (n : Int)))) = some (.sl ⟨false, hp.length, 0⟩ n (.known n), ⟨hp ++ [some (blkOf 5 (rep [AVal.i IntKind.u8 0] n))], l, p⟩) := by
  have e : ((n : Nat) : Int) = Int.ofNat n := rfl
  have e1 : (Nat.ble n n && Nat.ble n 1048576 && Nat.ble (n * 1) 281474976710656) = true := by
    simp only [Bool.and_eq_true, Nat.ble_eq]; omega
  simp only [stepM, stepK, opd, e, st_mk, e1, cond_true, newB, St.mm]
/-- zeros written so far -/
def zj (k j : Nat) : AVal := if j < k then bv 48 else .i .u8 0
/-- the reference's word -/
theorem word54 {n : Nat} (hn : n ≤ big) : callX F1 ro 54 [.i .i64 (n : Int)] h = some (.s (word n), h, h.length, h.length) := by
  obtain ⟨v, H, c1, kp, hv⟩ := parts64 (ro := ro) (h := h) hn
  have hlen := zk_len hn
  refine g54_ok (meansX_ok F1 ro) rfl ?_
  unfold g54 word
  simp only [mC, cM c1 (Nat.le_refl _) (Nat.le_refl _), pS, len_row hv, oS, iS, fB, nts_len]
  rcases Nat.eq_zero_or_pos n with rfl | h0
  · have e : (zk 0).length = 0 := by rw [show zk 0 = [] from gz_zero 88]; rfl
    rw [e]
    have e : eqI ((0 : Nat) : Int) 0 = true := rfl
    simp only [e, cT, tA, if_true]
    exact fin_keep kp rfl
  rw [if_neg (by omega)]
  obtain ⟨f1, f2, f3⟩ := zk_first hn h0
  have hpos : 0 < (zk n).length := List.length_pos_iff.2 (zk_ne hn h0)
  obtain ⟨f, hf⟩ : ∃ f, f = (zk n).getD 0 0 := ⟨_, rfl⟩
  rw [← hf] at f1 f2 f3 ⊢
  obtain ⟨p0, g1, g2, -⟩ := at_row (m := ⟨H, h.length, h.length⟩) rfl hv (show 0 < (nts (zk n)).length by rw [nts_len]; exact hpos)
  rw [nts_get hpos, ← hf] at g2
  have e0 : ((0 : Nat) : Int) = 0 := rfl
  rw [e0] at g1
  have e1 : wr .i64 ((f : Int) - 1) = ((f - 1 : Nat) : Int) := by rw [wr_id' (by omega) (by omega)]; omega
  have hmem : ∀ i ∈ zk n, 2 ≤ i ∧ i ≤ f := fun i hi => ⟨((zk_ok hn).1.mem hi).1, f3 i hi⟩
  have m1 := mkB (ro := ro) (hp := H) (n := f - 1) (l := h.length) (p := h.length) (by omega)
  obtain ⟨H1, hH1⟩ : ∃ H1, H1 = H ++ [some (blkOf 5 (rep [AVal.i IntKind.u8 0] (f - 1)))] := ⟨_, rfl⟩
  rw [← hH1] at m1
  have kpH : Keep H H1 := by rw [hH1]; exact Keep.app _
  have a1 : HB H1 H.length ((List.range (f - 1)).map (zj 0)) := by
    have e : (List.range (f - 1)).map (zj 0) = rep [AVal.i IntKind.u8 0] (f - 1) := by
      rw [rep_range]
      exact List.map_congr_left fun x _ => by simp [zj]
    rw [e, hH1]; exact HB.new _ _ _
  have hbl : h.length ≤ H.length := kp.1
  have key1 : ∃ r, loopX (fun s : Int × Mm => g54_b0 (meansX F1 ro) ro v (.sl ⟨false, H.length, 0⟩ (f - 1) (.known (f - 1))) s.1 s.2) (0, ⟨H1, h.length, h.length⟩) = some r ∧ ∃ K, r = ⟨K, h.length, h.length⟩ ∧ Keep H K ∧ HB K H.length ((List.range (f - 1)).map (dj f (zk n) 0)) := by
    refine loop_gen (f - 1) (fun j s => ∃ K, s = ((j : Int), ⟨K, h.length, h.length⟩) ∧ Keep H K ∧ HB K H.length ((List.range (f - 1)).map (zj j))) _ ?_ ?_ (f - 1) 0 _ (by omega) ⟨H1, rfl, kpH, a1⟩
    · rintro j s hj ⟨K, rfl, kq, a⟩
      obtain ⟨K', s1, -, a', l', k'⟩ := a.st1 (ro := ro) (l := h.length) (p := h.length) (g := zj (j + 1)) (c := 48) hj hbl (fun t ht => by
        unfold zj
        by_cases e : t = j
        · rw [if_pos e, if_pos (by omega)]
        · rw [if_neg e]
          by_cases e2 : t < j
          · rw [if_pos e2, if_pos (by omega)]
          · rw [if_neg e2, if_neg (by omega)])
      have s1' : stepM ro ⟨K, h.length, h.length⟩ (.st 1 (.c (.p (some ⟨false, H.length, 0 + j⟩))) (.c (.i .u8 48))) = some (und, ⟨K', h.length, h.length⟩) := s1
      refine ⟨_, (by simp only [g54_b0, len_sl, oS, iS, fB, ltT (show (j : Int) < ((f - 1 : Nat) : Int) by omega), cT, ixS_eq hj, s1', pS, fI', wr_next (show j ≤ 1000000 by omega)] <;> rfl), K', rfl, ⟨by have := kq.1; omega, fun i hi => by rw [k' i (by omega), kq.2 i hi]⟩, a'⟩
    · rintro s ⟨K, rfl, kq, a⟩
      refine ⟨_, (by simp only [g54_b0, len_sl, oS, iS, fB, ltF (Int.lt_irrefl _), cF] <;> rfl), K, rfl, kq, ?_⟩
      rw [dj_zero]
      have e : (List.range (f - 1)).map (rp 48 (f - 1)) = (List.range (f - 1)).map (zj (f - 1)) := List.map_congr_left fun x hx => by
        have := List.mem_range.1 hx
        simp [zj, rp, this]
      rw [e]; exact a
  obtain ⟨r1, q1, K1, rfl, kq1, b1⟩ := key1
  have key : ∃ r, loopX (fun s : Int × Mm => g54_b1 (meansX F1 ro) ro v (.sl ⟨false, H.length, 0⟩ (f - 1) (.known (f - 1))) s.1 s.2) (0, ⟨K1, h.length, h.length⟩) = some r ∧ ∃ K, r = ⟨K, h.length, h.length⟩ ∧ Keep h K ∧ HB K H.length ((List.range (f - 1)).map (dj f (zk n) (zk n).length)) := by
    refine loop_gen (zk n).length (fun j s => ∃ K, s = ((j : Int), ⟨K, h.length, h.length⟩) ∧ Keep H K ∧ HB K H.length ((List.range (f - 1)).map (dj f (zk n) j))) _ ?_ ?_ (zk n).length 0 _ (by omega) ⟨K1, rfl, kq1, b1⟩
    · rintro j s hj ⟨K, rfl, kq, a⟩
      have hvK := row_by hv kq
      obtain ⟨p, q1, -, q3⟩ := at_row (m := ⟨K, h.length, h.length⟩) rfl hvK (show j < (nts (zk n)).length by rw [nts_len]; exact hj)
      obtain ⟨p', t1, -, t3⟩ := at_row (m := ⟨K, h.length, h.length⟩) rfl hvK (show 0 < (nts (zk n)).length by rw [nts_len]; exact hpos)
      rw [e0] at t1
      rw [nts_get hj] at q3
      rw [nts_get hpos, ← hf] at t3
      obtain ⟨i1, i2⟩ := hmem _ (zk_mem hj)
      obtain ⟨x, hx⟩ : ∃ x, x = f - (zk n).getD j 0 := ⟨_, rfl⟩
      have e3 : wr .i64 ((f : Int) - (((zk n).getD j 0 : Nat) : Int)) = (x : Int) := by rw [wr_id' (by omega) (by omega)]; omega
      obtain ⟨K', -, s1, a', l', k'⟩ := a.st1 (ro := ro) (l := h.length) (p := h.length) (g := dj f (zk n) (j + 1)) (c := 49) (show x < f - 1 by omega) hbl (fun t ht => by rw [dj_next hmem hj ht, hx])
      have s1' : writesM ro [] [(⟨false, H.length, 0 + x⟩, AVal.cells (.i .u8 49))] ⟨K, h.length, h.length⟩ = some ⟨K', h.length, h.length⟩ := s1
      have asp : ∀ (q : Vm.Loc) (k : Vm.Loc → Option ((Int × Mm) ⊕ Mm)), asP (.p (some q)) k = k q := fun q k => rfl
      refine ⟨_, (by simp only [g54_b1, len_row hvK, nts_len, oS, iS, fB, ltT (show (j : Int) < ((zk n).length : Int) by omega), cT, t1, t3, q1, q3, fI', e3, ixS_eq (show x < f - 1 by omega), asp, s1', wr_next (show j ≤ 1000000 by omega)] <;> rfl), K', rfl, ⟨by have := kq.1; omega, fun i hi => by rw [k' i (by omega), kq.2 i hi]⟩, a'⟩
    · rintro s ⟨K, rfl, kq, a⟩
      exact ⟨_, (by simp only [g54_b1, len_row (row_by hv kq), nts_len, oS, iS, fB, ltF (Int.lt_irrefl _), cF] <;> rfl), K, rfl, kp.trans kq, a⟩
  obtain ⟨r, q2, K, rfl, kq, a⟩ := key
  rw [dj_all] at a
  have q3 := bts_ok (ro := ro) (l := h.length) (p := h.length) (c := .known (f - 1)) a
  rw [wd_len] at q3
  simp only [eqI_ne (show ((zk n).length : Int) ≠ 0 by omega), cF, g1, oS, g2, iS, fI', e1, m1, pS, meansX_loop, q1, q2, q3, sS, tA]
  exact fin_keep kq rfl
/- Read -/
/- Tidy -/
end
end Go.Proofs.Ytobmcofkcfifkaa.T

/- Words and their numbers: Zeckendorf's theorem. -/
open Go.Vm
set_option linter.unusedVariables false
namespace Go.Proofs.Ytobmcofkcfifkaa.T
open Go

/-- the digits of the indices from k + 1 down to 2 -/
def G : Nat → List Nat → List UInt8
  | 0, _ => []
  | k + 1, l => dg l (k + 2) :: G k l
/-- a list whose first index is k + 2, or all of it is lower -/
theorem Zk.top {k : Nat} {l : List Nat} (h : Zk (k + 3) l) : (∃ l', l = (k + 2) :: l' ∧ Zk (k + 1) l') ∨ Zk (k + 2) l := by
  cases l with
  | nil => exact .inr trivial
  | cons i l =>
    obtain ⟨h1, h2, h3⟩ := h
    by_cases e : i = k + 2
    · subst e; exact .inl ⟨l, rfl, h3⟩
    · exact .inr ⟨h1, by omega, h3⟩
/-- the indices of a word -/
def ix : List UInt8 → List Nat
  | [] => []
  | c :: r => if c = 49 then (r.length + 2) :: ix r else ix r
end Go.Proofs.Ytobmcofkcfifkaa.T

/- The law of Zeckendorf. -/
open Go.Vm
set_option linter.unusedVariables false
namespace Go.Proofs.Ytobmcofkcfifkaa.T
open Go

section
variable {ro : List ABlk} {h : Heap}
end
end Go.Proofs.Ytobmcofkcfifkaa.T

/- The law of tidied digits. -/
open Go.Vm
set_option linter.unusedVariables false
namespace Go.Proofs.Ytobmcofkcfifkaa.T
open Go

section
variable {ro : List ABlk} {h : Heap}
end
end Go.Proofs.Ytobmcofkcfifkaa.T

/- Wythoff's pairs. -/
open Go.Vm
set_option linter.unusedVariables false
namespace Go.Proofs.Ytobmcofkcfifkaa.T
open Go

/-- the parts one lower -/
def X (n : Nat) : Nat := sd (zk n)
theorem Zk.left : ∀ {l m : List Nat} {t : Nat}, Zk t (l ++ m) → Zk t l
  | [], _, _, _ => trivial
  | i :: l, m, t, ⟨h1, h2, h3⟩ => ⟨h1, h2, Zk.left h3⟩
/-- the smaller one of the pair k -/
def A (k : Nat) : Nat := if k = 0 then 0 else su 1 (zk (k - 1)) + 1
/-- the heap that makes a lost pair with another one -/
def P (n : Nat) : Nat := if n = 0 then 0 else if lp n % 2 = 0 then su 1 (zk n) else X n
end Go.Proofs.Ytobmcofkcfifkaa.T

/- Pair, Lost and Move, as the program answers. -/
open Go.Vm
set_option linter.unusedVariables false
namespace Go.Proofs.Ytobmcofkcfifkaa.T
open Go

section
variable {ro : List ABlk} {h : Heap}
end
end Go.Proofs.Ytobmcofkcfifkaa.T

/- Zeros at the end of a word. -/
open Go.Vm
set_option linter.unusedVariables false
namespace Go.Proofs.Ytobmcofkcfifkaa.T
open Go

section
variable {ro : List ABlk} {h : Heap}
/-- a word ends with the zeros below its least part -/
theorem word_end {n : Nat} (hn : n ≤ big) (h0 : 0 < n) : lp n - 2 < (word n).length ∧ (∀ i, i < lp n - 2 → (word n).getD ((word n).length - 1 - i) 0 = 48) ∧ (word n).getD ((word n).length - 1 - (lp n - 2)) 0 = 49 := by
  obtain ⟨f1, f2, f3⟩ := zk_first hn h0
  obtain ⟨l1, l2⟩ := lp_bd hn h0
  have hm : lp n ∈ zk n := by rw [zk_last hn h0]; simp
  have hlf := f3 _ hm
  have e : word n = wd ((zk n).getD 0 0) (zk n) := by unfold word; rw [if_neg (by omega)]
  have hz := (zk_ok hn).1
  rw [zk_last hn h0] at hz
  have hlow : ∀ i ∈ zk n, lp n ≤ i := fun i hi => by
    rw [zk_last hn h0] at hi
    rcases List.mem_append.1 hi with h | h
    · have := hz.snoc h; omega
    · simp only [List.mem_singleton] at h; omega
  rw [e, wd_len]
  generalize (zk n).getD 0 0 = f at *
  have hget : ∀ i, i < f - 1 → (wd f (zk n)).getD i 0 = dg (zk n) (f - i) := fun i hi => by
    unfold wd; exact getD_map_range _ _ hi
  refine ⟨by omega, fun i hi => ?_, ?_⟩
  · rw [hget _ (by omega)]
    unfold dg
    rw [if_neg fun hh => by have := hlow _ hh; omega]
  · rw [hget _ (by omega), show f - (f - 1 - 1 - (lp n - 2)) = lp n by omega]
    unfold dg
    rw [if_pos hm]
end
end Go.Proofs.Ytobmcofkcfifkaa.T

/- Wythoff -/
open Go.Vm
set_option linter.unusedVariables false
namespace Go.Proofs.Ytobmcofkcfifkaa.T
open Go

section
variable {ro : List ABlk} {h : Heap}
end
end Go.Proofs.Ytobmcofkcfifkaa.T

/- Sums: the three cells -/
open Go.Vm
set_option linter.unusedVariables false
namespace Go.Proofs.Ytobmcofkcfifkaa.T
open Go

/- in how many ways a number is a sum of different Fibonacci numbers -/
def bf : List Nat → Nat
  | [] => 1
  | i :: _ => i
def sv : List Nat → Nat × Nat
  | [] => (1, 0)
  | i :: l => ((sv l).1 + (sv l).2, (sv l).1 * ((i - bf l - 1) / 2) + (sv l).2 * ((i - bf l) / 2))
theorem bf_bd : ∀ {l : List Nat} {t : Nat}, Zk t l → 2 ≤ t → 1 ≤ bf l ∧ bf l < t
  | [], t, _, ht => ⟨Nat.le_refl _, ht⟩
  | i :: l, t, ⟨h1, h2, h3⟩, ht => ⟨by show 1 ≤ i; omega, h2⟩
theorem bf_tail : ∀ {l : List Nat} {i : Nat}, Zk (i - 1) l → 2 ≤ i → 1 ≤ bf l ∧ bf l < i
  | [], i, _, ht => ⟨Nat.le_refl _, ht⟩
  | j :: l, i, ⟨h1, h2, h3⟩, ht => ⟨by show 1 ≤ j; omega, by show j < i; omega⟩
theorem pow_half : ∀ x : Nat, 1 + x ≤ 2 ^ x
  | 0 => Nat.le_refl _
  | x + 1 => by have := pow_half x; rw [Nat.pow_succ]; omega
theorem sv_bd : ∀ {l : List Nat} {t : Nat}, Zk t l → (sv l).1 + (sv l).2 ≤ 2 ^ ((bf l - 1) / 2)
  | [], _, _ => Nat.le_refl _
  | i :: l, t, ⟨h1, h2, h3⟩ => by
    have ih := sv_bd h3
    obtain ⟨b1, b2⟩ := bf_tail h3 h1
    show (sv l).1 + (sv l).2 + ((sv l).1 * ((i - bf l - 1) / 2) + (sv l).2 * ((i - bf l) / 2)) ≤ 2 ^ ((i - 1) / 2)
    generalize (sv l).1 = w at *
    generalize (sv l).2 = s at *
    generalize hg : (i - bf l) / 2 = q
    have e1 : w * ((i - bf l - 1) / 2) ≤ w * q := Nat.mul_le_mul_left _ (by omega)
    have e2 : (w + s) * (1 + q) = w + s + (w * q + s * q) := by rw [Nat.mul_add, Nat.mul_one, Nat.add_mul]
    have e3 : (w + s) * (1 + q) ≤ 2 ^ ((bf l - 1) / 2) * 2 ^ q := Nat.mul_le_mul ih (pow_half q)
    rw [← Nat.pow_add] at e3
    have e4 : 2 ^ ((bf l - 1) / 2 + q) ≤ 2 ^ ((i - 1) / 2) := Nat.pow_le_pow_right (by omega) (by omega)
    omega
def sumsN (n : Nat) : Nat := (sv (zk n)).1 + (sv (zk n)).2
/-- a record of the loop -/
abbrev rc (t : Tr) (st : LoopState) (p : Option AExit) : Option ABlk := some { e := 0, n := 0, c := .e, g := some (.lp ⟨t, [17, 18], k25a0, k25c0⟩ st p) }
/-- a cell that holds a number -/
abbrev ce (x : Int) : Option ABlk := some (blkOf 3 [.i .i64 x])
/-- three cells -/
abbrev h3 (A B : Heap) (w s b : Int) : Heap := A ++ ce w :: ce s :: ce b :: B
theorem ce_set (x y : Int) : ({ blkOf 3 [.i .i64 x] with c := (blkOf 3 [.i .i64 x]).c.set 0 (.i .i64 y) } : ABlk) = blkOf 3 [.i .i64 y] := rfl
section
variable {ro : List ABlk} {h A B : Heap} {w s b x : Int} {l p : Nat} {r r2 : Option ABlk}
theorem h3_len : (h3 A B w s b).length = A.length + 3 + B.length := by simp; omega
theorem h3_0 : lget (h3 A B w s b) A.length = some (ce w) := by rw [lget_eq]; simp
theorem h3_1 : lget (h3 A B w s b) (A.length + 1) = some (ce s) := by rw [lget_eq]; simp
theorem h3_2 : lget (h3 A B w s b) (A.length + 2) = some (ce b) := by rw [lget_eq]; simp
theorem h3_B (i : Nat) : (h3 A B w s b)[A.length + 3 + i]? = B[i]? := by
  rw [List.getElem?_append_right (by omega), show A.length + 3 + i - A.length = i + 1 + 1 + 1 by omega]
  simp
theorem h3_A {i : Nat} (hi : i < A.length) : (h3 A B w s b)[i]? = A[i]? := List.getElem?_append_left hi
theorem h3_r : lget (h3 A (B ++ [r]) w s b) (A.length + 3 + B.length) = some r := by rw [lget_eq, h3_B]; simp
theorem set_0 : (h3 A B w s b).set A.length (ce x) = h3 A B x s b := by rw [List.set_append_right _ _ (Nat.le_refl _)]; simp
theorem set_1 : (h3 A B w s b).set (A.length + 1) (ce x) = h3 A B w x b := by rw [List.set_append_right _ _ (by omega), show A.length + 1 - A.length = 1 by omega]; simp
theorem set_2 : (h3 A B w s b).set (A.length + 2) (ce x) = h3 A B w s x := by rw [List.set_append_right _ _ (by omega), show A.length + 2 - A.length = 2 by omega]; simp
theorem set_r : (h3 A (B ++ [r]) w s b).set (A.length + 3 + B.length) r2 = h3 A (B ++ [r2]) w s b := by
  rw [List.set_append_right _ _ (by omega), show A.length + 3 + B.length - A.length = B.length + 1 + 1 + 1 by omega]
  simp
theorem ld_0 : ldM ro ⟨h3 A B w s b, l, p⟩ true 1 (.p (some ⟨false, A.length, 0⟩)) = some (.i .i64 w) := ld_heap (blk := blkOf 3 [.i .i64 w]) (off := 0) rfl h3_0 Nat.zero_lt_one
theorem ld_1 : ldM ro ⟨h3 A B w s b, l, p⟩ true 1 (.p (some ⟨false, A.length + 1, 0⟩)) = some (.i .i64 s) := ld_heap (blk := blkOf 3 [.i .i64 s]) (off := 0) rfl h3_1 Nat.zero_lt_one
theorem ld_2 : ldM ro ⟨h3 A B w s b, l, p⟩ true 1 (.p (some ⟨false, A.length + 2, 0⟩)) = some (.i .i64 b) := ld_heap (blk := blkOf 3 [.i .i64 b]) (off := 0) rfl h3_2 Nat.zero_lt_one
theorem lda_0 : ldA ro (h3 A B w s b) true 1 (.p (some ⟨false, A.length, 0⟩)) = some (.i .i64 w) := lda_heap (blk := blkOf 3 [.i .i64 w]) (off := 0) h3_0 Nat.zero_lt_one
theorem lda_1 : ldA ro (h3 A B w s b) true 1 (.p (some ⟨false, A.length + 1, 0⟩)) = some (.i .i64 s) := lda_heap (blk := blkOf 3 [.i .i64 s]) (off := 0) h3_1 Nat.zero_lt_one
theorem wr_0 : wrH (h3 A B w s b) ⟨false, A.length, 0⟩ [.i .i64 x] = some (h3 A B x s b) := by rw [wrH_heap h3_0 Nat.zero_lt_one rfl, ce_set]; exact congrArg some set_0
theorem wr_1 : wrH (h3 A B w s b) ⟨false, A.length + 1, 0⟩ [.i .i64 x] = some (h3 A B w x b) := by rw [wrH_heap h3_1 Nat.zero_lt_one rfl, ce_set]; exact congrArg some set_1
theorem st_0 : stepM ro ⟨h3 A B w s b, l, p⟩ (.st 1 (.c (.p (some ⟨false, A.length, 0⟩))) (.c (.i .i64 x))) = some (und, ⟨h3 A B x s b, min l A.length, p⟩) := by rw [st_heap h3_0 Nat.zero_lt_one rfl rfl rfl, ce_set, set_0]
theorem st_1 : stepM ro ⟨h3 A B w s b, l, p⟩ (.st 1 (.c (.p (some ⟨false, A.length + 1, 0⟩))) (.c (.i .i64 x))) = some (und, ⟨h3 A B w x b, min l (A.length + 1), p⟩) := by rw [st_heap h3_1 Nat.zero_lt_one rfl rfl rfl, ce_set, set_1]
theorem st_2 : stepM ro ⟨h3 A B w s b, l, p⟩ (.st 1 (.c (.p (some ⟨false, A.length + 2, 0⟩))) (.c (.i .i64 x))) = some (und, ⟨h3 A B w s x, min l (A.length + 2), p⟩) := by rw [st_heap h3_2 Nat.zero_lt_one rfl rfl rfl, ce_set, set_2]
theorem w2_ok {x y : Int} : writesM2 ro [(((⟨false, A.length + 1, 0⟩ : Vm.Loc), [.b true, .i .i64 1]), .i .i64 s)] true [(⟨false, A.length, 0⟩, AVal.cells (.i .i64 x)), (⟨false, A.length + 1, 0⟩, AVal.cells (.i .i64 y))] ⟨h3 A B w s b, l, p⟩ = some ⟨h3 A B x y b, min (min l A.length) (A.length + 1), p⟩ := by
  have e1 : wrH (h3 A B w s b) ⟨false, A.length, 0⟩ (AVal.cells (.i .i64 x)) = _ := wr_0
  have e2 : wrH (h3 A B x s b) ⟨false, A.length + 1, 0⟩ (AVal.cells (.i .i64 y)) = _ := wr_1
  have e3 : rd ro (h3 A B x s b) true ((1 : Int).toNat) ⟨false, A.length + 1, 0⟩ = some (.i .i64 s) := by
    have := ld_1 (ro := ro) (A := A) (B := B) (w := x) (s := s) (b := b) (l := 0) (p := 0)
    simp only [ldM] at this
    exact this
  have e4 : sameA (.i .i64 s) (.i .i64 s) = true := by
    simp only [sameA, kEq_self, Bool.true_and]
    cases s <;> exact Nat.beq_refl _
  have e5 : ∀ z : Int, nonp (AVal.cells (.i .i64 z)) = true := fun z => rfl
  simp only [writesM2, writes2, cond_true, List.dropLast, List.length_cons, List.length_nil, Nat.add_sub_cancel, List.drop, writes, Mm.st, e1, e2, e5, ckOk, e3, e4, Bool.and_true, if_true, St.mm]
theorem mR (F : Tab) (ro : List ABlk) : (meansX F ro).round = roundX F ro := Eq.trans rfl rfl
theorem pA {β : Type} (q : Vm.Loc) (f : Vm.Loc → Option β) : asP (.p (some q)) f = f q := Eq.trans rfl rfl
theorem rndB_ok {t : Tr} : rndB (A.length + 3 + B.length) ⟨h3 A (B ++ [rc t .ready none]) w s b, l, p⟩ = some ⟨h3 A (B ++ [rc t .busy none]) w s b, min l (A.length + 3 + B.length), p⟩ := by
  have e : begL (h3 A (B ++ [rc t .ready none]) w s b) (A.length + 3 + B.length) = some (h3 A (B ++ [rc t .busy none]) w s b) := by
    unfold begL
    rw [h3_r]
    simp only [lset_eq]
    rw [set_r]
  unfold rndB
  simp only [e]
theorem rndE_ok {t : Tr} : rndE (A.length + 3 + B.length + 1) (A.length + 3 + B.length) .norm ⟨h3 A (B ++ [rc t .busy none]) w s b, l, A.length + 3 + B.length + 1⟩ = some (.b true, h3 A (B ++ [rc t .ready none]) w s b, min l (A.length + 3 + B.length), A.length + 3 + B.length + 1) := by
  have e : setL (h3 A (B ++ [rc t .busy none]) w s b) (A.length + 3 + B.length) AExit.norm.after AExit.norm.pend = some (h3 A (B ++ [rc t .ready none]) w s b) := by
    unfold setL
    rw [h3_r]
    simp only [lset_eq]
    rw [set_r]
    rfl
  unfold rndE
  simp only [e]
  have e2 : (Nat.ble (A.length + 3 + B.length + 1) (A.length + 3 + B.length + 1) && (AVal.b AExit.norm.on).bel (A.length + 3 + B.length + 1)) = true := by
    have : (AVal.b AExit.norm.on).bel (A.length + 3 + B.length + 1) = true := rfl
    rw [this, Nat.ble_eq_true_of_le (Nat.le_refl _)]; rfl
  simp only [gc, e2, if_true]
  rw [List.take_of_length_le (by rw [h3_len]; simp; omega)]
  rfl
theorem round25 {w s b g : Nat} {ix : Int} {t : Tr} (hw : w ≤ 17592186044416) (hs : s ≤ 17592186044416) (hb : b ≤ 100) (h1 : 1 ≤ g) (h2 : g ≤ 100) (hP : g25_P0 (.p (some ⟨false, A.length, 0⟩)) (.p (some ⟨false, A.length + 1, 0⟩)) (.p (some ⟨false, A.length + 2, 0⟩)) t) :
    roundX F1 ro (A.length + 3 + B.length) [.i .i64 ix, .i .i64 ((b + g : Nat) : Int)] (h3 A (B ++ [rc t .ready none]) (w : Int) (s : Int) (b : Int)) = some (.b true, h3 A (B ++ [rc t .ready none]) ((w + s : Nat) : Int) ((w * ((g - 1) / 2) + s * (g / 2) : Nat) : Int) ((b + g : Nat) : Int), A.length, A.length + 3 + B.length + 1) := by
  refine g25_r0_ok (meansX_ok F1 ro) h3_r rfl hP ?_
  have hlen : (h3 A (B ++ [rc t .ready none]) (w : Int) (s : Int) (b : Int)).length = A.length + 3 + B.length + 1 := by rw [h3_len]; simp; omega
  rw [hlen]
  have m1 : w * ((g - 1) / 2) ≤ 17592186044416 * 50 := Nat.mul_le_mul hw (by omega)
  have m2 : s * (g / 2) ≤ 17592186044416 * 50 := Nat.mul_le_mul hs (by omega)
  have e1 : wr .i64 (((b + g : Nat) : Int) - (b : Int)) = (g : Int) := by rw [wr_id' (by omega) (by omega)]; omega
  have e2 : wr .i64 ((w : Int) + (s : Int)) = ((w + s : Nat) : Int) := by rw [wr_id' (by omega) (by omega)]; omega
  have e3 : wr .i64 ((g : Int) - 1) = ((g - 1 : Nat) : Int) := by rw [wr_id' (by omega) (by omega)]; omega
  have e4 : Int.tdiv ((g - 1 : Nat) : Int) 2 = (((g - 1) / 2 : Nat) : Int) := tdiv_nat _ 2
  have e5 : Int.tdiv (g : Int) 2 = ((g / 2 : Nat) : Int) := tdiv_nat _ 2
  have e6 : wr .i64 ((w : Int) * (((g - 1) / 2 : Nat) : Int)) = ((w * ((g - 1) / 2) : Nat) : Int) := by
    rw [← Int.natCast_mul, lt64 (by omega)]
  have e7 : wr .i64 ((s : Int) * ((g / 2 : Nat) : Int)) = ((s * (g / 2) : Nat) : Int) := by
    rw [← Int.natCast_mul, lt64 (by omega)]
  have e8 : wr .i64 (((w * ((g - 1) / 2) : Nat) : Int) + ((s * (g / 2) : Nat) : Int)) = ((w * ((g - 1) / 2) + s * (g / 2) : Nat) : Int) := by
    rw [← Int.natCast_add, lt64 (by omega)]
  unfold g25_r0
  simp only [rndB_ok, oS, ld_2, iS, fI', e1, lda_0, lda_1, e2, e3, e4, e5, lt64 (show (g - 1) / 2 ≤ 9223372036854775807 by omega), lt64 (show g / 2 ≤ 9223372036854775807 by omega), e6, e7, e8, pA, w2_ok, st_2, pS]
  have hm : min (min (min (min (A.length + 3 + B.length + 1) (A.length + 3 + B.length)) A.length) (A.length + 1)) (A.length + 2) = A.length := by omega
  rw [hm, hlen]
  have := rndE_ok (A := A) (B := B) (w := ((w + s : Nat) : Int)) (s := ((w * ((g - 1) / 2) + s * (g / 2) : Nat) : Int)) (b := ((b + g : Nat) : Int)) (l := A.length) (t := t)
  rw [show min A.length (A.length + 3 + B.length) = A.length by omega] at this
  exact this
end
end Go.Proofs.Ytobmcofkcfifkaa.T

/- Sums: the loop over a function -/
open Go.Vm
set_option linter.unusedVariables false
namespace Go.Proofs.Ytobmcofkcfifkaa.T
open Go

section
variable {ro : List ABlk} {h A B : Heap} {w s b x : Int} {l p : Nat} {r r2 : Option ABlk}
/-- a list of numbers above 1 stands in none of the cells -/
theorem row_h3 {v : AVal} {z : List Int} (a : IsRow ro (h3 A B 1 0 1) v z) (hz : ∀ i, i < z.length → 2 ≤ z.getD i 0) (x : Heap) (w s b : Int) : IsRow ro (h3 A (B ++ x) w s b) v z := by
  rcases a with a | ⟨q, c, blk, rfl, h1, h2, h4⟩
  · exact .inl a
  obtain ⟨qr, qb, qo⟩ := q
  cases qr with
  | true => exact .inr ⟨_, c, blk, rfl, h1, h2, h4⟩
  | false =>
    have hl : lget (h3 A B 1 0 1) qb = some (some blk) := by
      simp only [rdB, cond_false] at h1
      split at h1
      · rename_i e; cases h1; exact e
      · cases h1
    have hcell : ∀ y y2 : Int, y < 2 → blk = blkOf 3 [.i .i64 y] → lget (h3 A (B ++ x) w s b) qb = some (some (blkOf 3 [.i .i64 y2])) → IsRow ro (h3 A (B ++ x) w s b) (.sl ⟨false, qb, qo⟩ z.length c) z := fun y y2 hy e hg => by
      subst e
      have hn : qo + z.length ≤ 1 := h2
      refine .inr ⟨_, c, _, rfl, rdB_heap hg qo, hn, fun j hj => ?_⟩
      exfalso
      have e0 : qo = 0 := by omega
      have e1 := h4 0 (by omega)
      have e2 := hz 0 (by omega)
      have e3 : (blkOf 3 [AVal.i .i64 y]).c.get (qo + 0) = .i .i64 y := by rw [e0]; rfl
      have e4 : (AVal.i .i64 y) = .i .i64 (z.getD 0 0) := e3.symm.trans e1
      have e5 : y = z.getD 0 0 := by cases e4; rfl
      omega
    rcases Nat.lt_or_ge qb A.length with hq | hq
    · refine .inr ⟨_, c, blk, rfl, rdB_heap (b := qb) ?_ qo, h2, h4⟩
      rw [lget_eq, h3_A hq] at hl ⊢; exact hl
    · obtain ⟨d, rfl⟩ : ∃ d, qb = A.length + d := ⟨qb - A.length, by omega⟩
      match d with
      | 0 =>
        have e := (h3_0 (A := A) (B := B) (w := 1) (s := 0) (b := 1)).symm.trans hl
        exact hcell 1 w (by omega) (by cases e; rfl) h3_0
      | 1 =>
        have e := (h3_1 (A := A) (B := B) (w := 1) (s := 0) (b := 1)).symm.trans hl
        exact hcell 0 s (by omega) (by cases e; rfl) h3_1
      | 2 =>
        have e := (h3_2 (A := A) (B := B) (w := 1) (s := 0) (b := 1)).symm.trans hl
        exact hcell 1 b (by omega) (by cases e; rfl) h3_2
      | d + 3 =>
        refine .inr ⟨_, c, blk, rfl, rdB_heap (b := A.length + (d + 3)) ?_ qo, h2, h4⟩
        rw [lget_eq, show A.length + (d + 3) = A.length + 3 + d by omega, h3_B] at hl ⊢
        have hd : d < B.length := by
          rcases Nat.lt_or_ge d B.length with h | h
          · exact h
          · rw [List.getElem?_eq_none h] at hl; cases hl
        rw [List.getElem?_append_left hd]; exact hl
theorem row_cells {hp : Heap} {v : AVal} {z : List Int} (a : IsRow ro hp v z) : v.cells = [v] := by
  rcases a with ⟨rfl, -⟩ | ⟨q, c, blk, rfl, -⟩ <;> rfl
theorem back59 {v : AVal} (hv : v.cells = [v]) : callX F1 ro 59 [v] h = some (.fn 75 [] [.p (some ⟨false, h.length, 0⟩)], h ++ [some (blkOf 50 [v])], h.length, h.length) := by
  refine g59_ok (meansX_ok F1 ro) rfl ?_
  unfold g59
  have e : stepM ro ⟨h, h.length, h.length⟩ (.bx 50 1 (.c v)) = some (.p (some ⟨false, h.length, 0⟩), ⟨h ++ [some (blkOf 50 [v])], h.length, h.length⟩) := by
    have := bx_ok (ro := ro) (hp := h) (l := h.length) (p := h.length) (n := 1) 50 (vs := [v]) rfl
    simp only [stepM, stepK, opd, st_bx, hv] at this ⊢
    exact this
  simp only [e, pS, oS, tA]
  have hb : (AVal.fn 75 [] [.p (some ⟨false, h.length, 0⟩)]).bel h.length = false := by
    have : Nat.blt h.length h.length = false := by rw [← Bool.not_eq_true, Nat.blt_eq]; omega
    simp [AVal.bel, bels, this]
  simp only [finM, gc, hb, Bool.and_false]
  rfl
/-- the cells behind j parts -/
abbrev cS (A B : Heap) (l : List Nat) (r : Option ABlk) : Heap := h3 A (B ++ [r]) (((sv l).1 : Nat) : Int) (((sv l).2 : Nat) : Int) ((bf l : Nat) : Int)
theorem cS_len {l : List Nat} : (cS A B l r).length = A.length + 3 + B.length + 1 := by rw [h3_len]; simp; omega
theorem drop_back {l : List Nat} {j : Nat} (hj : j < l.length) : l.drop (l.length - (j + 1)) = l.getD (l.length - 1 - j) 0 :: l.drop (l.length - j) := by
  have hk : l.length - (j + 1) < l.length := by omega
  rw [List.drop_eq_getElem_cons hk]
  have e1 : l.length - (j + 1) = l.length - 1 - j := by omega
  have e2 : l.length - (j + 1) + 1 = l.length - j := by omega
  rw [e2]
  congr 1
  simp [List.getD, e1, show l.length - 1 - j < l.length by omega]
theorem Zk.drop : ∀ {l : List Nat} {t : Nat} (k : Nat), Zk t l → ∃ t', t' ≤ t ∧ Zk t' (l.drop k)
  | l, t, 0, h => ⟨t, Nat.le_refl _, h⟩
  | [], t, k + 1, h => ⟨t, Nat.le_refl _, trivial⟩
  | i :: l, t, k + 1, ⟨h1, h2, h3⟩ => by
    obtain ⟨t', g1, g2⟩ := Zk.drop k h3
    exact ⟨t', by omega, g2⟩
theorem sv_step {l : List Nat} {i t : Nat} (h : Zk t (i :: l)) (ht : t ≤ 89) : 1 ≤ bf l ∧ bf l ≤ 87 ∧ bf l < i ∧ i ≤ 88 ∧ (sv l).1 ≤ 17592186044416 ∧ (sv l).2 ≤ 17592186044416 := by
  obtain ⟨h1, h2, h3⟩ := h
  obtain ⟨b1, b2⟩ := bf_tail h3 h1
  have := sv_bd h3
  have e : 2 ^ ((bf l - 1) / 2) ≤ 2 ^ 44 := Nat.pow_le_pow_right (by omega) (by omega)
  have e2 : (2 : Nat) ^ 44 = 17592186044416 := by decide
  omega
theorem back75 {v : AVal} {z : List Nat} {t : Tr} (hz : Zk 89 z) (hrow : ∀ (r : Option ABlk) (w s b : Int), IsRow ro (h3 A ((B ++ [some (blkOf 50 [v])]) ++ [r]) w s b) v (nts z)) (hP : g25_P0 (.p (some ⟨false, A.length, 0⟩)) (.p (some ⟨false, A.length + 1, 0⟩)) (.p (some ⟨false, A.length + 2, 0⟩)) t) :
    ∃ lw, A.length ≤ lw ∧ callX F1 ro 75 [.yld (A.length + 3 + (B ++ [some (blkOf 50 [v])]).length), .p (some ⟨false, A.length + 3 + B.length, 0⟩)] (cS A (B ++ [some (blkOf 50 [v])]) [] (rc t .ready none)) = some (tupA [], cS A (B ++ [some (blkOf 50 [v])]) z (rc t .ready none), lw, A.length + 3 + (B ++ [some (blkOf 50 [v])]).length + 1) := by
  obtain ⟨C, hC⟩ : ∃ C, C = B ++ [some (blkOf 50 [v])] := ⟨_, rfl⟩
  have hzl : z.length ≤ 88 := by have := hz.len; omega
  have hbox : ∀ (w s b : Int) (r : Option ABlk) (l p : Nat), ldM ro ⟨h3 A (C ++ [r]) w s b, l, p⟩ true 1 (.p (some ⟨false, A.length + 3 + B.length, 0⟩)) = some v := fun w s b r l p => by
    have : lget (h3 A (C ++ [r]) w s b) (A.length + 3 + B.length) = some (some (blkOf 50 [v])) := by
      rw [lget_eq, h3_B, hC]; simp
    exact ld_heap (blk := blkOf 50 [v]) (off := 0) rfl this Nat.zero_lt_one
  rw [← hC] at hrow ⊢
  refine ⟨if z.length = 0 then A.length + 3 + C.length + 1 else A.length, by split <;> omega, ?_⟩
  refine g75_ok (meansX_ok F1 ro) rfl ?_
  unfold g75
  rw [cS_len]
  have e1 : wr .i64 (((nts z).length : Int) - 1) = (z.length : Int) - 1 := by rw [nts_len]; exact wr_id' (by omega) (by omega)
  have e0 : evP .e (.len false (.c v)) = some (.i .i64 ((nts z).length : Int)) := len_row (hrow none 0 0 0)
  simp only [hbox, oS, e0, iS, fI', e1, meansX_loop]
  have hl := loop_run (b := fun s : Int × Mm => g75_b0 (meansX F1 ro) ro (.yld (A.length + 3 + C.length)) (.p (some ⟨false, A.length + 3 + B.length, 0⟩)) s.1 s.2) (fun j => ((z.length : Int) - 1 - (j : Int), (⟨cS A C (z.drop (z.length - j)) (rc t .ready none), if j = 0 then A.length + 3 + C.length + 1 else A.length, A.length + 3 + C.length + 1⟩ : Mm))) z.length (r0 := .inl (⟨cS A C z (rc t .ready none), if z.length = 0 then A.length + 3 + C.length + 1 else A.length, A.length + 3 + C.length + 1⟩ : Mm)) ?_ ?_
  · have e : (((z.length : Int) - 1 - ((0 : Nat) : Int), (⟨cS A C (z.drop (z.length - 0)) (rc t .ready none), if (0 : Nat) = 0 then A.length + 3 + C.length + 1 else A.length, A.length + 3 + C.length + 1⟩ : Mm)) : Int × Mm) = ((z.length : Int) - 1, (⟨cS A C [] (rc t .ready none), A.length + 3 + C.length + 1, A.length + 3 + C.length + 1⟩ : Mm)) := by
      rw [Nat.sub_zero, List.drop_length, if_pos rfl]
      congr 1
      omega
    rw [e] at hl
    rw [hl]
    simp only [oS]
    have e2 : (Nat.ble (A.length + 3 + C.length + 1) (A.length + 3 + C.length + 1) && (tupA []).bel (A.length + 3 + C.length + 1)) = true := by
      have : (tupA []).bel (A.length + 3 + C.length + 1) = true := rfl
      rw [this, Nat.ble_eq_true_of_le (Nat.le_refl _)]; rfl
    simp only [finM, gc, Mm.st, e2, if_true]
    rw [List.take_of_length_le (by rw [cS_len]; exact Nat.le_refl _)]
  · simp only [g75_b0, fB, ltT (show (z.length : Int) - 1 - (z.length : Int) < 0 by omega), nT, cF, Nat.sub_self, List.drop_zero]
  · intro j hj
    have hx : (z.length : Int) - 1 - (j : Int) = ((z.length - 1 - j : Nat) : Int) := by omega
    obtain ⟨q, p1, p2, -⟩ := at_row (m := ⟨cS A C (z.drop (z.length - j)) (rc t .ready none), if j = 0 then A.length + 3 + C.length + 1 else A.length, A.length + 3 + C.length + 1⟩) rfl (hrow _ _ _ _) (show z.length - 1 - j < (nts z).length by rw [nts_len]; omega)
    rw [nts_get (show z.length - 1 - j < z.length by omega)] at p2
    have hdr := drop_back hj
    obtain ⟨t', ht', hzd⟩ := hz.drop (z.length - (j + 1))
    rw [hdr] at hzd
    obtain ⟨s1, s2, s3, s4, s5, s6⟩ := sv_step hzd (by omega)
    generalize hi : z.getD (z.length - 1 - j) 0 = i at *
    generalize hd : z.drop (z.length - j) = d at *
    have hr := round25 (ro := ro) (A := A) (B := C) (w := (sv d).1) (s := (sv d).2) (b := bf d) (g := i - bf d) (ix := ((z.length - 1 - j : Nat) : Int)) s5 s6 (by omega) (by omega) (by omega) hP
    rw [show bf d + (i - bf d) = i by omega] at hr
    have e3 : wr .i64 (((z.length - 1 - j : Nat) : Int) - 1) = (z.length : Int) - 1 - ((j + 1 : Nat) : Int) := by rw [wr_id' (by omega) (by omega)]; omega
    have hcy : ∀ l, A.length ≤ l → callyM (callX F1 ro) (roundX F1 ro) ⟨cS A C d (rc t .ready none), l, A.length + 3 + C.length + 1⟩ (.yld (A.length + 3 + C.length)) [.i .i64 ((z.length - 1 - j : Nat) : Int), .i .i64 (i : Int)] = some (.b true, ⟨cS A C (i :: d) (rc t .ready none), A.length, A.length + 3 + C.length + 1⟩) := fun l hl => by
      simp only [callyM, hr, Nat.min_eq_right hl, Nat.min_self]
      rfl
    have hlw : A.length ≤ (if j = 0 then A.length + 3 + C.length + 1 else A.length) := by split <;> omega
    simp only [hx, g75_b0, fB, ltF (show ¬ ((z.length - 1 - j : Nat) : Int) < 0 by omega), nF, cT, hbox, oS, p1, p2, iS, mC, mR, hcy _ hlw, pS, bS, nT, cF, fI', e3, hdr, if_neg (show ¬ j + 1 = 0 by omega)]
end
end Go.Proofs.Ytobmcofkcfifkaa.T

/- Sums: contract -/
open Go.Vm
set_option linter.unusedVariables false
namespace Go.Proofs.Ytobmcofkcfifkaa.T
open Go

section
variable {ro : List ABlk} {h A B : Heap} {w s b x : Int} {l p : Nat} {r r2 : Option ABlk}
theorem h3_app (C : Heap) : h3 A B w s b ++ C = h3 A (B ++ C) w s b := by simp
theorem cS_nil (C : Heap) : h3 A C 1 0 1 ++ [r] = cS A C [] r := by rw [h3_app]; rfl
theorem cS_r {C : Heap} {z : List Nat} : lget (cS A C z r) (A.length + 3 + C.length) = some r := h3_r
theorem rng25 {v : AVal} {z : List Nat} (hz : Zk 89 z) (hl : l ≤ A.length) (hp : p ≤ A.length) (hrow : ∀ (r : Option ABlk) (w s b : Int), IsRow ro (h3 A ((B ++ [some (blkOf 50 [v])]) ++ [r]) w s b) v (nts z)) :
    rngP (callX F1 ro) (g25_P0 (.p (some ⟨false, A.length, 0⟩)) (.p (some ⟨false, A.length + 1, 0⟩)) (.p (some ⟨false, A.length + 2, 0⟩))) [17, 18] k25a0 k25c0 (.fn 75 [] [.p (some ⟨false, A.length + 3 + B.length, 0⟩)]) ⟨h3 A (B ++ [some (blkOf 50 [v])]) 1 0 1, l, p⟩ = some (.norm, ⟨cS A (B ++ [some (blkOf 50 [v])]) z none, l, p⟩) := by
  refine rngP_eq (t := ((Tr.e.set 4 (.p (some ⟨false, A.length, 0⟩))).set 5 (.p (some ⟨false, A.length + 1, 0⟩))).set 6 (.p (some ⟨false, A.length + 2, 0⟩))) ⟨trivial, by simp [get_set], by simp [get_set], by simp [get_set]⟩ fun t ht => ?_
  obtain ⟨lw, h1, h2⟩ := back75 (ro := ro) hz hrow ht
  obtain ⟨C, hC⟩ : ∃ C, C = B ++ [some (blkOf 50 [v])] := ⟨_, rfl⟩
  rw [← hC] at h2 ⊢
  have e1 : (h3 A C 1 0 1).length = A.length + 3 + C.length := h3_len
  have e2 : endL (cS A C z (rc t .ready none)) (A.length + 3 + C.length) = some (none, cS A C z none) := by
    unfold endL
    rw [cS_r]
    simp only [lset_eq]
    rw [set_r]
  have e3 : h3 A C 1 0 1 ++ [some (recB t [17, 18] k25a0 k25c0)] = cS A C [] (rc t .ready none) := cS_nil C
  unfold rngT rngA
  simp only [Mm.st, List.nil_append, List.cons_append, e1, e3, h2, e2]
  show some (AExit.norm, (⟨cS A C z none, min (min l lw) (A.length + 3 + C.length), min p (A.length + 3 + C.length + 1)⟩ : Mm)) = _
  rw [show min (min l lw) (A.length + 3 + C.length) = l by omega, show min p (A.length + 3 + C.length + 1) = p by omega]
def sumsV (x : Int) : Int × Int := if ¬ inR x then (0, 4) else ((sumsN x.toNat : Int), 0)
theorem sums25 {x : Int} : callX F1 ro 25 [.i .i64 x] h = some (ret2 (sumsV x), h, h.length, h.length) := by
  obtain ⟨v0, A, s1, s2, kp⟩ := one51 (ro := ro) (h := h) (x := x) (Nat.le_refl _) (Nat.le_refl _)
  refine g25_ok (meansX_ok F1 ro) rfl ?_
  unfold g25 sumsV
  simp only [s1, pS, mC, s2, bS, fB]
  by_cases hr : inR x
  rotate_left
  · rw [dF hr, if_pos hr]
    simp only [nF, cT, tA2]
    exact fin_keep kp rfl
  rw [dT hr, if_neg (fun e => e hr)]
  obtain ⟨n, rfl, hn⟩ := inR_nat hr
  have hA := kp.1
  have a0 : A ++ [some (blkOf 3 [AVal.i .i64 0])] ++ [some (blkOf 3 [AVal.i .i64 0])] ++ [some (blkOf 3 [AVal.i .i64 0])] = h3 A [] 0 0 0 := by simp
  have ea1 : ∀ (X : Heap) (l p : Nat), stepM ro ⟨X, l, p⟩ (.al 3 [(AVal.i IntKind.i64 0)]) = some (.p (some ⟨false, X.length, 0⟩), ⟨X ++ [some (blkOf 3 [AVal.i .i64 0])], l, p⟩) := fun X l p => al_ok (ro := ro) (hp := X) (l := l) (p := p) 3 [AVal.i .i64 0]
  have l1 : (A ++ [some (blkOf 3 [AVal.i .i64 0])]).length = A.length + 1 := by simp
  have l2 : (A ++ [some (blkOf 3 [AVal.i .i64 0])] ++ [some (blkOf 3 [AVal.i .i64 0])]).length = A.length + 2 := by simp
  obtain ⟨v, H, c1, k1, row1⟩ := parts60 (ro := ro) (h := h3 A [] 1 0 1) hn
  have hH : ∃ B, H = h3 A B 1 0 1 := ⟨H.drop (h3 A [] 1 0 1).length, by
    have := take_eq k1.1 k1.2
    rw [this, h3_app]
    simp⟩
  obtain ⟨B, rfl⟩ := hH
  have hz := (zk_ok hn).1
  have h2le : ∀ i, i < (nts (zk n)).length → 2 ≤ (nts (zk n)).getD i 0 := fun i hi => by
    rw [nts_len] at hi
    rw [nts_get hi]
    have : (zk n).getD i 0 ∈ zk n := by rw [show (zk n).getD i 0 = (zk n)[i] by simp [List.getD, hi]]; exact List.getElem_mem hi
    have := (hz.mem this).1
    omega
  have hrow := fun x w s b => row_h3 (ro := ro) row1 h2le x w s b
  have ec60 : callM (callX F1 ro) ⟨h3 A [] 1 0 1, h.length, h.length⟩ 60 [.i .i64 (n : Int)] = some (v, ⟨h3 A B 1 0 1, h.length, h.length⟩) := by
    rw [callM_eq c1]
    have e : (h3 A [] 1 0 1).length = A.length + 3 := h3_len
    rw [e, show min h.length (A.length + 3) = h.length by omega]
  have hBl : (h3 A B 1 0 1).length = A.length + 3 + B.length := h3_len
  have ec59 : callM (callX F1 ro) ⟨h3 A B 1 0 1, h.length, h.length⟩ 59 [v] = some (.fn 75 [] [.p (some ⟨false, A.length + 3 + B.length, 0⟩)], ⟨h3 A (B ++ [some (blkOf 50 [v])]) 1 0 1, h.length, h.length⟩) := by
    rw [callM_eq (back59 (ro := ro) (row_cells row1)), hBl, h3_app, show min h.length (A.length + 3 + B.length) = h.length by omega]
  have er := rng25 (ro := ro) (A := A) (B := B) (v := v) (z := zk n) (l := h.length) (p := h.length) hz hA hA (fun r w s b => by rw [List.append_assoc]; exact hrow _ w s b)
  have em0 : min h.length A.length = h.length := by omega
  have em1 : min h.length (A.length + 1) = h.length := by omega
  have em2 : min h.length (A.length + 2) = h.length := by omega
  simp only [nT, cF, ea1, pS, l1, l2, a0, st_0, st_1, st_2, em0, em1, em2, ec60, ec59, er, oS]
  have ew : wr .i64 (((sv (zk n)).1 : Nat) + ((sv (zk n)).2 : Nat) : Int) = ((sumsN n : Nat) : Int) := by
    have h1 := sv_bd hz
    have h2 := (bf_bd hz (by omega)).2
    have e : 2 ^ ((bf (zk n) - 1) / 2) ≤ 2 ^ 44 := Nat.pow_le_pow_right (by omega) (by omega)
    have e2 : (2 : Nat) ^ 44 = 17592186044416 := by decide
    unfold sumsN
    rw [wr_id' (by omega) (by omega)]; omega
  show bindO (ldM ro _ true 1 _) _ = _
  simp only [cS, ld_0, ld_1, oS, iS, fI', ew, tA2, Int.toNat_natCast]
  refine fin_keep (kp.trans ⟨by rw [h3_len]; omega, fun i hi => h3_A hi⟩) rfl
end
end Go.Proofs.Ytobmcofkcfifkaa.T

/- Letters -/
open Go.Vm
set_option linter.unusedVariables false
namespace Go.Proofs.Ytobmcofkcfifkaa.T
open Go

def letV (n : Nat) : Nat := if 0 < n ∧ lp n = 2 then 1 else 0
section
variable {ro : List ABlk} {h : Heap}
theorem drop_last1 {s : List UInt8} (hs : 0 < s.length) : s.drop (s.length - 1) = [s.getD (s.length - 1) 0] := by
  rw [List.drop_eq_getElem_cons (show s.length - 1 < s.length by omega), show s.length - 1 + 1 = s.length by omega, List.drop_length]
  simp [List.getD, show s.length - 1 < s.length by omega]
theorem suffix62 {s : List UInt8} (h0 : 0 < s.length) (hs : s.length ≤ 1000000) : callX F1 ro 62 [.s s, .s [49]] h = some (.b (decide (s.getD (s.length - 1) 0 = 49)), h, h.length, h.length) := by
  have h76 : callX F1 ro 76 [.s s, .s [49]] h = some (.b (decide (s.getD (s.length - 1) 0 = 49)), h, h.length, h.length) := by
    refine g76_ok (meansX_ok F1 ro) rfl ?_
    unfold g76
    have e1 : (([49] : List UInt8).length : Int) = 1 := rfl
    have e2 : wr .i64 ((s.length : Int) - 1) = Int.ofNat (s.length - 1) := by rw [wr_id' (by omega) (by omega)]; show _ = ((s.length - 1 : Nat) : Int); omega
    have e5 : Nat.ble (s.length - 1) s.length = true := by rw [Nat.ble_eq]; omega
    have e3 : evP .e (.slStr (.c (.s s)) (some (.c (.i .i64 (Int.ofNat (s.length - 1))))) none) = some (.s (s.drop (s.length - 1))) := by
      simp only [evP, ev_slStr, opd, Option.map_some, sbound, e5, cond_true, Option.map_none, List.take_length]
    have e6 : decide (s.drop (s.length - 1) = [49]) = decide (s.getD (s.length - 1) 0 = 49) := by
      rw [drop_last1 h0]
      exact decide_eq_decide.2 ⟨fun e => (List.cons.inj e).1, fun e => by rw [e]⟩
    simp only [len_s, oS, iS, fB, e1, ltF (show ¬ (s.length : Int) < 1 by omega), nF, cT, fI', e2, e3, sS, str_eq, e6, bS, tA]
    exact fin_pure rfl
  refine g62_ok (meansX_ok F1 ro) rfl ?_
  unfold g62
  simp only [mC, cp0 h76, pS, bS, tA]
  exact fin_pure rfl
theorem letter27 {n : Nat} (hn : n ≤ big) : callX F1 ro 27 [.i .i64 (n : Int)] h = some (ret2 ((letV n : Int), 0), h, h.length, h.length) := by
  obtain ⟨v0, A, s1, s2, kp⟩ := one51 (ro := ro) (h := h) (x := (n : Int)) (Nat.le_refl _) (Nat.le_refl _)
  refine g27_ok (meansX_ok F1 ro) rfl ?_
  unfold g27
  have hlen := word_len hn
  have hend : 0 < (word n).length ∧ decide ((word n).getD ((word n).length - 1) 0 = 49) = decide (letV n = 1) := by
    rcases Nat.eq_zero_or_pos n with rfl | h0
    · exact ⟨by decide, by decide⟩
    · obtain ⟨w1, w2, w3⟩ := word_end hn h0
      refine ⟨by omega, decide_eq_decide.2 ?_⟩
      have l1 := (lp_bd hn h0).1
      unfold letV
      by_cases h2 : lp n = 2
      · rw [h2] at w3
        rw [if_pos ⟨h0, h2⟩]
        exact ⟨fun _ => rfl, fun _ => w3⟩
      · have := w2 0 (by omega)
        rw [if_neg (fun e => h2 e.2)]
        rw [Nat.sub_zero] at this
        rw [this]
        exact ⟨fun e => absurd e (by decide), fun e => absurd e (by decide)⟩
  simp only [s1, pS, mC, s2, bS, fB, dT (show inR (n : Int) from nat_inR hn), nT, cF, cp (written52 (ro := ro) (h := A) hn) kp.1 kp.1, sS, cp (suffix62 (ro := ro) (h := A) hend.1 (by omega)) kp.1 kp.1, hend.2]
  by_cases e : letV n = 1
  · rw [dT e, e]
    simp only [cT, tA2]
    exact fin_keep kp rfl
  · have e0 : letV n = 0 := by unfold letV at e ⊢; split at e <;> simp_all
    rw [dF e, e0]
    simp only [cF, tA2]
    exact fin_keep kp rfl
end
end Go.Proofs.Ytobmcofkcfifkaa.T

/- Whinihan's game: the table -/
open Go.Vm
set_option linter.unusedVariables false
namespace Go.Proofs.Ytobmcofkcfifkaa.T
open Go

/- one heap of seeds: each takes at most twice what was taken before -/
theorem low_room : ∀ {l : List Nat} {t y : Nat}, Zk t l → (∀ i ∈ l, y ≤ i) → y - 1 ≤ t → sm l + fb (y - 1) ≤ fb t
  | [], t, y, _, _, h => by show 0 + fb (y - 1) ≤ fb t; have := fb_le h; omega
  | i :: l, t, y, ⟨h1, h2, h3⟩, hy, h => by
    have hi := hy i (by simp)
    have ih := low_room h3 (fun x hx => hy x (by simp [hx])) (by omega)
    have e : fb (i - 1 + 2) = fb (i - 1) + fb (i - 1 + 1) := rfl
    rw [show i - 1 + 2 = i + 1 by omega, show i - 1 + 1 = i by omega] at e
    have := fb_le (show i + 1 ≤ t by omega)
    show fb i + sm l + fb (y - 1) ≤ fb t
    omega
theorem Zk.join : ∀ {a b : List Nat} {t p : Nat}, Zk t a → (∀ i ∈ a, p + 2 ≤ i) → Zk p b → p ≤ t → Zk t (a ++ b)
  | [], b, t, p, _, _, hb, hp => hb.mono hp
  | i :: a, b, t, p, ⟨h1, h2, h3⟩, ha, hb, hp => by
    have hi := ha i (by simp)
    exact ⟨h1, h2, Zk.join h3 (fun x hx => ha x (by simp [hx])) hb (by omega)⟩
/-- the table of what is known of the game -/
structure Memo (L : Nat) (H : Heap) (ob : Nat) (R : Nat → Nat) (f : Nat → Nat → Int) : Prop where
  top : Vec H 50 ob 61 (fun r => .sl ⟨false, R r, 0⟩ 61 (.known 61))
  rows : ∀ i, i < 61 → L ≤ R i ∧ Vec H 3 (R i) 61 (fun k => .i .i64 (f i k))
  inj : ∀ i j, i < 61 → j < 61 → R i = R j → i = j
section
variable {ro : List ABlk} {h H : Heap} {L ob : Nat} {R : Nat → Nat} {f : Nat → Nat → Int}
theorem Memo.row (a : Memo L H ob R f) {i : Nat} (hi : i < 61) : evP .e (.ixS 1 (.c (.sl ⟨false, ob, 0⟩ 61 .grow)) (.c (.i .i64 (i : Int)))) = some (.p (some ⟨false, ob, 0 + i⟩)) ∧ ∀ l p, ldM ro ⟨H, l, p⟩ true 1 (.p (some ⟨false, ob, 0 + i⟩)) = some (.sl ⟨false, R i, 0⟩ 61 (.known 61)) :=
  ⟨ixS_eq hi, fun l p => a.top.ld hi⟩
theorem Memo.cell (a : Memo L H ob R f) {i k : Nat} (hi : i < 61) (hk : k < 61) : evP .e (.ixS 1 (.c (.sl ⟨false, R i, 0⟩ 61 (.known 61))) (.c (.i .i64 (k : Int)))) = some (.p (some ⟨false, R i, 0 + k⟩)) ∧ ∀ l p, ldM ro ⟨H, l, p⟩ true 1 (.p (some ⟨false, R i, 0 + k⟩)) = some (.i .i64 (f i k)) :=
  ⟨ixS_eq hk, fun l p => (a.rows i hi).2.ld hk⟩
theorem Memo.set (a : Memo L H ob R f) {i k : Nat} (hi : i < 61) (hk : k < 61) (x : Int) (l p : Nat) : ∃ y, stepM ro ⟨H, l, p⟩ (.st 1 (.c (.p (some ⟨false, R i, 0 + k⟩))) (.c (.i .i64 x))) = some (und, ⟨H.set (R i) y, min l (R i), p⟩) ∧ Memo L (H.set (R i) y) ob R (fun i' k' => if i' = i ∧ k' = k then x else f i' k') := by
  obtain ⟨y, s1, s2⟩ := (a.rows i hi).2.set (ro := ro) (l := l) (p := p) hk (v := .i .i64 x) rfl rfl rfl
  refine ⟨y, s1, ?_, fun j hj => ⟨(a.rows j hj).1, ?_⟩, a.inj⟩
  · exact a.top.keep (List.getElem?_set_ne (Ne.symm (a.top.ne (a.rows i hi).2 (by decide))))
  · by_cases e : j = i
    · subst e
      refine s2.congr fun r hr => ?_
      by_cases e2 : r = k
      · simp [e2]
      · simp [e2]
    · have h2 := (a.rows j hj).2.keep (hp' := H.set (R i) y) (List.getElem?_set_ne fun e2 => e (a.inj j i hj hi e2.symm))
      refine h2.congr fun r hr => ?_
      rw [if_neg (fun e2 => e e2.1)]
end
end Go.Proofs.Ytobmcofkcfifkaa.T

/- Whinihan's game: the search -/
open Go.Vm
set_option linter.unusedVariables false
namespace Go.Proofs.Ytobmcofkcfifkaa.T
open Go

section
variable {ro : List ABlk} {h : Heap} {L ob : Nat} {R : Nat → Nat}
end
end Go.Proofs.Ytobmcofkcfifkaa.T

/- Whinihan's game: the table is made -/
open Go.Vm
set_option linter.unusedVariables false
namespace Go.Proofs.Ytobmcofkcfifkaa.T
open Go

section
variable {ro : List ABlk} {h : Heap}
end
end Go.Proofs.Ytobmcofkcfifkaa.T

/- Whinihan's game -/
open Go.Vm
set_option linter.unusedVariables false
namespace Go.Proofs.Ytobmcofkcfifkaa.T
open Go

section
variable {ro : List ABlk} {h : Heap}
end
end Go.Proofs.Ytobmcofkcfifkaa.T

/- How often a number is a sum of Fibonacci numbers -/
open Go.Vm
set_option linter.unusedVariables false
namespace Go.Proofs.Ytobmcofkcfifkaa.T
open Go

/- how often a number is a sum of different ones of F(2) .. F(i) -/
def rep2 : Nat → Nat → Nat
  | 0, r => if r = 0 then 1 else 0
  | i + 1, r => rep2 i r + if fb (i + 2) ≤ r then rep2 i (r - fb (i + 2)) else 0
/-- above all of them together: never -/
theorem rep2_big : ∀ (i r : Nat), fb (i + 3) ≤ r + 1 → rep2 i r = 0
  | 0, r, h => by
    have e : fb (0 + 3) = 2 := rfl
    show (if r = 0 then 1 else 0) = 0
    rw [if_neg (by omega)]
  | i + 1, r, h => by
    have e : fb (i + 1 + 3) = fb (i + 2) + fb (i + 3) := rfl
    have h1 := fb_le (show i + 2 ≤ i + 3 by omega)
    have h2 := fb_pos (i + 1)
    show rep2 i r + (if fb (i + 2) ≤ r then rep2 i (r - fb (i + 2)) else 0) = 0
    rw [rep2_big i r (by omega)]
    split
    · rw [rep2_big i _ (by omega)]
    · rfl
/-- otherwise at least once -/
theorem rep2_pos : ∀ (i r : Nat), r + 2 ≤ fb (i + 3) → 1 ≤ rep2 i r
  | 0, r, h => by
    have e : fb (0 + 3) = 2 := rfl
    show 1 ≤ (if r = 0 then 1 else 0)
    rw [if_pos (by omega)]; exact Nat.le_refl _
  | i + 1, r, h => by
    have e : fb (i + 1 + 3) = fb (i + 2) + fb (i + 3) := rfl
    show 1 ≤ rep2 i r + (if fb (i + 2) ≤ r then rep2 i (r - fb (i + 2)) else 0)
    by_cases hc : fb (i + 2) ≤ r
    · rw [if_pos hc]
      have := rep2_pos i (r - fb (i + 2)) (by omega)
      omega
    · have e2 : fb (i + 3) = fb (i + 1) + fb (i + 2) := rfl
      have h2 := fb_pos i
      have := rep2_pos i r (by omega)
      omega
theorem Zk.step {p : Nat} : ∀ {l : List Nat}, Zk (p + 1) l → Zk p l ∨ ∃ l', l = p :: l' ∧ Zk (p - 1) l'
  | [], _ => .inl trivial
  | i :: l, ⟨h1, h2, h3⟩ => by
    rcases Nat.lt_or_ge i p with h | h
    · exact .inl ⟨h1, h, h3⟩
    · have : i = p := by omega
      subst this
      exact .inr ⟨l, rfl, h3⟩
theorem rep_sv : ∀ (N p : Nat) {l : List Nat}, p < N → Zk (p + 2) l → rep2 p (sm l) = (sv l).1 + (sv l).2 ∧ rep2 p (sm l + fb (p + 2)) = (sv l).1 * ((p + 2 - bf l - 1) / 2) + (sv l).2 * ((p + 2 - bf l) / 2)
  | 0, p, _, h, _ => absurd h (Nat.not_lt_zero _)
  | N + 1, 0, l, _, hz => by
    rcases hz.step with h | ⟨l', rfl, h⟩
    · cases l with
      | nil => exact ⟨rfl, rfl⟩
      | cons i l => obtain ⟨h1, h2, h3⟩ := h; omega
    · obtain ⟨h1, -, -⟩ := hz; omega
  | N + 1, p + 1, l, hN, hz => by
    have e3 : fb (p + 3) = fb (p + 1) + fb (p + 2) := rfl
    have hup : ∀ r, rep2 (p + 1) (r + fb (p + 3)) = rep2 p (r + fb (p + 1)) := fun r => by
      show rep2 p (r + fb (p + 3)) + (if fb (p + 2) ≤ r + fb (p + 3) then rep2 p (r + fb (p + 3) - fb (p + 2)) else 0) = _
      rw [rep2_big p (r + fb (p + 3)) (by omega), if_pos (by omega), Nat.zero_add, show r + fb (p + 3) - fb (p + 2) = r + fb (p + 1) by omega]
    rcases hz.step with h | ⟨l', rfl, h⟩
    · obtain ⟨i1, i2⟩ := rep_sv N p (by omega) h
      have hlt : sm l < fb (p + 2) := by
        have := low_room h (y := 2) (fun i hi => (h.mem hi).1) (by omega)
        have e : fb (2 - 1) = 1 := rfl
        omega
      constructor
      · show rep2 p (sm l) + (if fb (p + 2) ≤ sm l then rep2 p (sm l - fb (p + 2)) else 0) = _
        rw [if_neg (by omega), i1]; omega
      · rw [hup]
        cases p with
        | zero =>
          cases l with
          | nil => rfl
          | cons i l => obtain ⟨h1, h2, h3⟩ := h; omega
        | succ p =>
          have hs : rep2 (p + 1) (sm l + fb (p + 1 + 1)) = rep2 p (sm l + fb (p + 2)) + rep2 p (sm l) := by
            show rep2 p (sm l + fb (p + 2)) + (if fb (p + 2) ≤ sm l + fb (p + 2) then rep2 p (sm l + fb (p + 2) - fb (p + 2)) else 0) = _
            rw [if_pos (by omega), Nat.add_sub_cancel]
          rw [hs]
          rcases h.step with h2 | ⟨l2, rfl, h2⟩
          · obtain ⟨j1, j2⟩ := rep_sv N p (by omega) h2
            have hb := bf_bd h2 (by omega)
            rw [j1, j2]
            rw [show (p + 1 + 1 + 2 - bf l - 1) / 2 = (p + 2 - bf l - 1) / 2 + 1 by omega, show (p + 1 + 1 + 2 - bf l) / 2 = (p + 2 - bf l) / 2 + 1 by omega, Nat.mul_add, Nat.mul_add]
            omega
          · have h2' : Zk (p + 2) l2 := h2.mono (by omega)
            obtain ⟨j1, j2⟩ := rep_sv N p (by omega) h2'
            have ez : sm ((p + 2) :: l2) = fb (p + 2) + sm l2 := rfl
            have e5 : fb (p + 3) = fb (p + 1) + fb (p + 2) := rfl
            have e6 := fb_le (show p + 1 ≤ p + 2 by omega)
            rw [ez, rep2_big p (fb (p + 2) + sm l2 + fb (p + 2)) (by omega), Nat.add_comm (fb (p + 2)), j2]
            show _ = ((sv l2).1 + (sv l2).2) * ((p + 1 + 1 + 2 - (p + 2) - 1) / 2) + ((sv l2).1 * ((p + 2 - bf l2 - 1) / 2) + (sv l2).2 * ((p + 2 - bf l2) / 2)) * ((p + 1 + 1 + 2 - (p + 2)) / 2)
            rw [show (p + 1 + 1 + 2 - (p + 2) - 1) / 2 = 0 by omega, show (p + 1 + 1 + 2 - (p + 2)) / 2 = 1 by omega]
            omega
    · have h' : Zk (p + 2) l' := h.mono (by omega)
      obtain ⟨i1, i2⟩ := rep_sv N p (by omega) h'
      have ez : sm ((p + 2) :: l') = fb (p + 2) + sm l' := rfl
      constructor
      · rw [ez]
        show rep2 p (fb (p + 2) + sm l') + (if fb (p + 2) ≤ fb (p + 2) + sm l' then rep2 p (fb (p + 2) + sm l' - fb (p + 2)) else 0) = ((sv l').1 + (sv l').2) + ((sv l').1 * ((p + 2 - bf l' - 1) / 2) + (sv l').2 * ((p + 2 - bf l') / 2))
        rw [if_pos (by omega), show fb (p + 2) + sm l' - fb (p + 2) = sm l' by omega, Nat.add_comm (fb (p + 2)), i1, i2]; omega
      · rw [hup, ez, rep2_big p _ (by omega)]
        show _ = ((sv l').1 + (sv l').2) * ((p + 1 + 2 - (p + 2) - 1) / 2) + ((sv l').1 * ((p + 2 - bf l' - 1) / 2) + (sv l').2 * ((p + 2 - bf l') / 2)) * ((p + 1 + 2 - (p + 2)) / 2)
        rw [show (p + 1 + 2 - (p + 2) - 1) / 2 = 0 by omega, show (p + 1 + 2 - (p + 2)) / 2 = 0 by omega]
        omega
theorem rep_sums {n : Nat} (hn : n ≤ big) : rep2 87 n = sumsN n := by
  obtain ⟨h1, h2⟩ := zk_ok hn
  have := (rep_sv 88 87 (by omega) h1).1
  rw [h2] at this
  exact this
/- lists of rests and in how many ways each is come to -/
def addL : List (Nat × Nat) → Nat → Nat → List (Nat × Nat)
  | [], r, w => [(r, w)]
  | e :: L, r, w => if e.1 = r then (r, e.2 + w) :: L else e :: addL L r w
def stq (lim F : Nat) (acc : List (Nat × Nat)) (e : Nat × Nat) : List (Nat × Nat) :=
  let a := if e.1 ≤ lim then addL acc e.1 e.2 else acc
  if F ≤ e.1 ∧ e.1 - F ≤ lim then addL a (e.1 - F) e.2 else a
def wt (f : Nat → Nat) : List (Nat × Nat) → Nat
  | [] => 0
  | e :: L => e.2 * f e.1 + wt f L
theorem wt_add (f : Nat → Nat) (r w : Nat) : ∀ L, wt f (addL L r w) = wt f L + w * f r
  | [] => by show w * f r + 0 = 0 + w * f r; omega
  | e :: L => by
    unfold addL
    by_cases h : e.1 = r
    · rw [if_pos h]
      show (e.2 + w) * f r + wt f L = e.2 * f e.1 + wt f L + w * f r
      rw [h, Nat.add_mul]; omega
    · rw [if_neg h]
      show e.2 * f e.1 + wt f (addL L r w) = e.2 * f e.1 + wt f L + w * f r
      rw [wt_add f r w L]; omega
theorem mem_addL {r w x : Nat} : ∀ {L : List (Nat × Nat)}, x ∈ (addL L r w).map Prod.fst ↔ x ∈ L.map Prod.fst ∨ x = r
  | [] => by simp [addL]
  | e :: L => by
    unfold addL
    by_cases h : e.1 = r
    · rw [if_pos h]
      simp only [List.map_cons, List.mem_cons, h]
      constructor
      · rintro (h | h)
        · exact .inl (.inl h)
        · exact .inl (.inr h)
      · rintro ((h | h) | h)
        · exact .inl h
        · exact .inr h
        · exact .inl h
    · rw [if_neg h]
      simp only [List.map_cons, List.mem_cons, mem_addL (L := L), or_assoc]
theorem nodup_addL {r w : Nat} : ∀ {L : List (Nat × Nat)}, (L.map Prod.fst).Nodup → ((addL L r w).map Prod.fst).Nodup
  | [], _ => by simp [addL]
  | e :: L, h => by
    unfold addL
    rw [List.map_cons, List.nodup_cons] at h
    by_cases he : e.1 = r
    · rw [if_pos he, List.map_cons, List.nodup_cons]
      exact ⟨by show ¬ r ∈ _; rw [← he]; exact h.1, h.2⟩
    · rw [if_neg he, List.map_cons, List.nodup_cons]
      refine ⟨fun hm => ?_, nodup_addL h.2⟩
      rcases mem_addL.1 hm with hm | hm
      · exact h.1 hm
      · exact he hm
end Go.Proofs.Ytobmcofkcfifkaa.T

/- Lists of pairs -/
open Go.Vm
set_option linter.unusedVariables false
namespace Go.Proofs.Ytobmcofkcfifkaa.T
open Go

section
variable {ro : List ABlk} {h H : Heap} {Lb : Nat}
/-- a list of pairs, read -/
def IsP (ro : List ABlk) (H : Heap) (v : AVal) (L : List (Nat × Nat)) : Prop :=
  (v = .nsl ∧ L = []) ∨ ∃ b c blk, v = .sl ⟨false, b, 0⟩ L.length c ∧ lget H b = some (some blk) ∧ 2 * L.length ≤ blk.n ∧ ∀ i, i < L.length → blk.c.get (2 * i) = .i .i64 ((L.getD i (0, 0)).1 : Int) ∧ blk.c.get (2 * i + 1) = .i .i64 ((L.getD i (0, 0)).2 : Int)
/-- a list of pairs, made by append -/
def PV (H : Heap) (Lb : Nat) (v : AVal) (L : List (Nat × Nat)) : Prop :=
  (v = .nsl ∧ L = []) ∨ ∃ b blk, v = .sl ⟨false, b, 0⟩ L.length .grow ∧ 0 < L.length ∧ Lb ≤ b ∧ lget H b = some (some blk) ∧ blk.e = 64 ∧ 2 * L.length ≤ blk.n ∧ ∀ i, i < L.length → blk.c.get (2 * i) = .i .i64 ((L.getD i (0, 0)).1 : Int) ∧ blk.c.get (2 * i + 1) = .i .i64 ((L.getD i (0, 0)).2 : Int)
theorem PV.isP {v : AVal} {L : List (Nat × Nat)} (a : PV H Lb v L) : IsP ro H v L := by
  rcases a with a | ⟨b, blk, h1, h2, h3, h4, h5, h6, h7⟩
  · exact .inl a
  · exact .inr ⟨b, .grow, blk, h1, h4, h6, h7⟩
theorem IsP.by {H' : Heap} {v : AVal} {L : List (Nat × Nat)} (a : IsP ro H v L) (k : Keep H H') : IsP ro H' v L := by
  rcases a with a | ⟨b, c, blk, h1, h4, h5⟩
  · exact .inl a
  · exact .inr ⟨b, c, blk, h1, by rw [lget_of (k.2 b (lget_lt h4))]; exact h4, h5⟩
theorem IsP.len {v : AVal} {L : List (Nat × Nat)} (a : IsP ro H v L) : evP .e (.len false (.c v)) = some (.i .i64 (L.length : Int)) := by
  rcases a with ⟨rfl, rfl⟩ | ⟨b, c, blk, rfl, -⟩
  · rfl
  · simp only [evP, ev_len, opd, cond_false, mkI_eq]
theorem ixS2 {b len i : Nat} {c : Cap} (hi : i < len) : evP .e (.ixS 2 (.c (.sl ⟨false, b, 0⟩ len c)) (.c (.i .i64 (i : Int)))) = some (.p (some ⟨false, b, 0 + i * 2⟩)) := by
  have e : ((i : Int)) = Int.ofNat i := rfl
  have hb : Nat.blt i len = true := by rw [Nat.blt_eq]; exact hi
  rw [e]
  simp only [evP, ev_ixS, opd, atI, hb, cond_true]
/-- an element: its address, its two fields -/
theorem IsP.at {v : AVal} {L : List (Nat × Nat)} (a : IsP ro H v L) {i : Nat} (hi : i < L.length) : ∃ p p0 p1, evP .e (.ixS 2 (.c v) (.c (.i .i64 (i : Int)))) = some p ∧ evP .e (.faddr 0 (.c p)) = some p0 ∧ evP .e (.faddr 1 (.c p)) = some p1 ∧
    (∀ l q, ldM ro ⟨H, l, q⟩ true 1 p0 = some (.i .i64 ((L.getD i (0, 0)).1 : Int))) ∧ (∀ l q, ldM ro ⟨H, l, q⟩ true 1 p1 = some (.i .i64 ((L.getD i (0, 0)).2 : Int))) ∧ ldA ro H true 1 p0 = some (.i .i64 ((L.getD i (0, 0)).1 : Int)) := by
  rcases a with ⟨rfl, rfl⟩ | ⟨b, c, blk, rfl, h1, h2, h3⟩
  · exact absurd hi (Nat.not_lt_zero _)
  · obtain ⟨g1, g2⟩ := h3 i hi
    refine ⟨_, _, _, ixS2 hi, p_faddr .., p_faddr .., fun l q => ?_, fun l q => ?_, ?_⟩
    · rw [ld_heap rfl h1 (by omega), show 0 + i * 2 + 0 = 2 * i by omega, g1]
    · rw [ld_heap rfl h1 (by omega), show 0 + i * 2 + 1 = 2 * i + 1 by omega, g2]
    · rw [lda_heap h1 (by omega), show 0 + i * 2 + 0 = 2 * i by omega, g1]
theorem addL_no {r w : Nat} : ∀ {L : List (Nat × Nat)}, (∀ i, i < L.length → (L.getD i (0, 0)).1 ≠ r) → addL L r w = L ++ [(r, w)]
  | [], _ => rfl
  | e :: L, h => by
    unfold addL
    rw [if_neg (show ¬ e.1 = r from h 0 (by simp)), addL_no (fun i hi => h (i + 1) (by simp; omega))]
    rfl
theorem addL_at {r w : Nat} : ∀ {L : List (Nat × Nat)} {k : Nat}, k < L.length → (∀ i, i < k → (L.getD i (0, 0)).1 ≠ r) → (L.getD k (0, 0)).1 = r → addL L r w = L.set k (r, (L.getD k (0, 0)).2 + w)
  | [], k, hk, _, _ => absurd hk (Nat.not_lt_zero _)
  | e :: L, 0, _, _, h => by
    unfold addL
    have h' : e.1 = r := h
    rw [if_pos h']; rfl
  | e :: L, k + 1, hk, hn, h => by
    unfold addL
    rw [if_neg (show ¬ e.1 = r from hn 0 (by omega)), addL_at (k := k) (by simpa using hk) (fun i hi => hn (i + 1) (by omega)) h]
    rfl
theorem row_get (t : Tr) (n j : Nat) (hj : j < n) : (t.row 0 n).getD j und = t.get j := by
  have := row_row (t := t) n 0 ((List.range n).map fun j => t.get j) (by simp) (fun j hj => by rw [Nat.zero_add, getD_map_range _ _ hj])
  rw [this, getD_map_range _ _ hj]
theorem row_len (t : Tr) (n : Nat) : (t.row 0 n).length = n := by
  have := row_row (t := t) n 0 ((List.range n).map fun j => t.get j) (by simp) (fun j hj => by rw [Nat.zero_add, getD_map_range _ _ hj])
  rw [this]; simp
theorem fill2 (a b : Int) : (fillA [(AVal.i IntKind.i64 0), (AVal.i IntKind.i64 0)] [((0, 1), (.i .i64 a)), ((1, 1), (.i .i64 b))]).map AVal.agg = some (.agg [.i .i64 a, .i .i64 b]) := rfl
theorem bslP (X : Heap) (l p : Nat) (a b : Int) : stepM ro ⟨X, l, p⟩ (.bsl 64 2 [(AVal.i IntKind.i64 0), (AVal.i IntKind.i64 0)] 1 [((0, 2), .c (.agg [.i .i64 a, .i .i64 b]))]) = some (.sl ⟨false, X.length, 0⟩ 1 (.known 1), ⟨X ++ [some (blkOf 64 [.i .i64 a, .i .i64 b])], l, p⟩) := rfl
theorem appP {v : AVal} {L : List (Nat × Nat)} (a : PV H Lb v L) (hH : Lb ≤ H.length) (hL : L.length ≤ 1000) {r w : Nat} {l p : Nat} (hl : Lb ≤ l) (hp : Lb ≤ p) : ∃ v' H' l' p', stepM ro ⟨H ++ [some (blkOf 64 [.i .i64 (r : Int), .i .i64 (w : Int)])], l, p⟩ (.app 64 2 16 [(AVal.i IntKind.i64 0), (AVal.i IntKind.i64 0)] (.c v) (.c (.sl ⟨false, H.length, 0⟩ 1 (.known 1)))) = some (v', ⟨H', l', p'⟩) ∧ PV H' Lb v' (L ++ [(r, w)]) ∧ v'.bel H.length = false ∧ H.length ≤ H'.length ∧ (∀ i, i < Lb → H'[i]? = H[i]?) ∧ Lb ≤ l' ∧ Lb ≤ p' := by
  obtain ⟨nw, hnw⟩ : ∃ nw : ABlk, nw = blkOf 64 [.i .i64 (r : Int), .i .i64 (w : Int)] := ⟨_, rfl⟩
  rw [← hnw]
  obtain ⟨hp2, e2⟩ : ∃ hp2, hp2 = H ++ [some nw] := ⟨_, rfl⟩
  have hlen2 : hp2.length = H.length + 1 := by rw [e2]; simp
  have src : app_src ro hp2 2 (.sl ⟨false, H.length, 0⟩ 1 (.known 1)) = some ([.i .i64 (r : Int), .i .i64 (w : Int)], 1) := by
    have hbq : rdB ro hp2 ⟨false, H.length, 0⟩ = some nw := by rw [e2]; simp [rdB, lget_eq]
    have hg : nw.c.row 0 2 = [.i .i64 (r : Int), .i .i64 (w : Int)] := by rw [hnw]; exact row_row 2 0 _ rfl fun j hj => by rw [Nat.zero_add, get_blk]
    have hble : Nat.ble (0 + 1 * 2) nw.n = true := by rw [hnw]; rfl
    simp only [app_src, hbq, hble, cond_true]
    rw [show 1 * 2 = 2 from rfl, hg]
  have hb10 : Nat.beq 1 0 = false := rfl
  rw [← e2]
  have hbel : ∀ b k c, H.length ≤ b → (AVal.sl ⟨false, b, 0⟩ k c).bel H.length = false := fun b k c hb => not_bel hb
  rcases a with ⟨rfl, rfl⟩ | ⟨b, blk, rfl, hpos, hLb, hbk, hbe, hbn, hrows⟩
  · refine ⟨.sl ⟨false, H.length + 1, 0⟩ 1 .grow, hp2 ++ [some nw], l, p, ?_, .inr ⟨H.length + 1, nw, rfl, by simp, by omega, ?_, by rw [hnw]; rfl, by rw [hnw]; exact Nat.le_refl _, fun i hi => ?_⟩, hbel _ _ _ (by omega), by simp; omega, fun i hi => ?_, hl, hp⟩
    · simp only [stepM, stepK, opd, st_app, Mm.st, src, hb10, cond_false, fits_small (by omega : 1 ≤ 1000000) (by omega : 16 ≤ 1000), cond_true, newB, St.mm, hlen2]
      rw [hnw]
    · rw [← hlen2]; exact lget_last _ _
    · have : i = 0 := by simp at hi; omega
      subst this
      rw [hnw]; exact ⟨rfl, rfl⟩
    · rw [List.getElem?_append_left (by omega), e2, List.getElem?_append_left (by omega)]
  · have hlt : b < H.length := lget_lt hbk
    have hb2 : lget hp2 b = some (some blk) := by rw [e2]; exact lget_ext hbk _
    obtain ⟨cs, hcs⟩ : ∃ cs, cs = blk.c.row 0 (L.length * 2) ++ [AVal.i .i64 (r : Int), .i .i64 (w : Int)] := ⟨_, rfl⟩
    have hcl : cs.length = 2 * L.length + 2 := by rw [hcs, List.length_append, row_len]; simp; omega
    refine ⟨.sl ⟨false, hp2.length, 0⟩ (L.length + 1) .grow, lset none hp2 b ++ [some (blkOf 64 cs)], min l b, min p b, ?_, .inr ⟨hp2.length, blkOf 64 cs, by simp, by simp, by omega, ?_, rfl, ?_, fun i hi => ?_⟩, hbel _ _ _ (by omega), by simp [lset_eq]; omega, fun i hi => ?_, by omega, by omega⟩
    · have h1 : (Nat.beq blk.e 64 && Nat.ble (L.length * 2) blk.n && fits (L.length + 1) 16 && ones [AVal.i .i64 (r : Int), .i .i64 (w : Int)] && Nat.blt 0 blk.n) = true := by
        rw [hbe, fits_small (by omega : L.length + 1 ≤ 1000000) (by omega : 16 ≤ 1000)]
        have ho : ones [AVal.i .i64 (r : Int), .i .i64 (w : Int)] = true := rfl
        have hb1 : Nat.ble (L.length * 2) blk.n = true := by rw [Nat.ble_eq]; omega
        have hb3 : Nat.blt 0 blk.n = true := by rw [Nat.blt_eq]; omega
        rw [ho, hb1, hb3]; rfl
      have h2 : (!Nat.beq 0 0) = false := rfl
      simp only [stepM, stepK, opd, st_app, Mm.st, src, app_grow, hb10, h2, cond_false, Bool.or_false, Bool.false_or, hb2, h1, cond_true, St.mm, ← hcs]
    · rw [lget_eq, lset_eq, List.getElem?_append_right (by simp)]
      simp
    · show 2 * (L ++ [(r, w)]).length ≤ cs.length
      rw [hcl]; simp; omega
    · have hget : ∀ j, (blkOf 64 cs).c.get j = cs.getD j und := fun j => get_blk _ _ _
      rw [hget, hget, hcs]
      rcases Nat.lt_or_ge i L.length with h3 | h3
      · obtain ⟨g1, g2⟩ := hrows i h3
        have ea : (L ++ [(r, w)]).getD i (0, 0) = L.getD i (0, 0) := by simp [List.getD, h3, List.getElem?_append_left]
        rw [ea, ← g1, ← g2]
        have hk : ∀ j, j < 2 * L.length → (blk.c.row 0 (L.length * 2) ++ [AVal.i .i64 (r : Int), .i .i64 (w : Int)]).getD j und = blk.c.get j := fun j hj => by
          rw [List.getD_eq_getElem?_getD, List.getElem?_append_left (by rw [row_len]; omega), ← List.getD_eq_getElem?_getD, row_get _ _ _ (by omega)]
        exact ⟨hk _ (by omega), hk _ (by omega)⟩
      · have : i = L.length := by simp at hi; omega
        subst this
        have ea : (L ++ [(r, w)]).getD L.length (0, 0) = (r, w) := by simp [List.getD]
        rw [ea]
        constructor
        · rw [List.getD_eq_getElem?_getD, List.getElem?_append_right (by rw [row_len]; omega), row_len, show 2 * L.length - L.length * 2 = 0 by omega]; rfl
        · rw [List.getD_eq_getElem?_getD, List.getElem?_append_right (by rw [row_len]; omega), row_len, show 2 * L.length + 1 - L.length * 2 = 1 by omega]; rfl
    · rw [lset_eq, List.getElem?_append_left (by simp; omega), List.getElem?_set_ne (by omega), e2, List.getElem?_append_left (by omega)]
end
end Go.Proofs.Ytobmcofkcfifkaa.T

/- add -/
open Go.Vm
set_option linter.unusedVariables false
namespace Go.Proofs.Ytobmcofkcfifkaa.T
open Go

section
variable {ro : List ABlk} {h H : Heap} {Lb : Nat}
theorem fin_new {v : AVal} {L : Nat} {m : Mm} (hb : v.bel L = false) : finM L v m = some (v, m.h, m.lw, m.lp) := by
  simp only [finM, gc, hb, Bool.and_false]
  rfl
theorem add61 {v : AVal} {L : List (Nat × Nat)} (a : PV H Lb v L) (hH : Lb ≤ H.length) (hL : L.length ≤ 1000) {r w : Nat} (hw : ∀ i, i < L.length → (L.getD i (0, 0)).2 + w ≤ 4611686018427387904) :
    ∃ v' H' l' p', callX F1 ro 61 [v, .i .i64 (r : Int), .i .i64 (w : Int)] H = some (v', H', l', p') ∧ PV H' Lb v' (addL L r w) ∧ H.length ≤ H'.length ∧ (∀ i, i < Lb → H'[i]? = H[i]?) ∧ Lb ≤ l' ∧ Lb ≤ p' := by
  have ai := a.isP (ro := ro)
  have key : ∃ rr : Mm ⊕ (AVal × Mm), loopX (fun s : Int × Mm => g61_b0 (meansX F1 ro) ro v (r : Int) (w : Int) s.1 s.2) (0, ⟨H, H.length, H.length⟩) = some rr ∧
      ((rr = .inl ⟨H, H.length, H.length⟩ ∧ ∀ i, i < L.length → (L.getD i (0, 0)).1 ≠ r) ∨ ∃ k H' l', k < L.length ∧ (∀ i, i < k → (L.getD i (0, 0)).1 ≠ r) ∧ (L.getD k (0, 0)).1 = r ∧ rr = .inr (v, ⟨H', l', H.length⟩) ∧ PV H' Lb v (L.set k (r, (L.getD k (0, 0)).2 + w)) ∧ H'.length = H.length ∧ (∀ i, i < Lb → H'[i]? = H[i]?) ∧ Lb ≤ l') := by
    refine loop_exit L.length (fun i s => s = ((i : Int), (⟨H, H.length, H.length⟩ : Mm)) ∧ ∀ j, j < i → (L.getD j (0, 0)).1 ≠ r) _ ?_ ?_ L.length 0 _ (by omega) ⟨rfl, fun j hj => absurd hj (Nat.not_lt_zero _)⟩
    · rintro i s hi ⟨rfl, hno⟩
      obtain ⟨p, p0, p1, f1, f2, f3, f4, f5, f6⟩ := ai.at hi
      by_cases hr : (L.getD i (0, 0)).1 = r
      · refine .inr ?_
        rcases a with ⟨-, h2⟩ | ⟨b, blk, rfl, h2, h3, h4, h5, h6, h7⟩
        · rw [h2] at hi; exact absurd hi (Nat.not_lt_zero _)
        · have q1 := ixS2 (b := b) (c := .grow) hi
          have q2 : p = .p (some ⟨false, b, 0 + i * 2⟩) := Option.some.inj (f1.symm.trans q1)
          subst q2
          have q3 : p1 = .p (some ⟨false, b, 0 + i * 2 + 1⟩) := Option.some.inj (f3.symm.trans (p_faddr ..))
          subst q3
          have hwi := hw i hi
          have e1 : wr .i64 (((L.getD i (0, 0)).2 : Int) + (w : Int)) = (((L.getD i (0, 0)).2 + w : Nat) : Int) := by rw [wr_id' (by omega) (by omega)]; omega
          have hs := st_heap (ro := ro) (l := H.length) (p := H.length) h4 (show 0 + i * 2 + 1 < blk.n by omega) (v := .i .i64 (((L.getD i (0, 0)).2 + w : Nat) : Int)) rfl rfl rfl
          have hbl := lget_lt h4
          refine ⟨_, (by simp only [g61_b0, ai.len, oS, iS, fB, ltT (show (i : Int) < (L.length : Int) by omega), cT, f1, f2, f4, hr, eqI_self, f3, f5, fI', e1, hs, pS]), .inr ⟨i, H.set b (some { blk with c := blk.c.set (0 + i * 2 + 1) (.i .i64 (((L.getD i (0, 0)).2 + w : Nat) : Int)) }), min H.length b, hi, hno, hr, rfl, .inr ⟨b, { blk with c := blk.c.set (0 + i * 2 + 1) (.i .i64 (((L.getD i (0, 0)).2 + w : Nat) : Int)) }, by rw [List.length_set], by rw [List.length_set]; exact h2, h3, lget_set h4 _, h5, by rw [List.length_set]; exact h6, fun j hj => ?_⟩, by simp, fun j hj => List.getElem?_set_ne (by omega), by omega⟩⟩
          rw [List.length_set] at hj
          obtain ⟨g1, g2⟩ := h7 j hj
          show (blk.c.set (0 + i * 2 + 1) _).get (2 * j) = _ ∧ (blk.c.set (0 + i * 2 + 1) _).get (2 * j + 1) = _
          rw [get_set, get_set, if_neg (by omega)]
          by_cases e : j = i
          · subst e
            have e2 : (L.set j (r, (L.getD j (0, 0)).2 + w)).getD j (0, 0) = (r, (L.getD j (0, 0)).2 + w) := by simp [List.getD, hj]
            rw [if_pos (by omega), e2]
            exact ⟨by rw [g1, hr], rfl⟩
          · have e2 : (L.set i (r, (L.getD i (0, 0)).2 + w)).getD j (0, 0) = L.getD j (0, 0) := by simp [List.getD, List.getElem?_set_ne (Ne.symm e)]
            rw [if_neg (by omega), e2]
            exact ⟨g1, g2⟩
      · refine .inl ⟨_, (by simp only [g61_b0, ai.len, oS, iS, fB, ltT (show (i : Int) < (L.length : Int) by omega), cT, f1, f2, f4, eqI_ne (show ((L.getD i (0, 0)).1 : Int) ≠ (r : Int) by omega), cF, fI', wr_next (show i ≤ 1000000 by omega)]), rfl, fun j hj => ?_⟩
        rcases Nat.lt_or_ge j i with h | h
        · exact hno j h
        · have : j = i := by omega
          subst this; exact hr
    · rintro s ⟨rfl, hno⟩
      exact ⟨_, by simp only [g61_b0, ai.len, oS, iS, fB, ltF (Int.lt_irrefl _), cF], .inl ⟨rfl, hno⟩⟩
  obtain ⟨rr, hl, ⟨rfl, hno⟩ | ⟨k, H', l', hk, hno, hr, rfl, b1, b2, b3, b4⟩⟩ := key
  · obtain ⟨v', H', l', p', s1, s2, s3, s4, s5, s6, s7⟩ := appP (ro := ro) a hH hL (r := r) (w := w) hH hH
    refine ⟨v', H', l', p', g61_ok (meansX_ok F1 ro) rfl ?_, by rw [addL_no hno]; exact s2, s4, s5, s6, s7⟩
    unfold g61
    simp only [meansX_loop]
    rw [hl]
    simp only [oS, fill2, bslP, pS, s1, tA]
    exact fin_new s3
  · refine ⟨v, H', l', H.length, g61_ok (meansX_ok F1 ro) rfl ?_, by rw [addL_at hk hno hr]; exact b1, by omega, b3, b4, hH⟩
    unfold g61
    simp only [meansX_loop]
    rw [hl]
    simp only [oS, tA]
    conv => lhs; rw [← b2]
    rw [b2]
    have := fin_same (h := H') (v := v) (l := l') (p := H.length)
    rw [b2] at this
    exact this
end
end Go.Proofs.Ytobmcofkcfifkaa.T

/- The lists on the way -/
open Go.Vm
set_option linter.unusedVariables false
namespace Go.Proofs.Ytobmcofkcfifkaa.T
open Go

/-- a list on the way: so many in all, its rests one of three, each once -/
def Good (k z t : Nat) (L : List (Nat × Nat)) : Prop := wt (rep2 k) L = t ∧ (∀ x ∈ L.map Prod.fst, x + 2 ≤ fb (k + 3) ∧ (x = z ∨ x = z + fb (k + 2) ∨ x = z + fb (k + 1))) ∧ (L.map Prod.fst).Nodup
theorem Good.add {k z t x w : Nat} {L : List (Nat × Nat)} (g : Good k z t L) (hx : x + 2 ≤ fb (k + 3) ∧ (x = z ∨ x = z + fb (k + 2) ∨ x = z + fb (k + 1))) : Good k z (t + w * rep2 k x) (addL L x w) :=
  ⟨by rw [wt_add, g.1], fun y hy => by
    rcases mem_addL.1 hy with h | h
    · exact g.2.1 y h
    · rw [h]; exact hx, nodup_addL g.2.2⟩
theorem Good.len {k z t : Nat} {L : List (Nat × Nat)} (g : Good k z t L) : L.length ≤ 3 := by
  have := nodup_len (l' := [z, z + fb (k + 2), z + fb (k + 1)]) g.2.2 fun x hx => by
    have := (g.2.1 x hx).2
    simpa using this
  simpa using this
theorem wt_mem {f : Nat → Nat} : ∀ {L : List (Nat × Nat)} {e : Nat × Nat}, e ∈ L → e.2 * f e.1 ≤ wt f L
  | [], _, h => by simp at h
  | a :: L, e, h => by
    show _ ≤ a.2 * f a.1 + wt f L
    rcases List.mem_cons.1 h with rfl | h
    · omega
    · have := wt_mem (f := f) h; omega
theorem Good.ways {k z t : Nat} {L : List (Nat × Nat)} (g : Good k z t L) {e : Nat × Nat} (he : e ∈ L) : e.2 ≤ t := by
  have h1 := wt_mem (f := rep2 k) he
  have h2 := (g.2.1 e.1 (List.mem_map_of_mem he)).1
  have h3 := rep2_pos k e.1 h2
  have h4 : e.2 * 1 ≤ e.2 * rep2 k e.1 := Nat.mul_le_mul_left _ h3
  rw [g.1] at h1
  omega
theorem Good.at {k z t i : Nat} {L : List (Nat × Nat)} (g : Good k z t L) (hi : i < L.length) : (L.getD i (0, 0)).2 ≤ t := by
  have : L.getD i (0, 0) ∈ L := by simp [List.getD, hi]
  exact g.ways this
def nz (F z : Nat) : Nat := if F ≤ z then z - F else z
/-- one element -/
theorem Good.stq {k z0 t : Nat} {L : List (Nat × Nat)} {e : Nat × Nat} (hz : z0 < fb (k + 3)) (g : Good k (nz (fb (k + 2)) z0) t L) (he : e.1 + 2 ≤ fb (k + 4) ∧ (e.1 = z0 ∨ e.1 = z0 + fb (k + 3) ∨ e.1 = z0 + fb (k + 2))) :
    Good k (nz (fb (k + 2)) z0) (t + e.2 * rep2 (k + 1) e.1) (Go.Proofs.Ytobmcofkcfifkaa.T.stq (fb (k + 3) - 2) (fb (k + 2)) L e) ∧ Good k (nz (fb (k + 2)) z0) (t + e.2 * rep2 k e.1) (if e.1 ≤ fb (k + 3) - 2 then addL L e.1 e.2 else L) := by
  have e3 : fb (k + 3) = fb (k + 1) + fb (k + 2) := rfl
  have e4 : fb (k + 4) = fb (k + 2) + fb (k + 3) := rfl
  have h1 := fb_le (show k + 1 ≤ k + 2 by omega)
  have h2 := fb_pos k
  have h3 := fb_pos (k + 1)
  have hnz : (fb (k + 2) ≤ z0 ∧ nz (fb (k + 2)) z0 = z0 - fb (k + 2)) ∨ (z0 < fb (k + 2) ∧ nz (fb (k + 2)) z0 = z0) := by
    unfold nz
    by_cases h : fb (k + 2) ≤ z0
    · exact .inl ⟨h, if_pos h⟩
    · exact .inr ⟨by omega, if_neg h⟩
  generalize nz (fb (k + 2)) z0 = z at *
  have ga : Good k z (t + e.2 * rep2 k e.1) (if e.1 ≤ fb (k + 3) - 2 then addL L e.1 e.2 else L) := by
    by_cases h : e.1 ≤ fb (k + 3) - 2
    · rw [if_pos h]
      exact g.add ⟨by omega, by omega⟩
    · rw [if_neg h, rep2_big k e.1 (by omega), Nat.mul_zero]
      exact g
  refine ⟨?_, ga⟩
  show Good k z (t + e.2 * (rep2 k e.1 + if fb (k + 2) ≤ e.1 then rep2 k (e.1 - fb (k + 2)) else 0)) (if fb (k + 2) ≤ e.1 ∧ e.1 - fb (k + 2) ≤ fb (k + 3) - 2 then addL (if e.1 ≤ fb (k + 3) - 2 then addL L e.1 e.2 else L) (e.1 - fb (k + 2)) e.2 else (if e.1 ≤ fb (k + 3) - 2 then addL L e.1 e.2 else L))
  rw [Nat.mul_add, ← Nat.add_assoc]
  by_cases h : fb (k + 2) ≤ e.1
  · rw [if_pos h]
    by_cases h4 : e.1 - fb (k + 2) ≤ fb (k + 3) - 2
    · rw [if_pos ⟨h, h4⟩]
      exact ga.add ⟨by omega, by omega⟩
    · rw [if_neg (fun e => h4 e.2), rep2_big k (e.1 - fb (k + 2)) (by omega), Nat.mul_zero]
      exact ga
  · rw [if_neg h, if_neg (fun e => h e.1), Nat.mul_zero]
    exact ga
theorem wt_take (f : Nat → Nat) : ∀ (L : List (Nat × Nat)) (j : Nat), wt f (L.take j) ≤ wt f L
  | [], j => by simp [wt]
  | a :: L, 0 => Nat.zero_le _
  | a :: L, j + 1 => by
    have := wt_take f L j
    show a.2 * f a.1 + wt f (L.take j) ≤ a.2 * f a.1 + wt f L
    omega
theorem wt_app (f : Nat → Nat) : ∀ (L M : List (Nat × Nat)), wt f (L ++ M) = wt f L + wt f M
  | [], M => by simp [wt]
  | a :: L, M => by
    show a.2 * f a.1 + wt f (L ++ M) = a.2 * f a.1 + wt f L + wt f M
    rw [wt_app f L M]; omega
theorem take_get {L : List (Nat × Nat)} {j : Nat} (hj : j < L.length) : L.take (j + 1) = L.take j ++ [L.getD j (0, 0)] := by
  rw [List.take_add_one]
  simp [List.getD, hj]
def accL (lim F : Nat) (L : List (Nat × Nat)) (j : Nat) : List (Nat × Nat) := (L.take j).foldl (stq lim F) []
theorem accL_succ {lim F : Nat} {L : List (Nat × Nat)} {j : Nat} (hj : j < L.length) : accL lim F L (j + 1) = stq lim F (accL lim F L j) (L.getD j (0, 0)) := by
  unfold accL
  rw [take_get hj, List.foldl_append]; rfl
theorem Good.acc {k z0 s : Nat} {L : List (Nat × Nat)} (hz : z0 < fb (k + 3)) (g : Good (k + 1) z0 s L) : ∀ j, j ≤ L.length → Good k (nz (fb (k + 2)) z0) (wt (rep2 (k + 1)) (L.take j)) (accL (fb (k + 3) - 2) (fb (k + 2)) L j)
  | 0, _ => ⟨rfl, fun x hx => by simp [accL] at hx, List.nodup_nil⟩
  | j + 1, hj => by
    have ih := Good.acc hz g j (by omega)
    have hm : L.getD j (0, 0) ∈ L := by simp [List.getD, show j < L.length by omega]
    have := (ih.stq (e := L.getD j (0, 0)) hz (g.2.1 _ (List.mem_map_of_mem hm))).1
    rw [accL_succ (by omega), take_get (by omega), wt_app]
    exact this
end Go.Proofs.Ytobmcofkcfifkaa.T

/- One element -/
open Go.Vm
set_option linter.unusedVariables false
namespace Go.Proofs.Ytobmcofkcfifkaa.T
open Go

section
variable {ro : List ABlk} {h H : Heap} {Lb : Nat}
theorem base_eq (m : Mm) : Mm.base m = ⟨m.h, m.h.length, m.h.length⟩ := rfl
theorem join_eq (m n : Mm) : Mm.join m n = ⟨n.h, min m.lw n.lw, min m.lp n.lp⟩ := rfl
theorem PV.by {H' : Heap} {v : AVal} {L : List (Nat × Nat)} (a : PV H Lb v L) (k : H' = H) : PV H' Lb v L := by rw [k]; exact a
/-- one element of the list -/
theorem elem26 {v4 v6 : AVal} {L acc : List (Nat × Nat)} {H5 H6 : Heap} {i j G : Nat} (hi : i ≤ 89) (hG : 2 ≤ G) (hG2 : G ≤ 4611686018427387904) (h5 : h.length ≤ H5.length) (a4 : IsP ro H5 v4 L) (k6 : Keep H5 H6) (p6 : PV H6 H5.length v6 acc) (hj : j < L.length) (hLl : L.length ≤ 1000)
    (he : (L.getD j (0, 0)).1 ≤ 4611686018427387904)
    (b1 : acc.length ≤ 1000 ∧ ∀ q, q < acc.length → (acc.getD q (0, 0)).2 + (L.getD j (0, 0)).2 ≤ 4611686018427387904)
    (b2 : (if (L.getD j (0, 0)).1 ≤ G - 2 then addL acc (L.getD j (0, 0)).1 (L.getD j (0, 0)).2 else acc).length ≤ 1000 ∧ ∀ q, q < (if (L.getD j (0, 0)).1 ≤ G - 2 then addL acc (L.getD j (0, 0)).1 (L.getD j (0, 0)).2 else acc).length → ((if (L.getD j (0, 0)).1 ≤ G - 2 then addL acc (L.getD j (0, 0)).1 (L.getD j (0, 0)).2 else acc).getD q (0, 0)).2 + (L.getD j (0, 0)).2 ≤ 4611686018427387904) :
    ∃ v' H', g26_b1 (meansX F1 ro) ro v4 (i : Int) ((G - 2 : Nat) : Int) v6 (j : Int) ⟨H6, h.length, h.length⟩ = some (.inl (v', ((j + 1 : Nat) : Int), ⟨H', h.length, h.length⟩)) ∧ PV H' H5.length v' (stq (G - 2) (fb i) acc (L.getD j (0, 0))) ∧ Keep H5 H' := by
  have a6 := a4.by k6
  obtain ⟨p, p0, p1, f1, f2, f3, f4, f5, f6⟩ := a6.at hj
  generalize hx : (L.getD j (0, 0)).1 = x at *
  generalize hw : (L.getD j (0, 0)).2 = w at *
  have hfb := fb_le hi
  have h89 : fb 89 = 1779979416004714189 := fb89
  have hk6 := k6.1
  have eF : rF (i : Int) = (fb i : Int) := rF_low hi
  -- the first of the two
  obtain ⟨va, Ha, pa, ka, hc⟩ : ∃ va Ha, PV Ha H5.length va (if x ≤ G - 2 then addL acc x w else acc) ∧ Keep H5 Ha ∧ ((x ≤ G - 2 ∧ ∃ l' p', callM (callX F1 ro) ⟨H6, H6.length, H6.length⟩ 61 [v6, .i .i64 (x : Int), .i .i64 (w : Int)] = some (va, ⟨Ha, l', p'⟩) ∧ min h.length l' = h.length ∧ min h.length p' = h.length) ∨ (¬ x ≤ G - 2 ∧ va = v6 ∧ Ha = H6)) := by
    by_cases hle : x ≤ G - 2
    · obtain ⟨v', H', l', p', c1, c2, c3, c4, c5, c6⟩ := add61 (ro := ro) p6 hk6 b1.1 (r := x) (w := w) b1.2
      refine ⟨v', H', by rw [if_pos hle]; exact c2, ⟨by omega, fun q hq => by rw [c4 q hq, k6.2 q hq]⟩, .inl ⟨hle, _, _, callM_eq (m := (⟨H6, H6.length, H6.length⟩ : Mm)) c1, ?_, ?_⟩⟩
      · show min h.length (min H6.length l') = _; omega
      · show min h.length (min H6.length p') = _; omega
    · exact ⟨v6, H6, by rw [if_neg hle]; exact p6, k6, .inr ⟨hle, rfl, rfl⟩⟩
  have aa := a4.by ka
  obtain ⟨p', p0', p1', f1', f2', f3', f4', f5', f6'⟩ := aa.at hj
  obtain rfl : p' = p := Option.some.inj (f1'.symm.trans f1)
  obtain rfl : p0' = p0 := Option.some.inj (f2'.symm.trans f2)
  obtain rfl : p1' = p1 := Option.some.inj (f3'.symm.trans f3)
  rw [hx] at f4' f6'
  rw [hw] at f5'
  have hka := ka.1
  have e50 := cp (fib50 (ro := ro) (h := Ha) (i := (i : Int)) (by omega) (by omega)) (Nat.le_refl Ha.length) (Nat.le_refl Ha.length)
  have hblt : (!Nat.blt Ha.length Ha.length) = true := by
    have : Nat.blt Ha.length Ha.length = false := by rw [← Bool.not_eq_true, Nat.blt_eq]; omega
    rw [this]; rfl
  have e1 : wr .i64 ((x : Int) - (fb i : Int)) = (x : Int) - (fb i : Int) := wr_id' (by omega) (by omega)
  have m1 : min h.length Ha.length = h.length := by omega
  unfold stq
  rw [hx, hw]
  by_cases hF : fb i ≤ x ∧ x - fb i ≤ G - 2
  · have e2 : (x : Int) - (fb i : Int) = ((x - fb i : Nat) : Int) := by omega
    obtain ⟨v', H', l', q', c1, c2, c3, c4, c5, c6⟩ := add61 (ro := ro) pa hka b2.1 (r := x - fb i) (w := w) b2.2
    refine ⟨v', H', ?_, by simp only [if_pos hF]; exact c2, ⟨by omega, fun q hq => by rw [c4 q hq, ka.2 q hq]⟩⟩
    have hcall := callM_eq (m := (⟨Ha, h.length, h.length⟩ : Mm)) c1
    rw [show min h.length l' = h.length by omega, show min h.length q' = h.length by omega] at hcall
    unfold g26_b1
    rcases hc with ⟨hle, l2, p2, k1, k2, k3⟩ | ⟨hle, rfl, rfl⟩
    · simp only [a6.len, oS, iS, fB, ltT (show (j : Int) < (L.length : Int) by omega), cT, f1, f2, f4, mC, base_eq, join_eq, ltF (show ¬ ((G - 2 : Nat) : Int) < (x : Int) by omega), nF, f3, f5, k1, k2, k3, pS, f1', f2', f6', oS, iS, e50, pS, eF, hblt, chk_true, fI', e2, lt64 (show x - fb i ≤ 9223372036854775807 by omega), m1, ltF (show ¬ ((x - fb i : Nat) : Int) < 0 by omega), ltF (show ¬ ((G - 2 : Nat) : Int) < ((x - fb i : Nat) : Int) by omega), nF, cT, f3', f5', hcall, wr_next (show j ≤ 1000000 by omega)]
    · simp only [a6.len, oS, iS, fB, ltT (show (j : Int) < (L.length : Int) by omega), cT, f1, f2, f4, mC, base_eq, join_eq, ltT (show ((G - 2 : Nat) : Int) < (x : Int) by omega), nT, cF, f1', f2', f6', oS, iS, e50, pS, eF, hblt, chk_true, fI', e2, lt64 (show x - fb i ≤ 9223372036854775807 by omega), m1, ltF (show ¬ ((x - fb i : Nat) : Int) < 0 by omega), ltF (show ¬ ((G - 2 : Nat) : Int) < ((x - fb i : Nat) : Int) by omega), nF, cT, f3', f5', hcall, wr_next (show j ≤ 1000000 by omega)]
  · refine ⟨va, Ha, ?_, by simp only [if_neg hF]; exact pa, ka⟩
    unfold g26_b1
    have h2 : (x : Int) - (fb i : Int) < 0 ∨ (¬ (x : Int) - (fb i : Int) < 0 ∧ ((G - 2 : Nat) : Int) < (x : Int) - (fb i : Int)) := by omega
    rcases hc with ⟨hle, l2, p2, k1, k2, k3⟩ | ⟨hle, rfl, rfl⟩
    · rcases h2 with h2 | ⟨h2, h3⟩
      · simp only [a6.len, oS, iS, fB, ltT (show (j : Int) < (L.length : Int) by omega), cT, f1, f2, f4, mC, base_eq, join_eq, ltF (show ¬ ((G - 2 : Nat) : Int) < (x : Int) by omega), nF, f3, f5, k1, k2, k3, pS, f1', f2', f6', oS, iS, e50, pS, eF, hblt, chk_true, fI', e1, m1, ltT h2, nT, cF, wr_next (show j ≤ 1000000 by omega)]
      · simp only [a6.len, oS, iS, fB, ltT (show (j : Int) < (L.length : Int) by omega), cT, f1, f2, f4, mC, base_eq, join_eq, ltF (show ¬ ((G - 2 : Nat) : Int) < (x : Int) by omega), nF, f3, f5, k1, k2, k3, pS, f1', f2', f6', oS, iS, e50, pS, eF, hblt, chk_true, fI', e1, m1, ltF h2, ltT h3, nF, nT, cT, cF, wr_next (show j ≤ 1000000 by omega)]
    · rcases h2 with h2 | ⟨h2, h3⟩
      · simp only [a6.len, oS, iS, fB, ltT (show (j : Int) < (L.length : Int) by omega), cT, f1, f2, f4, mC, base_eq, join_eq, ltT (show ((G - 2 : Nat) : Int) < (x : Int) by omega), nT, cF, f1', f2', f6', oS, iS, e50, pS, eF, hblt, chk_true, fI', e1, m1, ltT h2, nT, cF, wr_next (show j ≤ 1000000 by omega)]
      · simp only [a6.len, oS, iS, fB, ltT (show (j : Int) < (L.length : Int) by omega), cT, f1, f2, f4, mC, base_eq, join_eq, ltT (show ((G - 2 : Nat) : Int) < (x : Int) by omega), nT, cF, f1', f2', f6', oS, iS, e50, pS, eF, hblt, chk_true, fI', e1, m1, ltF h2, ltT h3, nF, nT, cT, cF, wr_next (show j ≤ 1000000 by omega)]
end
end Go.Proofs.Ytobmcofkcfifkaa.T

/- The reference's Sums -/
open Go.Vm
set_option linter.unusedVariables false
namespace Go.Proofs.Ytobmcofkcfifkaa.T
open Go

section
variable {ro : List ABlk} {h H : Heap} {Lb : Nat}
/-- the list of the next number -/
theorem inner26 {v4 : AVal} {L : List (Nat × Nat)} {H5 : Heap} {i G : Nat} (hi : i ≤ 89) (hG : 2 ≤ G) (hG2 : G ≤ 4611686018427387904) (h5 : h.length ≤ H5.length) (a4 : IsP ro H5 v4 L) (hLl : L.length ≤ 1000)
    (hb : ∀ j, j < L.length → (L.getD j (0, 0)).1 ≤ 4611686018427387904 ∧ ((accL (G - 2) (fb i) L j).length ≤ 1000 ∧ ∀ q, q < (accL (G - 2) (fb i) L j).length → ((accL (G - 2) (fb i) L j).getD q (0, 0)).2 + (L.getD j (0, 0)).2 ≤ 4611686018427387904) ∧
      ((if (L.getD j (0, 0)).1 ≤ G - 2 then addL (accL (G - 2) (fb i) L j) (L.getD j (0, 0)).1 (L.getD j (0, 0)).2 else accL (G - 2) (fb i) L j).length ≤ 1000 ∧ ∀ q, q < (if (L.getD j (0, 0)).1 ≤ G - 2 then addL (accL (G - 2) (fb i) L j) (L.getD j (0, 0)).1 (L.getD j (0, 0)).2 else accL (G - 2) (fb i) L j).length → ((if (L.getD j (0, 0)).1 ≤ G - 2 then addL (accL (G - 2) (fb i) L j) (L.getD j (0, 0)).1 (L.getD j (0, 0)).2 else accL (G - 2) (fb i) L j).getD q (0, 0)).2 + (L.getD j (0, 0)).2 ≤ 4611686018427387904)) :
    ∃ v' H', loopX (fun s : AVal × Int × Mm => g26_b1 (meansX F1 ro) ro v4 (i : Int) ((G - 2 : Nat) : Int) s.1 s.2.1 s.2.2) (AVal.nsl, 0, ⟨H5, h.length, h.length⟩) = some (v', ⟨H', h.length, h.length⟩) ∧ PV H' H5.length v' (accL (G - 2) (fb i) L L.length) ∧ Keep H5 H' := by
  have key := loop_gen (b := fun s : AVal × Int × Mm => g26_b1 (meansX F1 ro) ro v4 (i : Int) ((G - 2 : Nat) : Int) s.1 s.2.1 s.2.2) L.length
    (fun j s => ∃ v H, s = (v, (j : Int), (⟨H, h.length, h.length⟩ : Mm)) ∧ PV H H5.length v (accL (G - 2) (fb i) L j) ∧ Keep H5 H)
    (fun r => ∃ v H, r = (v, (⟨H, h.length, h.length⟩ : Mm)) ∧ PV H H5.length v (accL (G - 2) (fb i) L L.length) ∧ Keep H5 H) ?_ ?_ L.length 0 (AVal.nsl, 0, ⟨H5, h.length, h.length⟩) (by omega) ⟨.nsl, H5, rfl, .inl ⟨rfl, rfl⟩, Keep.refl _⟩
  · obtain ⟨r, h1, v, H, rfl, h2, h3⟩ := key
    exact ⟨v, H, h1, h2, h3⟩
  · rintro j s hj ⟨v, H, rfl, pv, kp⟩
    obtain ⟨b0, b1, b2⟩ := hb j hj
    obtain ⟨v', H', s1, s2, s3⟩ := elem26 (ro := ro) (h := h) hi hG hG2 h5 a4 kp pv hj hLl b0 b1 b2
    exact ⟨_, s1, v', H', rfl, by rw [accL_succ hj]; exact s2, s3⟩
  · rintro s ⟨v, H, rfl, pv, kp⟩
    refine ⟨_, ?_, v, H, rfl, pv, kp⟩
    have a6 := a4.by kp
    simp only [g26_b1, a6.len, oS, iS, fB, ltF (Int.lt_irrefl _), cF]
theorem Good.bounds {k z0 s : Nat} {L : List (Nat × Nat)} (hk : k ≤ 86) (hs : s ≤ 17592186044416) (hz : z0 < fb (k + 3)) (g : Good (k + 1) z0 s L) : ∀ j, j < L.length → (L.getD j (0, 0)).1 ≤ 4611686018427387904 ∧ ((accL (fb (k + 3) - 2) (fb (k + 2)) L j).length ≤ 1000 ∧ ∀ q, q < (accL (fb (k + 3) - 2) (fb (k + 2)) L j).length → ((accL (fb (k + 3) - 2) (fb (k + 2)) L j).getD q (0, 0)).2 + (L.getD j (0, 0)).2 ≤ 4611686018427387904) ∧
      ((if (L.getD j (0, 0)).1 ≤ fb (k + 3) - 2 then addL (accL (fb (k + 3) - 2) (fb (k + 2)) L j) (L.getD j (0, 0)).1 (L.getD j (0, 0)).2 else accL (fb (k + 3) - 2) (fb (k + 2)) L j).length ≤ 1000 ∧ ∀ q, q < (if (L.getD j (0, 0)).1 ≤ fb (k + 3) - 2 then addL (accL (fb (k + 3) - 2) (fb (k + 2)) L j) (L.getD j (0, 0)).1 (L.getD j (0, 0)).2 else accL (fb (k + 3) - 2) (fb (k + 2)) L j).length → ((if (L.getD j (0, 0)).1 ≤ fb (k + 3) - 2 then addL (accL (fb (k + 3) - 2) (fb (k + 2)) L j) (L.getD j (0, 0)).1 (L.getD j (0, 0)).2 else accL (fb (k + 3) - 2) (fb (k + 2)) L j).getD q (0, 0)).2 + (L.getD j (0, 0)).2 ≤ 4611686018427387904) := by
  intro j hj
  have hm : L.getD j (0, 0) ∈ L := by simp [List.getD, hj]
  have hm1 := g.2.1 _ (List.mem_map_of_mem hm)
  have hw := g.ways hm
  have ga := g.acc hz j (by omega)
  have hwt := wt_take (rep2 (k + 1)) L (j + 1)
  rw [g.1, take_get hj, wt_app] at hwt
  have hwt2 : wt (rep2 (k + 1)) (L.take j) + (L.getD j (0, 0)).2 * rep2 (k + 1) (L.getD j (0, 0)).1 ≤ s := hwt
  have gs := ga.stq (e := L.getD j (0, 0)) hz hm1
  have hle : (L.getD j (0, 0)).2 * rep2 k (L.getD j (0, 0)).1 ≤ (L.getD j (0, 0)).2 * rep2 (k + 1) (L.getD j (0, 0)).1 := Nat.mul_le_mul_left _ (Nat.le_add_right _ _)
  have hf := fb_le (show k + 4 ≤ 90 by omega)
  have h90 : fb 90 = 2880067194370816120 := by decide +kernel
  refine ⟨?_, ⟨?_, fun q hq => ?_⟩, ?_, fun q hq => ?_⟩
  · have h4 : (L.getD j (0, 0)).1 + 2 ≤ fb (k + 4) := hm1.1
    omega
  · have := ga.len; omega
  · have := ga.at hq; omega
  · have := gs.2.len; omega
  · have := gs.2.at hq; omega
theorem ref26 {x : Int} : callX F1 ro 26 [.i .i64 x] h = some (ret2 (sumsV x), h, h.length, h.length) := by
  refine g26_ok (meansX_ok F1 ro) rfl ?_
  unfold g26 sumsV
  simp only [mC, cp0 (inR53 (ro := ro) (h := h) (n := x)), pS, bS, fB]
  by_cases hr : inR x
  rotate_left
  · rw [dF hr, if_pos hr]
    simp only [nF, cT, tA2]
    exact fin_pure rfl
  rw [dT hr, if_neg (fun e => e hr)]
  obtain ⟨n, rfl, hn⟩ := inR_nat hr
  have hbig : big = 1152921504606846976 := rfl
  have h90 : fb 90 = 2880067194370816120 := by decide +kernel
  have h89 : fb 89 = 1779979416004714189 := fb89
  have hsb : sumsN n ≤ 17592186044416 := by
    have hz := (zk_ok hn).1
    have h1 := sv_bd hz
    have h2 := (bf_bd hz (by omega)).2
    have e : 2 ^ ((bf (zk n) - 1) / 2) ≤ 2 ^ 44 := Nat.pow_le_pow_right (by omega) (by omega)
    have e2 : (2 : Nat) ^ 44 = 17592186044416 := by decide
    unfold sumsN; omega
  have hpos : 1 ≤ sumsN n := by rw [← rep_sums hn]; exact rep2_pos 87 n (show n + 2 ≤ fb 90 by omega)
  obtain ⟨H0, hH0⟩ : ∃ H0, H0 = h ++ [some (blkOf 64 [.i .i64 (n : Int), .i .i64 1])] := ⟨_, rfl⟩
  have k0 : Keep h H0 := by rw [hH0]; exact Keep.app _
  have p0 : IsP ro H0 (.sl ⟨false, h.length, 0⟩ 1 (.known 1)) [(n, 1)] := .inr ⟨h.length, .known 1, _, rfl, by rw [hH0]; exact lget_last _ _, Nat.le_refl _, fun i hi => by
    have : i = 0 := by simp at hi; omega
    subst this
    exact ⟨rfl, rfl⟩⟩
  have key := loop_gen (b := fun s : AVal × Int × Mm => g26_b0 (meansX F1 ro) ro s.1 s.2.1 s.2.2) 88
    (fun t s => ∃ v L H, s = (v, ((89 - t : Nat) : Int), (⟨H, h.length, h.length⟩ : Mm)) ∧ IsP ro H v L ∧ Keep h H ∧ (t = 0 → L = [(n, 1)]) ∧ (0 < t → ∃ z, z < fb (88 - t + 2) ∧ Good (88 - t) z (sumsN n) L))
    (fun r => ∃ v L H, r = (v, (⟨H, h.length, h.length⟩ : Mm)) ∧ IsP ro H v L ∧ Keep h H ∧ ∃ z, Good 0 z (sumsN n) L) ?_ ?_ 88 0 (.sl ⟨false, h.length, 0⟩ 1 (.known 1), 89, ⟨H0, h.length, h.length⟩) (by omega) ⟨_, _, H0, rfl, p0, k0, fun _ => rfl, fun h => absurd h (Nat.lt_irrefl _)⟩
  rotate_left
  · rintro t s ht ⟨v, L, H, rfl, pv, kp, hA, hB⟩
    obtain ⟨i, hi⟩ : ∃ i, i = 89 - t := ⟨_, rfl⟩
    obtain ⟨G, hG⟩ : ∃ G, G = min (fb (i + 1)) by61 := ⟨_, rfl⟩
    have hby : by61 = 2305843009213693952 := rfl
    have e1 : wr .i64 ((i : Int) + 1) = ((i + 1 : Nat) : Int) := wr_next (by omega)
    have e2 : rF ((i + 1 : Nat) : Int) = (G : Int) := by rw [rF_nat, hG]
    have h3 := fb_le (show 3 ≤ i + 1 by omega)
    have f3 : fb 3 = 2 := rfl
    have hG2 : 2 ≤ G := by omega
    have e3 : wr .i64 ((G : Int) - 2) = ((G - 2 : Nat) : Int) := by rw [wr_id' (by omega) (by omega)]; omega
    have e4 : wr .i64 ((i : Int) - 1) = ((89 - (t + 1) : Nat) : Int) := by rw [wr_id' (by omega) (by omega)]; omega
    have e5 := cp (fib50 (ro := ro) (h := H) (i := ((i + 1 : Nat) : Int)) (by omega) (by omega)) kp.1 kp.1
    have hstep : ∃ v' H', loopX (fun s : AVal × Int × Mm => g26_b1 (meansX F1 ro) ro v (i : Int) ((G - 2 : Nat) : Int) s.1 s.2.1 s.2.2) (AVal.nsl, 0, ⟨H, h.length, h.length⟩) = some (v', ⟨H', h.length, h.length⟩) ∧ Keep H H' ∧ ∃ L', IsP ro H' v' L' ∧ ∃ z, z < fb (88 - (t + 1) + 2) ∧ Good (88 - (t + 1)) z (sumsN n) L' := by
      rcases Nat.eq_zero_or_pos t with h0 | h0
      · subst h0
        have hL := hA rfl
        subst hL
        have hi89 : i = 89 := by omega
        subst hi89
        have hG3 : G = 2305843009213693952 := by rw [hG, h90]; rfl
        clear hG
        have hacc : accL (G - 2) (fb 89) [(n, 1)] 1 = [(n, 1)] := by
          show stq (G - 2) (fb 89) [] (n, 1) = _
          unfold stq
          have c1 : n ≤ G - 2 := by omega
          have c2 : ¬ (fb 89 ≤ n ∧ n - fb 89 ≤ G - 2) := by omega
          simp only [if_pos c1, if_neg c2]
          rfl
        obtain ⟨v', H', q1, q2, q3⟩ := inner26 (ro := ro) (h := h) (i := 89) (G := G) (by omega) hG2 (by omega) kp.1 pv (by simp) (fun j hj => by
          have : j = 0 := by simp at hj; omega
          subst this
          have c1 : n ≤ G - 2 := by omega
          have ea : accL (G - 2) (fb 89) [(n, 1)] 0 = [] := rfl
          rw [ea]
          show n ≤ _ ∧ _ ∧ ((if n ≤ G - 2 then addL [] n 1 else []).length ≤ 1000 ∧ ∀ q, q < (if n ≤ G - 2 then addL [] n 1 else []).length → ((if n ≤ G - 2 then addL [] n 1 else []).getD q (0, 0)).2 + 1 ≤ 4611686018427387904)
          rw [if_pos c1]
          refine ⟨by omega, ⟨Nat.zero_le _, fun q hq => absurd hq (Nat.not_lt_zero _)⟩, by simp [addL], fun q hq => ?_⟩
          have : q = 0 := by simp [addL] at hq; omega
          subst this
          show 1 + 1 ≤ 4611686018427387904
          omega)
        refine ⟨v', H', q1, q3, [(n, 1)], ?_, n, by show n < fb 89; omega, ⟨?_, fun x hx => ?_, ?_⟩⟩
        · have := q2.isP (ro := ro)
          rw [show ([(n, 1)] : List (Nat × Nat)).length = 1 from rfl, hacc] at this
          exact this
        · show 1 * rep2 87 n + 0 = _
          rw [rep_sums hn]; omega
        · simp at hx
          subst hx
          exact ⟨by show x + 2 ≤ fb 90; omega, .inl rfl⟩
        · simp
      · obtain ⟨z, hz, g⟩ := hB h0
        obtain ⟨k, hk⟩ : ∃ k, 88 - t = k + 1 := ⟨87 - t, by omega⟩
        rw [hk] at hz g
        have hik : i = k + 2 := by omega
        subst hik
        have hf := fb_le (show k + 3 ≤ 89 by omega)
        have hGk : G = fb (k + 3) := by
          rw [hG]
          show min (fb (k + 3)) by61 = _
          have hk88 := fb_le (show k + 3 ≤ 89 by omega)
          omega
        rw [hGk]
        have hll := g.len
        obtain ⟨v', H', q1, q2, q3⟩ := inner26 (ro := ro) (h := h) (i := k + 2) (G := fb (k + 3)) (by omega) (by omega) (by omega) kp.1 pv (by omega) (g.bounds (by omega) hsb hz)
        refine ⟨v', H', q1, q3, _, q2.isP, nz (fb (k + 2)) z, ?_, ?_⟩
        · rw [show 88 - (t + 1) + 2 = k + 2 by omega]
          have e3' : fb (k + 3) = fb (k + 1) + fb (k + 2) := rfl
          have e2' := fb_le (show k + 1 ≤ k + 2 by omega)
          have hz' : z < fb (k + 3) := hz
          have h2p := fb_pos (k + 1)
          unfold nz
          split <;> omega
        · have := g.acc hz L.length (Nat.le_refl _)
          rw [List.take_length, g.1] at this
          rw [show 88 - (t + 1) = k by omega]
          exact this
    obtain ⟨v', H', s1, s2, L', s3, s4⟩ := hstep
    refine ⟨_, ?_, v', L', H', rfl, s3, kp.trans s2, fun h => by omega, fun _ => s4⟩
    rw [← hi]
    simp only [g26_b0, fB, ltF (show ¬ (i : Int) < 2 by omega), nF, cT, fI', e1, mC, e5, e2, pS, iS, e3, meansX_loop, s1, oS, e4]
  · rintro s ⟨v, L, H, rfl, pv, kp, hA, hB⟩
    obtain ⟨z, hz, g⟩ := hB (by omega)
    refine ⟨_, ?_, v, L, H, rfl, pv, kp, z, g⟩
    simp only [g26_b0, fB, ltT (show ((89 - 88 : Nat) : Int) < 2 by omega), nT, cF]
  obtain ⟨r, hl, v, L, H, rfl, pv, kp, z, g⟩ := key
  -- one rest is left: none
  have hall : ∀ x ∈ L.map Prod.fst, x = 0 := fun x hx => by
    have := (g.2.1 x hx).1
    have f3 : fb (0 + 3) = 2 := rfl
    omega
  have hL : L = [(0, sumsN n)] := by
    cases L with
    | nil => have := g.1; have e : wt (rep2 0) [] = 0 := rfl; omega
    | cons e M =>
      cases M with
      | nil =>
        have h1 := hall e.1 (by simp)
        have h2 := g.1
        have h3 : e.2 * rep2 0 e.1 + 0 = sumsN n := h2
        rw [h1] at h3
        have h4 : e.2 = sumsN n := by have : rep2 0 0 = 1 := rfl; rw [this] at h3; omega
        rw [← h4]
        have : e = (0, e.2) := by rw [← h1]
        rw [← this]
      | cons e2 M =>
        exfalso
        have h1 := hall e.1 (by simp)
        have h2 := hall e2.1 (by simp)
        have h3 := g.2.2
        simp [h1, h2] at h3
  subst hL
  obtain ⟨p, p0', p1, f1, f2, f3, f4, f5, f6⟩ := pv.at (i := 0) (by simp)
  have hbs : stepM ro ⟨h, h.length, h.length⟩ (.bsl 64 2 [(AVal.i IntKind.i64 0), (AVal.i IntKind.i64 0)] 1 [((0, 2), .c (.agg [.i .i64 (n : Int), .i .i64 1]))]) = some (.sl ⟨false, h.length, 0⟩ 1 (.known 1), ⟨H0, h.length, h.length⟩) := by rw [hH0]; exact bslP ..
  simp only [nT, cF, fill2, oS, hbs, pS, meansX_loop]
  rw [hl]
  have e0 : ((([(0, sumsN n)] : List (Nat × Nat)).length : Nat) : Int) = 1 := rfl
  have e00 : ((0 : Nat) : Int) = 0 := rfl
  rw [e00] at f1
  simp only [oS, pv.len, e0, iS, eqI_ne (show (1 : Int) ≠ 0 by decide), cF, f1, f3, f5, tA2, Int.toNat_natCast]
  exact fin_keep kp rfl
end
end Go.Proofs.Ytobmcofkcfifkaa.T

/- Sums and Letter -/
open Go.Vm
set_option linter.unusedVariables false
namespace Go.Proofs.Ytobmcofkcfifkaa.T
open Go

section
variable {ro : List ABlk} {h : Heap}
theorem last_word {n : Nat} (hn : n ≤ big) : 0 < (word n).length ∧ (((word n).getD ((word n).length - 1) 0).toNat : Int) = ((48 + letV n : Nat) : Int) ∧ letV n ≤ 1 := by
  rcases Nat.eq_zero_or_pos n with rfl | h0
  · exact ⟨by decide, rfl, by decide⟩
  · obtain ⟨w1, w2, w3⟩ := word_end hn h0
    have l1 := (lp_bd hn h0).1
    refine ⟨by omega, ?_, by unfold letV; split <;> omega⟩
    unfold letV
    by_cases h2 : lp n = 2
    · rw [h2] at w3
      rw [if_pos ⟨h0, h2⟩, show (word n).length - 1 = (word n).length - 1 - (2 - 2) by omega, w3]; rfl
    · have := w2 0 (by omega)
      rw [Nat.sub_zero] at this
      rw [if_neg (fun e => h2 e.2), this]; rfl
def letterV (x : Int) : Int × Int := if ¬ inR x then (0, 4) else ((letV x.toNat : Int), 0)
theorem letter27g {x : Int} : callX F1 ro 27 [.i .i64 x] h = some (ret2 (letterV x), h, h.length, h.length) := by
  unfold letterV
  by_cases hr : inR x
  · obtain ⟨n, rfl, hn⟩ := inR_nat hr
    rw [if_neg (fun e => e hr), Int.toNat_natCast]
    exact letter27 hn
  · obtain ⟨v0, A, s1, s2, kp⟩ := one51 (ro := ro) (h := h) (x := x) (Nat.le_refl _) (Nat.le_refl _)
    refine g27_ok (meansX_ok F1 ro) rfl ?_
    unfold g27
    rw [if_pos hr]
    simp only [s1, pS, mC, s2, bS, fB, dF hr, nF, cT, tA2]
    exact fin_keep kp rfl
theorem letter28 {x : Int} : callX F1 ro 28 [.i .i64 x] h = some (ret2 (letterV x), h, h.length, h.length) := by
  refine g28_ok (meansX_ok F1 ro) rfl ?_
  unfold g28 letterV
  simp only [mC, cp0 (inR53 (ro := ro) (h := h) (n := x)), pS, bS, fB]
  by_cases hr : inR x
  rotate_left
  · rw [dF hr, if_pos hr]
    simp only [nF, cT, tA2]
    exact fin_pure rfl
  rw [dT hr, if_neg (fun e => e hr)]
  obtain ⟨n, rfl, hn⟩ := inR_nat hr
  obtain ⟨l1, l2, l3⟩ := last_word hn
  have hlen := word_len hn
  have e1 : wr .i64 (((word n).length : Int) - 1) = (((word n).length - 1 : Nat) : Int) := by rw [wr_id' (by omega) (by omega)]; omega
  have e2 : wr .u8 (((48 + letV n : Nat) : Int) - 48) = ((letV n : Nat) : Int) := by rw [show ((48 + letV n : Nat) : Int) - 48 = ((letV n : Nat) : Int) by omega]; exact wr_u8_id (by omega)
  simp only [nT, cF, cp0 (word54 (ro := ro) (h := h) hn), pS, sS, len_s, oS, iS, fI', e1, ix_s (show (word n).length - 1 < (word n).length by omega), l2, e2, lt64 (show letV n ≤ 9223372036854775807 by omega), tA2, Int.toNat_natCast]
  exact fin_pure rfl
theorem law5 {x : Int} : callX F1 ro 5 [.i .i64 x] h = some (.b true, h, h.length, h.length) := by
  refine g5_ok (meansX_ok F1 ro) rfl ?_
  unfold g5
  simp only [mC, cp0 (sums25 (ro := ro) (h := h)), cp0 (ref26 (ro := ro) (h := h)), cp0 (letter27g (ro := ro) (h := h)), cp0 (letter28 (ro := ro) (h := h)), pS, r20, r21, oS, iS, fB, eqI_self, nT, cT, cF, alv (ro := ro) (Nat.le_refl h.length) (Nat.le_refl h.length), bS, tA]
  exact fin_pure rfl
end
end Go.Proofs.Ytobmcofkcfifkaa.T

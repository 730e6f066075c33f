/- Contracts of the functions: what each of them answers. -/
import Derived.Test.YtobmcofkcfifkaaVmGa0
import Derived.Test.YtobmcofkcfifkaaVmFO
import Derived.Test.YtobmcofkcfifkaaVmGt
import Derived.Test.YtobmcofkcfifkaaVmAE
import Derived.Test.YtobmcofkcfifkaaVmAF
import Derived.Test.YtobmcofkcfifkaaRows
import Derived.WalkKit
import Derived.ProofKit
import Derived.OpenShut
import Derived.Carry
import Derived.Deep.Slices
/- From the small machine to the statement: lists of numbers and lists of such lists, in memory that is only read. -/
open Go.Vm
set_option linter.unusedVariables false
namespace Go.Proofs.Ytobmcofkcfifkaa.T
open Go Go.RowKit Go.Deep Go.WideShapes Go.ChangeShapes

abbrev F1 : Tab := ⟨F, known0 18 (.b true)⟩
theorem own : ownKnob Try.prog.godebug = none := by kernel_rfl

section
variable {H : Type} {enc : TypeId × Value → H} {W : World} {v0 : Value} {d : DataW H} {p : List MemPlace}
end

theorem env_ok {W : World} {ro : List ABlk} {rl : Rl} (h : ∀ (i : Nat) (b : ABlk), ro[i]? = some b → ∃ x, rl[i]? = some x ∧ ∀ j, j < b.n → x.block < W.heap.size ∧ ∃ v', W.cell? (x.add j) = some v' ∧ VR rl [] (b.c.get j) v') :
    (Env.mk Try.prog W.heap.size W ro rl).Ok := ⟨fun i b hb => h i b hb, Nat.le_refl _⟩
/-- what lies in the read-only blocks; more may come behind -/
def RoP (W : World) (ro : List ABlk) (rl : Rl) : Prop := ∀ (i : Nat) (b : ABlk), ro[i]? = some b → ∃ x, rl[i]? = some x ∧ ∀ j, j < b.n → x.block < W.heap.size ∧ ∃ v', W.cell? (x.add j) = some v' ∧ ∀ y, VR (rl ++ y) [] (b.c.get j) v'
theorem RoP.nil (W : World) : RoP W [] [] := fun i b hb => by simp at hb
theorem RoP.snoc {W : World} {ro ro' : List ABlk} {rl rl' : Rl} (hl : ro.length = rl.length) (h : RoP W ro rl)
    (h' : ∀ (i : Nat) (b : ABlk), ro'[i]? = some b → ∃ x, rl'[i]? = some x ∧ ∀ j, j < b.n → x.block < W.heap.size ∧ ∃ v', W.cell? (x.add j) = some v' ∧ ∀ y, VR y [] (b.c.get j) v') : RoP W (ro ++ ro') (rl ++ rl') := by
  intro i b hb
  rcases Nat.lt_or_ge i ro.length with hi | hi
  · rw [List.getElem?_append_left hi] at hb
    obtain ⟨x, h1, h2⟩ := h i b hb
    refine ⟨x, by rw [List.getElem?_append_left (by omega)]; exact h1, fun j hj => ?_⟩
    obtain ⟨h3, v', h4, h5⟩ := h2 j hj
    exact ⟨h3, v', h4, fun y => by rw [List.append_assoc]; exact h5 _⟩
  · rw [List.getElem?_append_right hi] at hb
    obtain ⟨x, h1, h2⟩ := h' _ b hb
    refine ⟨x, by rw [List.getElem?_append_right (by omega), ← hl]; exact h1, fun j hj => ?_⟩
    obtain ⟨h3, v', h4, h5⟩ := h2 j hj
    exact ⟨h3, v', h4, fun y => h5 _⟩

/-- the call of the model: true, and below nothing has turned -/
theorem call_of {W : World} {ro : List ABlk} {rl : Rl} (hE : (Env.mk Try.prog W.heap.size W ro rl).Ok) {K : Nat} {vs : List AVal} {args : Array Value}
    (hv : LR rl [] vs args) {h' : Heap} {lw lp : Nat} (hc : callX F1 ro K vs [] = some (.b true, h', lw, lp)) : Calls Try.prog K args W fun e W' => e = .returned (.bool true) ∧ Below W.heap.size W W' := by
  have hm : (Env.mk Try.prog W.heap.size W ro rl).P.follows .mixedOrders = true := Try.checked.mixed
  have hO : CallOk (Env.mk Try.prog W.heap.size W ro rl) (known0 18 (.b true)) := known0_of hE hm fok alive0 rfl
  obtain ⟨-, h2⟩ := callX_sound hE hm (F := F1) fok hO K vs [] _ _ _ _ hc
  refine Calls.mono (h2 [] W args ⟨Below.refl _ _, rfl, by simp, fun i b r K hl => by simp [Live] at hl, fun i j b b' r K K' hl => by simp [Live] at hl⟩ hv) fun e w' hq => ?_
  obtain ⟨v', rfl, m', hvr, T⟩ := hq
  exact ⟨by rw [hvr.inv_b], T.hr.below⟩
theorem alive_pure {ro : List ABlk} {h : Heap} : callX F1 ro 18 [] h = some (.b true, h, h.length, h.length) := callX_ov rfl
end Go.Proofs.Ytobmcofkcfifkaa.T

/- Blocks that a function makes for itself; loops whose state is known. -/
open Go.Vm
set_option linter.unusedVariables false
namespace Go.Proofs.Ytobmcofkcfifkaa.T
open Go

/-- a block of the heap that holds these values -/
def Holds (hp : Heap) (b : Nat) (vs : List AVal) : Prop := ∃ blk : ABlk, lget hp b = some (some blk) ∧ blk.n = vs.length ∧ ∀ j, j < vs.length → blk.c.get j = vs.getD j und
/-- what was there is still there -/
def Keep (h hp : Heap) : Prop := h.length ≤ hp.length ∧ ∀ i, i < h.length → hp[i]? = h[i]?

section
variable {ro : List ABlk} {h hp hp' : Heap} {b k e n l p : Nat} {vs : List AVal}
theorem Keep.refl (h : Heap) : Keep h h := ⟨Nat.le_refl _, fun _ _ => rfl⟩
theorem Keep.trans {h1 : Heap} (a : Keep h h1) (c : Keep h1 hp) : Keep h hp := ⟨Nat.le_trans a.1 c.1, fun i hi => by rw [c.2 i (by have := a.1; omega), a.2 i hi]⟩
theorem Keep.app (x : Heap) : Keep h (h ++ x) := ⟨by simp, fun i hi => List.getElem?_append_left hi⟩
theorem Keep.set (a : Keep h hp) (hb : h.length ≤ b) (x : Option ABlk) : Keep h (hp.set b x) := ⟨by simpa using a.1, fun i hi => by rw [List.getElem?_set_ne (by omega)]; exact a.2 i hi⟩
theorem Keep.eq (a : Keep h hp) : hp.take h.length = h := by
  refine List.ext_getElem? fun i => ?_
  rcases Nat.lt_or_ge i h.length with hi | hi
  · rw [List.getElem?_take_of_lt hi, a.2 i hi]
  · rw [List.getElem?_eq_none (by simp; omega), List.getElem?_eq_none hi]
theorem fin_keep {v : AVal} (a : Keep h hp) (hv : v.bel h.length = true) : finM h.length v ⟨hp, h.length, h.length⟩ = some (v, h, h.length, h.length) := by
  rw [fin_take hv, a.eq]
theorem Holds.lt (a : Holds hp b vs) : b < hp.length := by obtain ⟨blk, h1, -⟩ := a; exact lget_lt h1
theorem Holds.new (hp : Heap) (e : Nat) (vs : List AVal) : Holds (hp ++ [some (blkOf e vs)]) hp.length vs := ⟨_, lget_last _ _, rfl, fun j _ => get_blk e vs j⟩
theorem Holds.keep (a : Holds hp b vs) (hk : hp'[b]? = hp[b]?) : Holds hp' b vs := by
  obtain ⟨blk, h1, h2⟩ := a
  exact ⟨blk, by rw [lget_of hk]; exact h1, h2⟩
theorem Holds.ext (a : Holds hp b vs) (x : Heap) : Holds (hp ++ x) b vs := a.keep (List.getElem?_append_left a.lt)
theorem Holds.by (a : Holds hp b vs) (k : Keep hp hp') : Holds hp' b vs := a.keep (k.2 b a.lt)
theorem Holds.one (a : Holds hp b vs) (hk : k < vs.length) : ldM ro ⟨hp, l, p⟩ true 1 (.p (some ⟨false, b, 0 + k⟩)) = some (vs.getD k und) := by
  obtain ⟨blk, h1, h2, h3⟩ := a
  rw [ld_heap rfl h1 (by omega), ← h3 k hk, Nat.zero_add]
theorem Holds.oneA (a : Holds hp b vs) (hk : k < vs.length) : ldA ro hp true 1 (.p (some ⟨false, b, 0 + k⟩)) = some (vs.getD k und) := by
  obtain ⟨blk, h1, h2, h3⟩ := a
  rw [lda_heap h1 (by omega), ← h3 k hk, Nat.zero_add]
theorem row_list {t : Tr} : ∀ (vs : List AVal) (i : Nat), (∀ j, j < vs.length → t.get (i + j) = vs.getD j und) → t.row i vs.length = vs
  | [], i, _ => rfl
  | v :: vs, i, h => by
    simp only [List.length_cons, Tr.row]
    rw [show t.get i = v by simpa using h 0 (by simp), row_list vs (i + 1) fun j hj => by have := h (j + 1) (by simp; omega); rw [show i + 1 + j = i + (j + 1) by omega, this]; simp]
theorem Holds.rd (a : Holds hp b vs) (hn : n = vs.length) : Go.Vm.rd ro hp false n ⟨false, b, 0⟩ = some (.agg vs) := by
  subst hn
  obtain ⟨blk, h1, h2, h3⟩ := a
  have hc : Nat.ble (0 + vs.length) blk.n = true := by rw [Nat.ble_eq]; omega
  simp only [Go.Vm.rd, rdB_heap h1, cond_false, hc, cond_true]
  rw [row_list vs 0 fun j hj => by rw [Nat.zero_add]; exact h3 j hj]
theorem Holds.all (a : Holds hp b vs) (hn : n = vs.length) : ldM ro ⟨hp, l, p⟩ false n (.p (some ⟨false, b, 0⟩)) = some (.agg vs) := by
  simp only [ldM, a.rd hn]
theorem Holds.allA (a : Holds hp b vs) (hn : n = vs.length) : ldA ro hp false n (.p (some ⟨false, b, 0⟩)) = some (.agg vs) := by
  have h1 : (false || Nat.blt b hp.length) = true := by
    have := a.lt
    simpa [Nat.blt_eq] using this
  simp only [ldA, h1, cond_true, a.rd hn]
theorem spliceGet (t : Tr) : ∀ (vs : List AVal) (i j : Nat), (t.splice i vs).get j = if i ≤ j ∧ j < i + vs.length then vs.getD (j - i) und else t.get j
  | [], i, j => by simp [Tr.splice]; intro h1 h2; omega
  | v :: vs, i, j => by
    rw [Tr.splice, spliceGet (t.set i v) vs (i + 1) j, get_set]
    by_cases e : i = j
    · subst e
      rw [if_neg (by omega), if_pos rfl, if_pos (by simp)]; simp
    · by_cases h2 : i ≤ j ∧ j < i + (v :: vs).length
      · have h3 : i + 1 ≤ j ∧ j < i + 1 + vs.length := by simp at h2; omega
        rw [if_pos h2, if_pos h3]
        obtain ⟨q, rfl⟩ : ∃ q, j = i + 1 + q := ⟨j - (i + 1), by omega⟩
        rw [show i + 1 + q - i = q + 1 by omega, show i + 1 + q - (i + 1) = q by omega]
        simp
      · have h3 : ¬ (i + 1 ≤ j ∧ j < i + 1 + vs.length) := by simp at h2; omega
        rw [if_neg h2, if_neg h3, if_neg e]
theorem wrH_all {blk : ABlk} (hb : lget hp b = some (some blk)) (hn : vs.length ≤ blk.n) (ho : ones vs = true) : wrH hp ⟨false, b, 0⟩ vs = some (hp.set b (some { blk with c := blk.c.splice 0 vs })) := by
  have : (Nat.ble (0 + vs.length) blk.n && ones vs) = true := by rw [ho, Bool.and_true, Nat.ble_eq]; omega
  simp only [wrH, cond_false, hb, this, cond_true, lset_eq]
/-- a block is written whole -/
theorem Holds.st {vs' : List AVal} {v : AVal} (a : Holds hp b vs) (hv : v.cells = vs') (hn : n = vs'.length) (hl : vs'.length = vs.length) (ho : ones vs' = true) (hL : h.length ≤ b) (kp : Keep h hp) :
    ∃ hp', stepM ro ⟨hp, h.length, h.length⟩ (.st n (.c (.p (some ⟨false, b, 0⟩))) (.c v)) = some (und, ⟨hp', h.length, h.length⟩) ∧ Holds hp' b vs' ∧ hp'.length = hp.length ∧ (∀ i, i ≠ b → hp'[i]? = hp[i]?) ∧ Keep h hp' := by
  obtain ⟨blk, h1, h2, h3⟩ := a
  subst hv hn
  have hw := wrH_all h1 (vs := v.cells) (by omega) ho
  refine ⟨hp.set b (some { blk with c := blk.c.splice 0 v.cells }), ?_, ⟨_, lget_set h1 _, by simpa using (h2.trans hl.symm), fun j hj => ?_⟩, by simp, fun i hi => List.getElem?_set_ne (Ne.symm hi), kp.set hL _⟩
  · have hbq : Nat.beq v.cells.length v.cells.length = true := Nat.beq_refl _
    have e : (cond (nonp v.cells) h.length h.length) = h.length := by cases nonp v.cells <;> rfl
    simp only [stepM, stepK, opd, st_st, hbq, cond_true, hw, St.mm, Nat.min_eq_left hL, e]
  · show (blk.c.splice 0 v.cells).get j = _
    rw [spliceGet, if_pos (by omega)]; simp
theorem al_ok (e : Nat) (z : List AVal) : stepM ro ⟨hp, l, p⟩ (.al e z) = some (.p (some ⟨false, hp.length, 0⟩), ⟨hp ++ [some (blkOf e z)], l, p⟩) := rfl
theorem bx_ok (e : Nat) (hn : vs.length = n) : stepM ro ⟨hp, l, p⟩ (.bx e n (.c (.agg vs))) = some (.p (some ⟨false, hp.length, 0⟩), ⟨hp ++ [some (blkOf e vs)], l, p⟩) := by
  subst hn
  have hbq : Nat.beq vs.length vs.length = true := Nat.beq_refl _
  simp only [stepM, stepK, opd, st_bx, AVal.cells, hbq, cond_true, newB, St.mm]
end

theorem ext0 (a : AVal) (l : List AVal) : evP .e (.ext 0 (.c (.tup (a :: l)))) = some a := rfl
theorem ext1 (a b : AVal) (l : List AVal) : evP .e (.ext 1 (.c (.tup (a :: b :: l)))) = some b := rfl
theorem ext2 (a b c : AVal) (l : List AVal) : evP .e (.ext 2 (.c (.tup (a :: b :: c :: l)))) = some c := rfl
section
variable {ro : List ABlk} {h : Heap} {v : AVal}
theorem row_by {hp : Heap} {z : List Int} (a : IsRow ro h v z) (k : Keep h hp) : IsRow ro hp v z := by
  rw [take_eq k.1 k.2]; exact a.ext _
end

/-- one cell of a block is written -/
theorem Holds.set {ro : List ABlk} {h hp : Heap} {b k : Nat} {vs : List AVal} {v : AVal} (a : Holds hp b vs) (hk : k < vs.length) (hv : v.one = true) (hc : v.cells = [v]) (hn : nonp [v] = true) (hL : h.length ≤ b) (kp : Keep h hp) :
    ∃ hp', stepM ro ⟨hp, h.length, h.length⟩ (.st 1 (.c (.p (some ⟨false, b, 0 + k * 1⟩))) (.c v)) = some (und, ⟨hp', h.length, h.length⟩) ∧ Holds hp' b (vs.set k v) ∧ hp'.length = hp.length ∧ (∀ i, i ≠ b → hp'[i]? = hp[i]?) ∧ Keep h hp' := by
  obtain ⟨blk, h1, h2, h3⟩ := a
  have e : 0 + k * 1 = k := by omega
  refine ⟨hp.set b (some { blk with c := blk.c.set k v }), ?_, ⟨_, lget_set h1 _, by simpa using h2, fun j hj => ?_⟩, by simp, fun i hi => List.getElem?_set_ne (Ne.symm hi), kp.set hL _⟩
  · rw [e, st_heap h1 (by omega) hv hc hn, Nat.min_eq_left hL]
  · show (blk.c.set k v).get j = _
    rw [get_set]
    simp only [List.length_set] at hj
    by_cases e : k = j
    · subst e; simp [List.getD, hj]
    · rw [if_neg e, h3 j hj]
      simp [List.getD, List.getElem?_set_ne e]


/-- a loop whose state is known for each round -/
theorem loop_st {S R : Type} {b : S → Option (S ⊕ R)} (st : Nat → S) (n : Nat) (step : Nat → Option R) (r0 : R) (hout : b (st n) = some (.inr r0)) (hin : ∀ i, i < n → b (st i) = some (match step i with | some r => .inr r | none => .inl (st (i + 1)))) :
    ∀ (k i : Nat), i + k = n → loopX b (st i) = some ((firstS step k i).getD r0)
  | 0, i, hi => by
    simp only [Nat.add_zero] at hi
    subst hi
    exact loopX_out hout
  | k + 1, i, hi => by
    have h1 := hin i (by omega)
    unfold firstS
    cases hs : step i with
    | some r => rw [hs] at h1; exact loopX_out h1
    | none =>
      rw [hs] at h1
      exact loopX_on h1 (loop_st st n step r0 hout hin k (i + 1) (by omega))
/-- one that runs to its end -/
theorem loop_run {S R : Type} {b : S → Option (S ⊕ R)} (st : Nat → S) (n : Nat) {r0 : R} (hout : b (st n) = some (.inr r0)) (hin : ∀ i, i < n → b (st i) = some (.inl (st (i + 1)))) : loopX b (st 0) = some r0 := by
  have := loop_st st n (fun _ => none) r0 hout hin n 0 (by omega)
  rw [firstS_none.2 fun _ _ _ => rfl] at this
  exact this
/-- one that looks for something -/
theorem loop_if {S R : Type} {b : S → Option (S ⊕ R)} (st : Nat → S) (n : Nat) (P : Nat → Prop) [DecidablePred P] (r0 r1 : R) (hout : b (st n) = some (.inr r0)) (hin : ∀ i, i < n → P i → b (st i) = some (.inl (st (i + 1)))) (hno : ∀ i, i < n → ¬ P i → b (st i) = some (.inr r1)) :
    loopX b (st 0) = some (if (∀ i, i < n → P i) then r0 else r1) := by
  have := loop_st st n (fun i => if P i then none else some r1) r0 hout (fun i hi => by
    by_cases hp : P i
    · rw [if_pos hp]; exact hin i hi hp
    · rw [if_neg hp]; exact hno i hi hp) n 0 (by omega)
  rw [this]
  by_cases hall : ∀ i, i < n → P i
  · rw [if_pos hall, firstS_none.2 fun j _ h2 => by rw [if_pos (hall j (by omega))]]; rfl
  · rw [if_neg hall]
    cases hf : firstS (fun i => if P i then none else some r1) n 0 with
    | none =>
      refine absurd (fun i hi => ?_) hall
      have := firstS_none.1 hf i (by omega) (by omega)
      simpa using this
    | some r =>
      obtain ⟨j, -, -, h3, -⟩ := firstS_some hf
      by_cases hc : P j
      · rw [if_pos hc] at h3; cases h3
      · rw [if_neg hc] at h3; cases h3; rfl

theorem dT {p : Prop} [Decidable p] (h : p) : decide p = true := decide_eq_true h
theorem dF {p : Prop} [Decidable p] (h : ¬ p) : decide p = false := decide_eq_false h
theorem cp {F : Tab} {ro : List ABlk} {h : Heap} {f : Nat} {a : List AVal} {v : AVal} {l p : Nat} (e : callX F ro f a h = some (v, h, h.length, h.length)) (hl : l ≤ h.length) (hp : p ≤ h.length) : callM (callX F ro) ⟨h, l, p⟩ f a = some (v, ⟨h, l, p⟩) :=
  callM_pure e hl hp
theorem cp0 {F : Tab} {ro : List ABlk} {h : Heap} {f : Nat} {a : List AVal} {v : AVal} (e : callX F ro f a h = some (v, h, h.length, h.length)) : callM (callX F ro) ⟨h, h.length, h.length⟩ f a = some (v, ⟨h, h.length, h.length⟩) :=
  callM_pure e (Nat.le_refl _) (Nat.le_refl _)


theorem cM {F : Tab} {ro : List ABlk} {h H : Heap} {f : Nat} {a : List AVal} {v : AVal} {l p : Nat} (e : callX F ro f a h = some (v, H, h.length, h.length)) (hl : l ≤ h.length) (hp : p ≤ h.length) : callM (callX F ro) ⟨h, l, p⟩ f a = some (v, ⟨H, l, p⟩) := by
  rw [callM_eq e, Nat.min_eq_left hl, Nat.min_eq_left hp]
theorem fin_any {h H : Heap} {w : AVal} (k : Keep h H) : ∃ H', finM h.length w ⟨H, h.length, h.length⟩ = some (w, H', h.length, h.length) ∧ Keep h H' ∧ (w.bel h.length = false → H' = H) := by
  obtain ⟨y, h1, h2⟩ := fin_gen (h := h) (h' := H) (v := w) (l := h.length) (p := h.length) k.1 k.2
  exact ⟨h ++ y, h1, Keep.app y, h2⟩
/-- a list read in a heap that keeps another one, below that one's length, is in that one -/
theorem row_down {ro : List ABlk} {h H : Heap} {v : AVal} {z : List Int} (k : Keep h H) (a : IsRow ro H v z) (hb : v.bel h.length = true) : IsRow ro h v z := by
  rcases a with ⟨rfl, rfl⟩ | ⟨q, cap, blk, rfl, hb2, hn, hc⟩
  · exact .inl ⟨rfl, rfl⟩
  · refine .inr ⟨q, cap, blk, rfl, ?_, hn, hc⟩
    have h1 : (q.ro || Nat.blt q.b h.length) = true := by simpa [AVal.bel] using hb
    unfold rdB at hb2 ⊢
    cases hr : q.ro
    · rw [hr] at h1 hb2
      have h2 : q.b < h.length := by simpa [Nat.blt_eq] using h1
      simp only [cond_false] at hb2 ⊢
      rw [← lget_of (k.2 q.b h2)]; exact hb2
    · rw [hr] at hb2; exact hb2
theorem fin_rowW {ro : List ABlk} {h H : Heap} {v w : AVal} {z : List Int} (k : Keep h H) (a : IsRow ro H v z) (hw : w.bel h.length = v.bel h.length) :
    ∃ H', finM h.length w ⟨H, h.length, h.length⟩ = some (w, H', h.length, h.length) ∧ Keep h H' ∧ IsRow ro H' v z := by
  obtain ⟨H', h1, h2, h3⟩ := fin_any (w := w) k
  refine ⟨H', h1, h2, ?_⟩
  cases hb : w.bel h.length
  · rw [h3 hb]; exact a
  · exact row_by (row_down k a (by rw [← hw]; exact hb)) h2
theorem loop_gen {S R : Type} {b : S → Option (S ⊕ R)} (n : Nat) (I : Nat → S → Prop) (Q : R → Prop)
    (hin : ∀ i s, i < n → I i s → ∃ s', b s = some (.inl s') ∧ I (i + 1) s') (hout : ∀ s, I n s → ∃ r, b s = some (.inr r) ∧ Q r) :
    ∀ (k i : Nat) (s : S), i + k = n → I i s → ∃ r, loopX b s = some r ∧ Q r
  | 0, i, s, hk, hi => by
    obtain rfl : i = n := by omega
    obtain ⟨r, h1, h2⟩ := hout s hi
    exact ⟨r, loopX_out h1, h2⟩
  | k + 1, i, s, hk, hi => by
    obtain ⟨s1, h1, h2⟩ := hin i s (by omega) hi
    obtain ⟨r, h3, h4⟩ := loop_gen n I Q hin hout k (i + 1) s1 (by omega) h2
    exact ⟨r, loopX_on h1 h3, h4⟩
theorem loop_exit {S R : Type} {b : S → Option (S ⊕ R)} (n : Nat) (I : Nat → S → Prop) (Q : R → Prop)
    (hin : ∀ i s, i < n → I i s → (∃ s', b s = some (.inl s') ∧ I (i + 1) s') ∨ ∃ r, b s = some (.inr r) ∧ Q r) (hout : ∀ s, I n s → ∃ r, b s = some (.inr r) ∧ Q r) :
    ∀ (k i : Nat) (s : S), i + k = n → I i s → ∃ r, loopX b s = some r ∧ Q r
  | 0, i, s, hk, hi => by
    obtain rfl : i = n := by omega
    obtain ⟨r, h1, h2⟩ := hout s hi
    exact ⟨r, loopX_out h1, h2⟩
  | k + 1, i, s, hk, hi => by
    rcases hin i s (by omega) hi with ⟨s1, h1, h2⟩ | ⟨r, h1, h2⟩
    · obtain ⟨r, h3, h4⟩ := loop_exit n I Q hin hout k (i + 1) s1 (by omega) h2
      exact ⟨r, loopX_on h1 h3, h4⟩
    · exact ⟨r, loopX_out h1, h2⟩

end Go.Proofs.Ytobmcofkcfifkaa.T

/- Lists that a function makes by append. -/
open Go.Vm
set_option linter.unusedVariables false
namespace Go.Proofs.Ytobmcofkcfifkaa.T
open Go

/-- a list made by append, in a block from L on -/
def GV (hp : Heap) (L e es : Nat) (v : AVal) (k : Nat) (cs : List AVal) : Prop :=
  (v = .nsl ∧ k = 0 ∧ cs = []) ∨ ∃ b blk, v = .sl ⟨false, b, 0⟩ k .grow ∧ 0 < k ∧ L ≤ b ∧ lget hp b = some (some blk) ∧ blk.e = e ∧ cs.length = k * es ∧ k * es ≤ blk.n ∧ ∀ j, j < k * es → blk.c.get j = cs.getD j und
theorem GV.nil (hp : Heap) (L e es : Nat) : GV hp L e es .nsl 0 [] := .inl ⟨rfl, rfl, rfl⟩
/-- blocks below L, and those above that are kept, hold the list as before -/
theorem GV.by {hp hp' : Heap} {L e es k : Nat} {v : AVal} {cs : List AVal} (g : GV hp L e es v k cs) (kp : Keep hp hp') : GV hp' L e es v k cs := by
  rcases g with h | ⟨b, blk, h1, h2, h3, h4, h5⟩
  · exact .inl h
  · exact .inr ⟨b, blk, h1, h2, h3, by rw [lget_of (kp.2 b (lget_lt h4))]; exact h4, h5⟩
theorem row_row {t : Tr} : ∀ (n i : Nat) (cs : List AVal), cs.length = n → (∀ j, j < n → t.get (i + j) = cs.getD j und) → t.row i n = cs := by
  intro n i cs hl h
  subst hl
  exact row_list cs i h
theorem GV.push {ro : List ABlk} {hp : Heap} {L0 L e es bytes k : Nat} {z : List AVal} {v w : AVal} {cs ws : List AVal} (g : GV hp L e es v k cs) (hL0 : L0 ≤ L) (hL : L ≤ hp.length) (hk : k ≤ 100000) (hb : bytes ≤ 1000) (hes : 0 < es) (hz : z.length = es) (hw : w.cells = ws) (hwl : ws.length = es) (ho : ones ws = true) (hsp : splice z 0 ws = ws) :
    ∃ v2 hp2 v3 hp3, stepM ro ⟨hp, L0, L0⟩ (.bsl e es z 1 [((0, es), .c w)]) = some (v2, ⟨hp2, L0, L0⟩) ∧ stepM ro ⟨hp2, L0, L0⟩ (.app e es bytes z (.c v) (.c v2)) = some (v3, ⟨hp3, L0, L0⟩) ∧
      GV hp3 L e es v3 (k + 1) (cs ++ ws) ∧ hp.length ≤ hp3.length ∧ ∀ i, i < L → hp3[i]? = hp[i]? := by
  have s1 : stepM ro ⟨hp, L0, L0⟩ (.bsl e es z 1 [((0, es), .c w)]) = some (.sl ⟨false, hp.length, 0⟩ 1 (.known 1), ⟨hp ++ [some (blkOf e ws)], L0, L0⟩) := by
    simp [stepM, stepK, st_bsl, rep, fillA, opd, hw, hwl, hz, hsp, newB, St.mm]
  have src : app_src ro (hp ++ [some (blkOf e ws)]) es (.sl ⟨false, hp.length, 0⟩ 1 (.known 1)) = some (ws, 1) := by
    have hbq : rdB ro (hp ++ [some (blkOf e ws)]) ⟨false, hp.length, 0⟩ = some (blkOf e ws) := by simp [rdB, lget_eq]
    have hg : (blkOf e ws).c.row 0 es = ws := row_row es 0 ws hwl fun j hj => by rw [Nat.zero_add, get_blk]
    have hble : Nat.ble (0 + 1 * es) (blkOf e ws).n = true := by rw [Nat.ble_eq]; show 0 + 1 * es ≤ ws.length; omega
    simp only [app_src, hbq, hble, cond_true]
    rw [show 1 * es = es by omega, hg]
  rcases g with ⟨rfl, rfl, rfl⟩ | ⟨b, blk, rfl, hpos, hLb, hbk, hbe, hcl, hbn, hrows⟩
  · refine ⟨_, _, .sl ⟨false, hp.length + 1, 0⟩ 1 .grow, hp ++ [some (blkOf e ws)] ++ [some (blkOf e ws)], s1, ?_, .inr ⟨hp.length + 1, blkOf e ws, rfl, by omega, by omega, ?_, rfl, by simp; omega, by show 1 * es ≤ ws.length; omega, fun j hj => ?_⟩, by simp, fun i hi => ?_⟩
    · have hb1 : Nat.beq 1 0 = false := rfl
      simp only [stepM, stepK, opd, st_app, src, hb1, cond_false, fits_small (by omega : 1 ≤ 1000000) hb, cond_true, newB, St.mm, List.length_append, List.length_cons, List.length_nil, Nat.zero_add]
    · have := lget_last (hp ++ [some (blkOf e ws)]) (some (blkOf e ws))
      rwa [List.length_append, List.length_singleton] at this
    · rw [get_blk]; simp
    · rw [List.append_assoc, List.getElem?_append_left (by omega)]
  · obtain ⟨hp2, e2⟩ : ∃ hp2, hp2 = hp ++ [some (blkOf e ws)] := ⟨_, rfl⟩
    rw [← e2] at src s1
    have hlt : b < hp.length := lget_lt hbk
    have hb2 : lget hp2 b = some (some blk) := by rw [e2]; exact lget_ext hbk _
    have hlen2 : hp2.length = hp.length + 1 := by rw [e2]; simp
    have hrow : blk.c.row 0 (k * es) = cs := row_row (k * es) 0 cs hcl fun j hj => by rw [Nat.zero_add]; exact hrows j hj
    have hke : 0 < k * es := Nat.mul_pos hpos hes
    refine ⟨_, _, .sl ⟨false, hp2.length, 0⟩ (k + 1) .grow, lset none hp2 b ++ [some (blkOf e (cs ++ ws))], s1, ?_, .inr ⟨hp2.length, blkOf e (cs ++ ws), rfl, by omega, by omega, ?_, rfl, ?_, ?_, fun j hj => ?_⟩, ?_, fun i hi => ?_⟩
    · have h1 : (Nat.beq blk.e e && Nat.ble (k * es) blk.n && fits (k + 1) bytes && ones ws) = true := by
        rw [hbe, fits_small (by omega : k + 1 ≤ 1000000) hb]
        simp [ho, Nat.ble_eq]; omega
      have h2 : (!Nat.beq 0 0) = false := rfl
      have h3 : Nat.blt 0 blk.n = true := by rw [Nat.blt_eq]; omega
      have hb10 : Nat.beq 1 0 = false := rfl
      simp only [stepM, stepK, opd, st_app, src, app_grow, hb10, h2, cond_false, Bool.or_false, Bool.false_or, hb2, h1, h3, Bool.and_self, cond_true, St.mm, hrow, Nat.min_eq_left (Nat.le_trans hL0 hLb)]
    · rw [lget_eq, lset_eq, List.getElem?_append_right (by simp)]
      simp
    · rw [List.length_append, hcl, hwl, Nat.add_mul]; omega
    · show (k + 1) * es ≤ (cs ++ ws).length
      rw [List.length_append, hcl, hwl, Nat.add_mul]; omega
    · rw [get_blk]
    · simp [lset_eq]; omega
    · rw [lset_eq, List.getElem?_append_left (by simp; omega), List.getElem?_set_ne (by omega), e2, List.getElem?_append_left (by omega)]
theorem GV.row {ro : List ABlk} {hp : Heap} {L e : Nat} {v : AVal} {k : Nat} {z : List Int} (g : GV hp L e 1 v k (z.map (AVal.i .i64))) (hk : z.length = k) : IsRow ro hp v z := by
  subst hk
  rcases g with ⟨rfl, h2, -⟩ | ⟨b, blk, rfl, hpos, hLb, hbk, hbe, hcl, hbn, hrows⟩
  · exact .inl ⟨rfl, List.length_eq_zero_iff.1 h2⟩
  · refine .inr ⟨_, _, blk, rfl, rdB_heap hbk 0, by simpa using hbn, fun j hj => ?_⟩
    rw [Nat.zero_add, hrows j (by omega), map_getD hj]
end Go.Proofs.Ytobmcofkcfifkaa.T

/- Fibonacci's numbers: the parts of a number. -/
open Go.Vm
set_option linter.unusedVariables false
namespace Go.Proofs.Ytobmcofkcfifkaa.T
open Go

/-- Fibonacci's numbers -/
def fb : Nat → Nat
  | 0 => 0
  | 1 => 1
  | n + 2 => fb n + fb (n + 1)
theorem fb_two (n : Nat) : fb (n + 2) = fb n + fb (n + 1) := rfl
theorem fb_pos : ∀ n, 0 < fb (n + 1)
  | 0 => by decide
  | n + 1 => by rw [fb_two]; have := fb_pos n; omega
theorem fb_succ : ∀ n, fb n ≤ fb (n + 1)
  | 0 => by decide
  | n + 1 => by rw [fb_two]; omega
theorem fb_le {m n : Nat} (h : m ≤ n) : fb m ≤ fb n := by
  induction h with
  | refl => exact Nat.le_refl _
  | step _ ih => exact Nat.le_trans ih (fb_succ _)
theorem fb88 : fb 88 = 1100087778366101931 := by decide +kernel
theorem fb89 : fb 89 = 1779979416004714189 := by decide +kernel
/-- the sum of what the indices name -/
def sm : List Nat → Nat
  | [] => 0
  | i :: l => fb i + sm l
/-- indices from 2 on, below t, falling, no two neighbours -/
def Zk : Nat → List Nat → Prop
  | _, [] => True
  | t, i :: l => 2 ≤ i ∧ i < t ∧ Zk (i - 1) l
theorem Zk.mono : ∀ {l : List Nat} {t u : Nat}, t ≤ u → Zk t l → Zk u l
  | [], _, _, _, _ => trivial
  | i :: l, t, u, h, ⟨h1, h2, h3⟩ => ⟨h1, by omega, h3⟩
theorem Zk.sum : ∀ {l : List Nat} {t : Nat}, 1 ≤ t → Zk t l → sm l < fb t
  | [], t, ht, _ => by
    obtain ⟨k, rfl⟩ : ∃ k, t = k + 1 := ⟨t - 1, by omega⟩
    exact fb_pos k
  | i :: l, t, ht, ⟨h1, h2, h3⟩ => by
    obtain ⟨k, rfl⟩ : ∃ k, i = k + 1 := ⟨i - 1, by omega⟩
    have := Zk.sum (t := k) (by omega) h3
    have h4 : fb (k + 2) ≤ fb t := fb_le h2
    rw [fb_two] at h4
    show fb (k + 1) + sm l < fb t
    omega
/-- the greatest that fits first -/
def gz : Nat → Nat → List Nat
  | 0, _ => []
  | 1, _ => []
  | i + 2, n => if fb (i + 2) ≤ n then (i + 2) :: gz (i + 1) (n - fb (i + 2)) else gz (i + 1) n
theorem gz_take {i n : Nat} (h : fb (i + 2) ≤ n) : gz (i + 2) n = (i + 2) :: gz (i + 1) (n - fb (i + 2)) := by rw [gz, if_pos h]
theorem gz_skip : ∀ {i n : Nat}, n < fb (i + 1) → gz (i + 1) n = gz i n
  | 0, n, h => rfl
  | i + 1, n, h => by rw [gz, if_neg (by have : fb (i + 1 + 1) = fb (i + 2) := rfl; omega)]
theorem gz_ok : ∀ (i n : Nat), n < fb (i + 1) → Zk (i + 1) (gz i n) ∧ sm (gz i n) = n
  | 0, n, h => by
    have : n = 0 := by have : fb (0 + 1) = 1 := rfl; omega
    subst this; exact ⟨trivial, rfl⟩
  | 1, n, h => by
    have : n = 0 := by have : fb (1 + 1) = 1 := rfl; omega
    subst this; exact ⟨trivial, rfl⟩
  | i + 2, n, h => by
    by_cases hc : fb (i + 2) ≤ n
    · rw [gz_take hc]
      have h2 : n - fb (i + 2) < fb (i + 1) := by
        have e : fb (i + 2 + 1) = fb (i + 1) + fb (i + 2) := rfl
        omega
      rw [gz_skip h2]
      obtain ⟨h3, h4⟩ := gz_ok i _ h2
      refine ⟨⟨by omega, by omega, h3⟩, ?_⟩
      show fb (i + 2) + sm _ = n
      rw [h4]; omega
    · rw [gz, if_neg hc]
      obtain ⟨h3, h4⟩ := gz_ok (i + 1) n (by have : fb (i + 1 + 1) = fb (i + 2) := rfl; omega)
      exact ⟨h3.mono (by omega), h4⟩
theorem gz_uniq : ∀ (t : Nat) {l : List Nat}, Zk (t + 1) l → gz t (sm l) = l
  | 0, l, h => by
    cases l with
    | nil => rfl
    | cons i l => exact absurd h.2.1 (by have := h.1; omega)
  | 1, l, h => by
    cases l with
    | nil => rfl
    | cons i l => exact absurd h.2.1 (by have := h.1; omega)
  | t + 2, [], _ => by
    rw [gz, if_neg (by have : 0 < fb (t + 2) := fb_pos (t + 1); show ¬ fb (t + 2) ≤ 0; omega)]
    exact gz_uniq (t + 1) (l := []) trivial
  | t + 2, i :: l, ⟨h1, h2, h3⟩ => by
    by_cases e : i = t + 2
    · subst e
      have h4 := Zk.sum (t := t + 1) (by omega) (show Zk (t + 1) l from h3)
      have h5 : sm ((t + 2) :: l) = fb (t + 2) + sm l := rfl
      rw [gz_take (by rw [h5]; omega), h5, Nat.add_sub_cancel_left, gz_skip h4, gz_uniq t h3]
    · have hz : Zk (t + 2) (i :: l) := ⟨h1, by omega, h3⟩
      have h4 := Zk.sum (t := t + 2) (by omega) hz
      rw [gz_skip h4]
      exact gz_uniq (t + 1) hz
theorem gz_zero (i : Nat) : gz i 0 = [] := gz_uniq i (l := []) trivial
/-- the number of indices -/
theorem Zk.len : ∀ {l : List Nat} {t : Nat}, Zk t l → 2 * l.length ≤ t
  | [], t, _ => by simp
  | i :: l, t, ⟨h1, h2, h3⟩ => by
    have := Zk.len h3
    simp only [List.length_cons]; omega
theorem Zk.mem : ∀ {l : List Nat} {t i : Nat}, Zk t l → i ∈ l → 2 ≤ i ∧ i < t
  | [], _, _, _, h => by simp at h
  | j :: l, t, i, ⟨h1, h2, h3⟩, hm => by
    rcases List.mem_cons.1 hm with rfl | hm
    · exact ⟨h1, h2⟩
    · have := Zk.mem h3 hm; omega
/-- the parts of a number up to 2^60 -/
abbrev big : Nat := 1152921504606846976
def zk (n : Nat) : List Nat := gz 88 n
theorem zk_ok {n : Nat} (h : n ≤ big) : Zk 89 (zk n) ∧ sm (zk n) = n := gz_ok 88 n (by rw [fb89]; have : big = 1152921504606846976 := rfl; omega)
theorem zk_uniq {l : List Nat} (h : Zk 89 l) : zk (sm l) = l := gz_uniq 88 h
theorem zk_ne {n : Nat} (h : n ≤ big) (h0 : 0 < n) : zk n ≠ [] := fun e => by
  have := (zk_ok h).2
  rw [e] at this
  exact absurd this (by show ¬ 0 = n; omega)
/-- numbers of words of any height -/
theorem gz_big {t u n : Nat} (h : n < fb (t + 1)) (htu : t ≤ u) : gz u n = gz t n := by
  have := gz_ok t n h
  have h2 := gz_uniq u (this.1.mono (by omega))
  rw [this.2] at h2
  exact h2
end Go.Proofs.Ytobmcofkcfifkaa.T

/- Steps; the two Fibonaccis; sums; ranges. -/
open Go.Vm
set_option linter.unusedVariables false
namespace Go.Proofs.Ytobmcofkcfifkaa.T
open Go

section
variable {ro : List ABlk} {h : Heap}
theorem alv {H : Heap} {l p : Nat} (hl : l ≤ H.length) (hp : p ≤ H.length) : callM (callX F1 ro) ⟨H, l, p⟩ 18 [] = some (.b true, ⟨H, l, p⟩) := cp alive_pure hl hp
theorem bindP_of {β : Type} {o : Option (AVal × Mm)} {v : AVal} {m : Mm} {f : AVal → Mm → Option β} (h : o = some (v, m)) : bindP o f = f v m := by rw [h]; rfl
theorem bindO_of {α β : Type} {o : Option α} {v : α} {f : α → Option β} (h : o = some v) : bindO o f = f v := by rw [h]; rfl
theorem pS {β : Type} (v : AVal) (m : Mm) (f : AVal → Mm → Option β) : bindP (some (v, m)) f = f v m := bindP_of (Eq.trans rfl rfl)
theorem oS {α β : Type} (v : α) (f : α → Option β) : bindO (some v) f = f v := bindO_of (Eq.trans rfl rfl)
theorem cT {α : Type} (a b : α) : cond true a b = a := by rw [cond_true]
theorem cF {α : Type} (a b : α) : cond false a b = b := by rw [cond_false]
theorem bS {β : Type} (b : Bool) (f : Bool → Option β) : asB (.b b) f = f b := (asB_b b f).trans (Eq.trans rfl rfl)
theorem iS {β : Type} (k : IntKind) (n : Int) (f : Int → Option β) : asI k (.i k n) f = f n := (asI_i k n f).trans (Eq.trans rfl rfl)
theorem x0 (a : AVal) (l : List AVal) : evP .e (.ext 0 (.c (.tup (a :: l)))) = some a := (ext0 a l).trans (Eq.trans rfl rfl)
theorem x1 (a b : AVal) (l : List AVal) : evP .e (.ext 1 (.c (.tup (a :: b :: l)))) = some b := (ext1 a b l).trans (Eq.trans rfl rfl)
theorem x2 (a b c : AVal) (l : List AVal) : evP .e (.ext 2 (.c (.tup (a :: b :: c :: l)))) = some c := (ext2 a b c l).trans (Eq.trans rfl rfl)
theorem tA (v : AVal) : tupA [v] = v := Eq.trans rfl rfl
theorem tA2 (v w : AVal) : tupA [v, w] = .tup [v, w] := Eq.trans rfl rfl
theorem tA3 (v w x : AVal) : tupA [v, w, x] = .tup [v, w, x] := Eq.trans rfl rfl
theorem nT : (!true) = false := Eq.trans rfl rfl
theorem nF : (!false) = true := Eq.trans rfl rfl
theorem fB {α : Type} (n : Bool) (f : Bool → α) : forceB n f = f n := (forceB_eq n f).trans (Eq.trans rfl rfl)
theorem fI' {α : Type} (n : Int) (f : Int → α) : forceI n f = f n := (forceI_eq n f).trans (Eq.trans rfl rfl)
theorem mC (F : Tab) (ro : List ABlk) : (meansX F ro).call = callX F ro := (meansX_call F ro).trans (Eq.trans rfl rfl)
theorem eqI_self (x : Int) : eqI x x = true := by rw [eqI_eq]; simp
theorem eqI_ne {x y : Int} (h : x ≠ y) : eqI x y = false := by rw [eqI_eq]; simp [h]
theorem ltT {x y : Int} (h : x < y) : ltI x y = true := by rw [ltI_eq]; exact dT h
theorem ltF {x y : Int} (h : ¬ x < y) : ltI x y = false := by rw [ltI_eq]; exact dF h
theorem mxF {a c : Nat} : mxV false (a : Int) (c : Int) = ((min a c : Nat) : Int) := by
  unfold mxV
  simp only [Bool.false_eq_true, if_false]
  split <;> omega
theorem mxF' {a c : Int} : mxV false a c = min a c := by
  unfold mxV
  simp only [Bool.false_eq_true, if_false]
  split <;> omega

/-- Fibonacci's numbers below 0, too -/
def fI : Int → Int
  | .ofNat k => (fb k : Int)
  | .negSucc k => if k % 2 = 0 then (fb (k + 1) : Int) else -(fb (k + 1) : Int)
theorem fI_nat (k : Nat) : fI (k : Int) = (fb k : Int) := rfl
theorem fI_rec (z : Int) : fI (z + 2) = fI z + fI (z + 1) := by
  match z with
  | .ofNat k =>
    show ((fb (k + 2) : Nat) : Int) = (fb k : Int) + (fb (k + 1) : Int)
    rw [fb_two]; omega
  | .negSucc 0 => rfl
  | .negSucc 1 => rfl
  | .negSucc (k + 2) =>
    have e1 : (Int.negSucc (k + 2)) + 2 = Int.negSucc k := by omega
    have e2 : (Int.negSucc (k + 2)) + 1 = Int.negSucc (k + 1) := by omega
    rw [e1, e2]
    show (if k % 2 = 0 then (fb (k + 1) : Int) else -(fb (k + 1) : Int)) = (if (k + 2) % 2 = 0 then (fb (k + 2 + 1) : Int) else -(fb (k + 2 + 1) : Int)) + (if (k + 1) % 2 = 0 then (fb (k + 1 + 1) : Int) else -(fb (k + 1 + 1) : Int))
    have e3 : fb (k + 2 + 1) = fb (k + 1) + fb (k + 1 + 1) := rfl
    rcases Nat.mod_two_eq_zero_or_one k with hk | hk
    · rw [if_pos hk, if_pos (show (k + 2) % 2 = 0 by omega), if_neg (show ¬ (k + 1) % 2 = 0 by omega)]; omega
    · rw [if_neg (show ¬ k % 2 = 0 by omega), if_neg (show ¬ (k + 2) % 2 = 0 by omega), if_pos (show (k + 1) % 2 = 0 by omega)]; omega
theorem fI_abs (z : Int) : -(fb z.natAbs : Int) ≤ fI z ∧ fI z ≤ (fb z.natAbs : Int) := by
  match z with
  | .ofNat k =>
    show -((fb k : Nat) : Int) ≤ (fb k : Int) ∧ (fb k : Int) ≤ (fb k : Int)
    omega
  | .negSucc k =>
    show -((fb (k + 1) : Nat) : Int) ≤ (if k % 2 = 0 then (fb (k + 1) : Int) else -(fb (k + 1) : Int)) ∧ (if k % 2 = 0 then (fb (k + 1) : Int) else -(fb (k + 1) : Int)) ≤ (fb (k + 1) : Int)
    split <;> omega
abbrev tm : Nat := 1152921504606846977
def pF (i : Int) : Int := if 0 ≤ i then ((min (fb i.toNat) tm : Nat) : Int) else fI i
theorem pF_nat (k : Nat) : pF (k : Int) = ((min (fb k) tm : Nat) : Int) := by unfold pF; rw [if_pos (by omega), Int.toNat_natCast]
theorem pF_low {k : Nat} (hk : k ≤ 88) : pF (k : Int) = (fb k : Int) := by
  rw [pF_nat, Nat.min_eq_left]
  have := fb_le hk
  rw [fb88] at this
  have : tm = 1152921504606846977 := rfl
  omega
theorem lt64 {n : Nat} (h : n ≤ 9223372036854775807) : wr .i64 (n : Int) = (n : Int) := wr_id' (by omega) (by omega)
/-- the program's Fibonacci -/
theorem fib71 {i : Int} (h1 : -88 ≤ i) (h2 : i ≤ 4611686018427387904) : callX F1 ro 71 [.i .i64 i] h = some (.i .i64 (pF i), h, h.length, h.length) := by
  refine g71_ok (meansX_ok F1 ro) rfl ?_
  unfold g71
  simp only [fI', meansX_loop]
  have htm : tm = 1152921504606846977 := rfl
  rcases Int.le_total 0 i with hi | hi
  · obtain ⟨k, rfl⟩ := Int.eq_ofNat_of_zero_le hi
    have hm : mxV false (k : Int) 89 = ((min k 89 : Nat) : Int) := mxF
    rw [hm]
    have hl1 := loop_run (b := fun s : Int × Int × Int => g71_b0 (meansX F1 ro) ro (k : Int) ((min k 89 : Nat) : Int) ⟨h, h.length, h.length⟩ s.1 s.2.1 s.2.2) (fun j => (((min (fb j) tm : Nat) : Int), ((min (fb (j + 1)) tm : Nat) : Int), (j : Int))) (min k 89)
      (r0 := (((min (fb (min k 89)) tm : Nat) : Int), ((min (fb (min k 89 + 1)) tm : Nat) : Int))) ?_ ?_
    · have e : ((((min (fb 0) tm : Nat) : Int), ((min (fb (0 + 1)) tm : Nat) : Int), ((0 : Nat) : Int)) : Int × Int × Int) = (0, 1, 0) := by decide
      rw [e] at hl1
      rw [hl1]
      simp only [oS]
      rw [wr_id' (by omega) (by omega)]
      have hl2 := loopX_out (b := fun s : Int × Int × Int => g71_b1 (meansX F1 ro) ro (0 - (k : Int)) ⟨h, h.length, h.length⟩ s.1 s.2.1 s.2.2) (s := (((min (fb (min k 89)) tm : Nat) : Int), ((min (fb (min k 89 + 1)) tm : Nat) : Int), 0)) (r := ((min (fb (min k 89)) tm : Nat) : Int)) (by
        simp only [g71_b1, fB, ltF (show ¬ (0 : Int) < 0 - (k : Int) by omega), cF])
      rw [hl2]
      simp only [oS, tA]
      have e2 : min (fb (min k 89)) tm = min (fb k) tm := by
        rcases Nat.le_total k 89 with hk | hk
        · rw [Nat.min_eq_left hk]
        · rw [Nat.min_eq_right hk]
          have := fb_le hk
          rw [fb89] at this ⊢
          omega
      rw [e2, pF_nat]
      exact fin_pure rfl
    · simp only [g71_b0, fB, ltF (Int.lt_irrefl _), cF]
    · intro j hj
      have hb1 : min (fb j) tm + min (fb (j + 1)) tm ≤ 9223372036854775807 := by omega
      have e3 : ((min (fb j) tm : Nat) : Int) + ((min (fb (j + 1)) tm : Nat) : Int) = ((min (fb j) tm + min (fb (j + 1)) tm : Nat) : Int) := by omega
      have e4 : mxV false ((min (fb j) tm + min (fb (j + 1)) tm : Nat) : Int) 1152921504606846977 = ((min (fb (j + 2)) tm : Nat) : Int) := by
        rw [show (1152921504606846977 : Int) = ((tm : Nat) : Int) from rfl, mxF, fb_two]; omega
      have e5 : wr .i64 ((j : Int) + 1) = ((j + 1 : Nat) : Int) := wr_next (by omega)
      simp only [g71_b0, fB, ltT (show (j : Int) < ((min k 89 : Nat) : Int) by omega), cT, fI', e3, lt64 hb1, e4, e5]
  · rcases Int.lt_or_eq_of_le hi with hi | rfl
    rotate_left
    · -- zero
      have hm : mxV false (0 : Int) 89 = 0 := by decide
      rw [hm]
      have hl1 := loopX_out (b := fun s : Int × Int × Int => g71_b0 (meansX F1 ro) ro 0 0 ⟨h, h.length, h.length⟩ s.1 s.2.1 s.2.2) (s := (0, 1, 0)) (r := (0, 1)) (by simp only [g71_b0, fB, ltF (Int.lt_irrefl _), cF])
      rw [hl1]
      simp only [oS]
      have e0 : wr .i64 (0 - 0) = 0 := by decide
      rw [e0]
      have hl2 := loopX_out (b := fun s : Int × Int × Int => g71_b1 (meansX F1 ro) ro 0 ⟨h, h.length, h.length⟩ s.1 s.2.1 s.2.2) (s := (0, 1, 0)) (r := 0) (by simp only [g71_b1, fB, ltF (Int.lt_irrefl _), cF])
      rw [hl2]
      simp only [oS, tA]
      exact fin_pure rfl
    obtain ⟨k, hk⟩ : ∃ k : Nat, i = -(k : Int) := ⟨i.natAbs, by omega⟩
    have hm : mxV false i 89 = i := by rw [mxF']; omega
    rw [hm]
    have hl1 := loopX_out (b := fun s : Int × Int × Int => g71_b0 (meansX F1 ro) ro i i ⟨h, h.length, h.length⟩ s.1 s.2.1 s.2.2) (s := (0, 1, 0)) (r := (0, 1)) (by simp only [g71_b0, fB, ltF (show ¬ (0 : Int) < i by omega), cF])
    rw [hl1]
    simp only [oS]
    have e0 : wr .i64 (0 - i) = (k : Int) := by rw [wr_id' (by omega) (by omega)]; omega
    rw [e0]
    have hl2 := loop_run (b := fun s : Int × Int × Int => g71_b1 (meansX F1 ro) ro (k : Int) ⟨h, h.length, h.length⟩ s.1 s.2.1 s.2.2) (fun j => (fI (-(j : Int)), fI (1 - (j : Int)), (j : Int))) k (r0 := fI (-(k : Int))) ?_ ?_
    · have e : ((fI (-((0 : Nat) : Int)), fI (1 - ((0 : Nat) : Int)), ((0 : Nat) : Int)) : Int × Int × Int) = (0, 1, 0) := rfl
      rw [e] at hl2
      rw [hl2]
      simp only [oS, tA]
      unfold pF
      rw [if_neg (by omega), hk]
      exact fin_pure rfl
    · simp only [g71_b1, fB, ltF (Int.lt_irrefl _), cF]
    · intro j hj
      have e3 : fI (1 - (j : Int)) - fI (-(j : Int)) = fI (-((j + 1 : Nat) : Int)) := by
        have := fI_rec (-((j + 1 : Nat) : Int))
        rw [show -((j + 1 : Nat) : Int) + 2 = 1 - (j : Int) by omega, show -((j + 1 : Nat) : Int) + 1 = -(j : Int) by omega] at this
        omega
      have hb := fI_abs (-((j + 1 : Nat) : Int))
      have hle := fb_le (show (-((j + 1 : Nat) : Int)).natAbs ≤ 88 by omega)
      rw [fb88] at hle
      have e5 : wr .i64 ((j : Int) + 1) = ((j + 1 : Nat) : Int) := wr_next (by omega)
      have e6 : fI (1 - ((j + 1 : Nat) : Int)) = fI (-(j : Int)) := by congr 1; omega
      simp only [g71_b1, fB, ltT (show (j : Int) < (k : Int) by omega), cT, fI', e3, wr_id' (show -9223372036854775808 ≤ fI (-((j + 1 : Nat) : Int)) by omega) (show fI (-((j + 1 : Nat) : Int)) ≤ 9223372036854775807 by omega), e5, e6]
/-- is a number in range? -/
def inR (n : Int) : Prop := 0 ≤ n ∧ n ≤ 1152921504606846976
instance (n : Int) : Decidable (inR n) := inferInstanceAs (Decidable (_ ∧ _))
theorem inR53 {n : Int} : callX F1 ro 53 [.i .i64 n] h = some (.b (decide (inR n)), h, h.length, h.length) := by
  refine g53_ok (meansX_ok F1 ro) rfl ?_
  unfold g53
  simp only [fB]
  rcases Int.lt_or_le n 0 with h1 | h1
  · rw [ltT h1, dF (show ¬ inR n from fun e => by have := e.1; omega)]
    exact fin_pure rfl
  · rw [ltF (by omega)]
    simp only [nF, cT, oS, tA]
    rcases Int.lt_or_le 1152921504606846976 n with h2 | h2
    · rw [ltT h2, dF (show ¬ inR n from fun e => by have := e.2; omega)]
      exact fin_pure rfl
    · rw [ltF (by omega), dT (show inR n from ⟨h1, h2⟩)]
      exact fin_pure rfl
end
end Go.Proofs.Ytobmcofkcfifkaa.T

/- Ranges of several numbers; the parts of a number, by the program and by the reference. -/
open Go.Vm
set_option linter.unusedVariables false
namespace Go.Proofs.Ytobmcofkcfifkaa.T
open Go

section
variable {ro : List ABlk} {h : Heap}
/-- a list of numbers, all in range? -/
theorem all51 {v : AVal} {z : List Int} (a : IsRow ro h v z) (hz : z.length ≤ 1000000) : callX F1 ro 51 [v] h = some (.b (decide (∀ i, i < z.length → inR (z.getD i 0))), h, h.length, h.length) := by
  refine g51_ok (meansX_ok F1 ro) rfl ?_
  unfold g51
  simp only [len_row a, oS, iS, meansX_loop]
  have hl := loop_if (b := fun s => g51_b0 (meansX F1 ro) ro v (z.length : Int) ⟨h, h.length, h.length⟩ s) (fun i => (i : Int)) z.length (fun i => inR (z.getD i 0)) (.inl ()) (.inr false) ?_ ?_ ?_
  · have e0 : ((0 : Nat) : Int) = 0 := rfl
    rw [e0] at hl
    rw [hl]
    by_cases hf : ∀ i, i < z.length → inR (z.getD i 0)
    · rw [if_pos hf]
      simp only [oS, tA, dT hf]
      exact fin_pure rfl
    · rw [if_neg hf]
      simp only [oS, tA, dF hf]
      exact fin_pure rfl
  · simp only [g51_b0, fB, ltF (Int.lt_irrefl _), cF]
  · intro i hi hp
    obtain ⟨p, h1, h2, h3⟩ := at_row (m := ⟨h, h.length, h.length⟩) rfl a hi
    obtain ⟨hp1, hp2⟩ := hp
    simp only [g51_b0, fB, ltT (show (i : Int) < (z.length : Int) by omega), cT, h1, oS, h2, iS, ltF (show ¬ z.getD i 0 < 0 by omega), ltF (show ¬ 1152921504606846976 < z.getD i 0 by omega), cF, fI', wr_next (show i ≤ 1000000 by omega)]
  · intro i hi hp
    obtain ⟨p, h1, h2, h3⟩ := at_row (m := ⟨h, h.length, h.length⟩) rfl a hi
    simp only [g51_b0, fB, ltT (show (i : Int) < (z.length : Int) by omega), cT, h1, oS, h2, iS]
    rcases Int.lt_or_le (z.getD i 0) 0 with hh | hh
    · simp only [ltT hh, cT, oS]
    · have : 1152921504606846976 < z.getD i 0 := by
        rcases Int.lt_or_le 1152921504606846976 (z.getD i 0) with h4 | h4
        · exact h4
        · exact absurd ⟨hh, h4⟩ hp
      simp only [ltF (show ¬ z.getD i 0 < 0 by omega), ltT this, cF, oS, cT]
theorem bsl2 (hp : Heap) (l p : Nat) (x y : Int) : stepM ro ⟨hp, l, p⟩ (.bsl 3 1 [(AVal.i IntKind.i64 0)] 2 [((0, 1), .c (.i .i64 x)), ((1, 1), .c (.i .i64 y))]) = some (.sl ⟨false, hp.length, 0⟩ 2 (.known 2), ⟨hp ++ [some (blkOf 3 [.i .i64 x, .i .i64 y])], l, p⟩) := rfl
theorem newRow (hp : Heap) (z : List Int) (c : Cap) : IsRow ro (hp ++ [some (blkOf 3 (z.map (AVal.i .i64)))]) (.sl ⟨false, hp.length, 0⟩ z.length c) z := by
  refine .inr ⟨_, _, blkOf 3 (z.map (AVal.i .i64)), rfl, rdB_heap (lget_last _ _) 0, by simp [blkOf], fun j hj => ?_⟩
  rw [Nat.zero_add, get_blk, map_getD hj]
theorem two51 {x y : Int} {l p : Nat} (hl : l ≤ h.length) (hp : p ≤ h.length) : ∃ v H, stepM ro ⟨h, l, p⟩ (.bsl 3 1 [(AVal.i IntKind.i64 0)] 2 [((0, 1), .c (.i .i64 x)), ((1, 1), .c (.i .i64 y))]) = some (v, ⟨H, l, p⟩) ∧ callM (callX F1 ro) ⟨H, l, p⟩ 51 [v] = some (.b (decide (inR x ∧ inR y)), ⟨H, l, p⟩) ∧ Keep h H := by
  refine ⟨_, _, bsl2 h l p x y, ?_, Keep.app _⟩
  have h1 := all51 (ro := ro) (newRow h [x, y] (.known 2)) (by simp)
  have e : decide (∀ i, i < [x, y].length → inR ([x, y].getD i 0)) = decide (inR x ∧ inR y) := by
    apply decide_eq_decide.2
    refine ⟨fun hh => ⟨hh 0 (by simp), hh 1 (by simp)⟩, fun hh i hi => ?_⟩
    have hi2 : i = 0 ∨ i = 1 := by simp at hi; omega
    rcases hi2 with rfl | rfl
    · exact hh.1
    · exact hh.2
  rw [e] at h1
  exact callM_pure h1 (by simp; omega) (by simp; omega)
/-- numbers as the program's ints -/
abbrev nts (l : List Nat) : List Int := l.map fun n : Nat => ((n : Nat) : Int)
theorem nts_len (l : List Nat) : (nts l).length = l.length := by simp
theorem nts_get {l : List Nat} {i : Nat} (h : i < l.length) : (nts l).getD i 0 = ((l.getD i 0 : Nat) : Int) := by simp [List.getD, h]
/-- the program's parts -/
theorem parts60 {n : Nat} (hn : n ≤ big) : ∃ v H, callX F1 ro 60 [.i .i64 (n : Int)] h = some (v, H, h.length, h.length) ∧ Keep h H ∧ IsRow ro H v (nts (zk n)) := by
  have hbig : big = 1152921504606846976 := rfl
  have e1 : pF 88 = (fb 88 : Int) := pF_low (k := 88) (by omega)
  have e2 : pF 87 = (fb 87 : Int) := pF_low (k := 87) (by omega)
  have key : ∃ r, loopX (fun s : Int × AVal × Int × Int × Int × Mm => g60_b0 (meansX F1 ro) ro s.1 s.2.1 s.2.2.1 s.2.2.2.1 s.2.2.2.2.1 s.2.2.2.2.2) ((n : Int), AVal.nsl, (fb 88 : Int), (fb 87 : Int), 88, ⟨h, h.length, h.length⟩) = some r ∧ ∃ w H, r = (w, ⟨H, h.length, h.length⟩) ∧ Keep h H ∧ IsRow ro H w (nts (zk n)) := by
    refine loop_exit 87 (fun j s => ∃ (r : Nat) (w : AVal) (H : Heap) (l : List Nat), s = ((r : Int), w, (fb (88 - j) : Int), (fb (87 - j) : Int), ((88 - j : Nat) : Int), ⟨H, h.length, h.length⟩) ∧ Keep h H ∧ GV H h.length 3 1 w l.length ((nts l).map (AVal.i .i64)) ∧ l.length ≤ j ∧ l ++ gz (88 - j) r = zk n ∧ r < fb (89 - j)) _ ?_ ?_ 87 0 _ (by omega) ⟨n, .nsl, h, [], rfl, Keep.refl h, GV.nil _ _ _ _, by simp, rfl, by
      show n < fb 89
      rw [fb89]; omega⟩
    · rintro j s hj ⟨r, w, H, l, rfl, kp, g, hlen, hl, hr⟩
      obtain ⟨i, hi⟩ : ∃ i, 88 - j = i + 2 := ⟨86 - j, by omega⟩
      have hi1 : 87 - j = i + 1 := by omega
      have hi2 : 89 - j = i + 3 := by omega
      have hj1 : 88 - (j + 1) = i + 1 := by omega
      have hj2 : 87 - (j + 1) = i := by omega
      have hj3 : 89 - (j + 1) = i + 2 := by omega
      rw [hi] at hl
      rw [hi2] at hr
      simp only [hi, hi1]
      rcases Nat.eq_zero_or_pos r with rfl | hr0
      · refine .inr ⟨(w, ⟨H, h.length, h.length⟩), ?_, w, H, rfl, kp, ?_⟩
        · simp only [g60_b0, fB, ltF (show ¬ (0 : Int) < ((0 : Nat) : Int) by omega), cF]
        · rw [gz_zero, List.append_nil] at hl
          rw [← hl]
          exact GV.row g (nts_len l)
      · have hf := fb_le (show i + 2 ≤ 88 by omega)
        rw [fb88] at hf
        have ef : fb (i + 3) = fb (i + 1) + fb (i + 2) := rfl
        have ef2 : fb (i + 2) = fb i + fb (i + 1) := rfl
        have e3 : wr .i64 ((fb (i + 2) : Int) - (fb (i + 1) : Int)) = (fb i : Int) := by rw [wr_id' (by omega) (by omega)]; omega
        have e4 : wr .i64 (((i + 2 : Nat) : Int) - 1) = ((i + 1 : Nat) : Int) := by rw [wr_id' (by omega) (by omega)]; omega
        refine .inl ?_
        by_cases hc : fb (i + 2) ≤ r
        · obtain ⟨v2, hp2, v3, hp3, s1, s2, g2, k1, k2⟩ := GV.push (ro := ro) (L0 := h.length) (bytes := 8) (z := [AVal.i .i64 0]) (w := .i .i64 ((i + 2 : Nat) : Int)) (ws := [.i .i64 ((i + 2 : Nat) : Int)]) g (Nat.le_refl _) kp.1 (by omega) (by omega) (by omega) rfl rfl rfl rfl rfl
          have e5 : wr .i64 ((r : Int) - (fb (i + 2) : Int)) = ((r - fb (i + 2) : Nat) : Int) := by rw [wr_id' (by omega) (by omega)]; omega
          refine ⟨_, (by simp only [g60_b0, fB, ltT (show (0 : Int) < (r : Int) by omega), cT, ltF (show ¬ (r : Int) < (fb (i + 2) : Int) by omega), nF, s1, pS, s2, fI', e5, oS, e3, e4]; rfl), r - fb (i + 2), v3, hp3, l ++ [i + 2], by rw [hj1, hj2], ⟨Nat.le_trans kp.1 k1, fun q hq => by rw [k2 q hq, kp.2 q hq]⟩, ?_, by simp; omega, ?_, ?_⟩
          · rw [List.length_append, show nts (l ++ [i + 2]) = nts l ++ [((i + 2 : Nat) : Int)] by simp, List.map_append]
            simpa using g2
          · rw [hj1, ← hl, gz_take hc]; simp
          · rw [hj3]; omega
        · refine ⟨_, (by simp only [g60_b0, fB, ltT (show (0 : Int) < (r : Int) by omega), cT, ltT (show (r : Int) < (fb (i + 2) : Int) by omega), nT, cF, oS, fI', e3, e4]; rfl), r, w, H, l, by rw [hj1, hj2], kp, g, by omega, ?_, ?_⟩
          · rw [hj1, ← hl, gz_skip (i := i + 1) (by show r < fb (i + 2); omega)]
          · rw [hj3]; omega
    · rintro s ⟨r, w, H, l, rfl, kp, g, hlen, hl, hr⟩
      have : r = 0 := by have : fb (89 - 87) = 1 := rfl; omega
      subst this
      refine ⟨(w, ⟨H, h.length, h.length⟩), ?_, w, H, rfl, kp, ?_⟩
      · simp only [g60_b0, fB, ltF (show ¬ (0 : Int) < ((0 : Nat) : Int) by omega), cF]
      · rw [gz_zero, List.append_nil] at hl
        rw [← hl]
        exact GV.row g (nts_len l)
  obtain ⟨r, h1, w, H, rfl, kp, hrow⟩ := key
  obtain ⟨H', f1, f2, f3⟩ := fin_rowW (w := w) kp hrow rfl
  refine ⟨w, H', g60_ok (meansX_ok F1 ro) rfl ?_, f2, f3⟩
  unfold g60
  simp only [mC, cp0 (fib71 (i := 88) (by omega) (by omega)), cp0 (fib71 (i := 87) (by omega) (by omega)), pS, iS, e1, e2, meansX_loop]
  rw [h1]
  simp only [oS, tA]
  exact f1
end
end Go.Proofs.Ytobmcofkcfifkaa.T

/- Sums of shifted parts, as the program adds them. -/
open Go.Vm
set_option linter.unusedVariables false
namespace Go.Proofs.Ytobmcofkcfifkaa.T
open Go

theorem fold_take {α : Type} (f : α → Nat → α) (s : α) (l : List Nat) {j : Nat} (hj : j < l.length) : (l.take (j + 1)).foldl f s = f ((l.take j).foldl f s) (l.getD j 0) := by
  rw [List.take_succ_eq_append_getElem hj, List.foldl_append]
  simp [List.getD, hj]
theorem zk_at {n j : Nat} (hn : n ≤ big) (hj : j < (zk n).length) : 2 ≤ (zk n).getD j 0 ∧ (zk n).getD j 0 ≤ 88 := by
  have hm : (zk n).getD j 0 ∈ zk n := by
    have : (zk n).getD j 0 = (zk n)[j] := by simp [List.getD, hj]
    rw [this]; exact List.getElem_mem hj
  have := (zk_ok hn).1.mem hm
  omega
theorem zk_len {n : Nat} (hn : n ≤ big) : (zk n).length ≤ 44 := by
  have := (zk_ok hn).1.len
  omega
theorem fb78 : fb 78 = 8944394323791464 := by decide +kernel
theorem pF_bd {z : Int} (h : -78 ≤ z) : -8944394323791464 ≤ pF z ∧ pF z ≤ (tm : Int) := by
  have htm : tm = 1152921504606846977 := rfl
  unfold pF
  split
  · omega
  · have h1 := fI_abs z
    have h2 := fb_le (show z.natAbs ≤ 78 by omega)
    rw [fb78] at h2
    omega
/-- one part more -/
def stp (b : Int) (s : Int) (i : Nat) : Int := min (s + pF ((i : Int) + b)) (tm : Int)
/-- the program's sum of shifted parts -/
def acc (b : Int) (l : List Nat) : Int := l.foldl (stp b) 0
theorem acc_bdc {b : Int} {c : Nat} (hct : c ≤ tm) : ∀ (l : List Nat) (s : Int) (k : Nat), (∀ i ∈ l, -(c : Int) ≤ pF ((i : Int) + b)) → -((k * c : Nat) : Int) ≤ s → s ≤ (tm : Int) →
    -(((k + l.length) * c : Nat) : Int) ≤ l.foldl (stp b) s ∧ l.foldl (stp b) s ≤ (tm : Int)
  | [], s, k, _, h1, h2 => ⟨h1, h2⟩
  | i :: l, s, k, hi, h1, h2 => by
    have h3 := hi i (by simp)
    have e : (k + 1) * c = k * c + c := Nat.succ_mul k c
    have := acc_bdc hct l (stp b s i) (k + 1) (fun x hx => hi x (by simp [hx])) (by
      rw [e]
      unfold stp
      omega) (by unfold stp; omega)
    rw [List.length_cons, show k + (l.length + 1) = k + 1 + l.length by omega]
    exact this
theorem acc_bd {b : Int} (l : List Nat) (hl : l.length ≤ 44) (hi : ∀ i ∈ l, -78 ≤ (i : Int) + b) : -400000000000000000 ≤ l.foldl (stp b) 0 ∧ l.foldl (stp b) 0 ≤ (tm : Int) := by
  have htm : tm = 1152921504606846977 := rfl
  obtain ⟨h1, h2⟩ := acc_bdc (b := b) (c := 8944394323791464) (by omega) l 0 0 (fun i hm => (pF_bd (hi i hm)).1) (by omega) (by omega)
  refine ⟨?_, h2⟩
  have h3 : (0 + l.length) * 8944394323791464 ≤ 44 * 8944394323791464 := Nat.mul_le_mul_right _ (by omega)
  omega
theorem zk_mem {n j : Nat} (hj : j < (zk n).length) : (zk n).getD j 0 ∈ zk n := by
  have : (zk n).getD j 0 = (zk n)[j] := by simp [List.getD, hj]
  rw [this]; exact List.getElem_mem hj
section
variable {ro : List ABlk} {h : Heap}
theorem shiftedG {n : Nat} (hn : n ≤ big) {b : Int} (hb1 : ∀ i ∈ zk n, -78 ≤ (i : Int) + b) (hb0 : -88 ≤ b) (hb2 : b ≤ 4611686018427387000) : callX F1 ro 63 [.i .i64 (n : Int), .i .i64 b] h = some (.i .i64 (acc b (zk n)), h, h.length, h.length) := by
  obtain ⟨v, H, c1, kp, hv⟩ := parts60 (ro := ro) (h := h) hn
  refine g63_ok (meansX_ok F1 ro) rfl ?_
  unfold g63
  have hlen := zk_len hn
  simp only [mC, cM c1 (Nat.le_refl _) (Nat.le_refl _), pS, len_row hv, oS, iS, meansX_loop]
  rw [nts_len]
  have hl := loop_run (b := fun s : Int × Int × Mm => g63_b0 (meansX F1 ro) ro b v ((zk n).length : Int) s.1 s.2.1 s.2.2) (fun j => (((zk n).take j).foldl (stp b) 0, (j : Int), (⟨H, h.length, h.length⟩ : Mm))) (zk n).length
    (r0 := (((zk n).take (zk n).length).foldl (stp b) 0, (⟨H, h.length, h.length⟩ : Mm))) ?_ ?_
  · have e : ((((zk n).take 0).foldl (stp b) 0, ((0 : Nat) : Int), (⟨H, h.length, h.length⟩ : Mm)) : Int × Int × Mm) = (0, 0, ⟨H, h.length, h.length⟩) := rfl
    rw [e] at hl
    rw [hl]
    simp only [oS, tA, List.take_length]
    exact fin_keep kp rfl
  · simp only [g63_b0, fB, ltF (Int.lt_irrefl _), cF]
  · intro j hj
    obtain ⟨p, h1, h2, h3⟩ := at_row (m := ⟨H, h.length, h.length⟩) rfl hv (show j < (nts (zk n)).length by rw [nts_len]; exact hj)
    rw [nts_get hj] at h2
    obtain ⟨i1, i2⟩ := zk_at hn hj
    have hbd := acc_bd (b := b) ((zk n).take j) (by rw [List.length_take]; omega) (fun x hx => hb1 x (List.mem_of_mem_take hx))
    have hb3 := hb1 _ (zk_mem hj)
    have hpf := pF_bd (z := (((zk n).getD j 0 : Nat) : Int) + b) (by omega)
    have htm : tm = 1152921504606846977 := rfl
    rw [fold_take _ _ _ hj]
    generalize ((zk n).take j).foldl (stp b) 0 = S at hbd ⊢
    have hS : -9223372036854775808 ≤ S + pF ((((zk n).getD j 0 : Nat) : Int) + b) := by omega
    have e1 : wr .i64 ((((zk n).getD j 0 : Nat) : Int) + b) = (((zk n).getD j 0 : Nat) : Int) + b := wr_id' (by omega) (by omega)
    have e2 : wr .i64 (S + pF ((((zk n).getD j 0 : Nat) : Int) + b)) = S + pF ((((zk n).getD j 0 : Nat) : Int) + b) := wr_id' hS (by omega)
    have e3 : mxV false (S + pF ((((zk n).getD j 0 : Nat) : Int) + b)) 1152921504606846977 = stp b S ((zk n).getD j 0) := mxF'
    simp only [g63_b0, fB, ltT (show (j : Int) < ((zk n).length : Int) by omega), cT, h1, oS, h2, iS, fI', e1, mC, cp (fib71 (ro := ro) (h := H) (i := (((zk n).getD j 0 : Nat) : Int) + b) (by omega) (by omega)) kp.1 kp.1, pS, e2, e3, wr_next (show j ≤ 1000000 by omega)]
theorem shifted63 {n : Nat} (hn : n ≤ big) {b : Int} (hb1 : -80 ≤ b) (hb2 : b ≤ 4611686018427387000) : callX F1 ro 63 [.i .i64 (n : Int), .i .i64 b] h = some (.i .i64 (acc b (zk n)), h, h.length, h.length) :=
  shiftedG hn (fun i hi => by have := (zk_ok hn).1.mem hi; omega) (by omega) hb2
/-- the least part's index -/
def lp (n : Nat) : Nat := (zk n).getD ((zk n).length - 1) 0
theorem least72 {n : Nat} (hn : n ≤ big) (h0 : 0 < n) : callX F1 ro 72 [.i .i64 (n : Int)] h = some (.i .i64 (lp n : Int), h, h.length, h.length) := by
  obtain ⟨v, H, c1, kp, hv⟩ := parts60 (ro := ro) (h := h) hn
  refine g72_ok (meansX_ok F1 ro) rfl ?_
  unfold g72
  have hlen := zk_len hn
  have hpos : 0 < (zk n).length := List.length_pos_iff.2 (zk_ne hn h0)
  obtain ⟨p, h1, h2, h3⟩ := at_row (m := ⟨H, h.length, h.length⟩) rfl hv (show (zk n).length - 1 < (nts (zk n)).length by rw [nts_len]; omega)
  rw [nts_get (by omega)] at h2
  have e1 : wr .i64 (((nts (zk n)).length : Int) - 1) = (((zk n).length - 1 : Nat) : Int) := by rw [nts_len, wr_id' (by omega) (by omega)]; omega
  simp only [mC, cM c1 (Nat.le_refl _) (Nat.le_refl _), pS, len_row hv, oS, iS, fI', e1, h1, h2, tA]
  exact fin_keep kp rfl
end
theorem lp_bd {n : Nat} (hn : n ≤ big) (h0 : 0 < n) : 2 ≤ lp n ∧ lp n ≤ 88 := by
  have hpos : 0 < (zk n).length := List.length_pos_iff.2 (zk_ne hn h0)
  exact zk_at hn (by omega)
/-- shifted up -/
def su (b : Nat) : List Nat → Nat
  | [] => 0
  | i :: l => fb (i + b) + su b l
theorem acc_up (b : Nat) : ∀ (l : List Nat) (s : Nat), l.foldl (stp (b : Int)) ((min s tm : Nat) : Int) = ((min (s + su b l) tm : Nat) : Int)
  | [], s => rfl
  | i :: l, s => by
    simp only [List.foldl_cons]
    have e : stp (b : Int) ((min s tm : Nat) : Int) i = ((min (s + fb (i + b)) tm : Nat) : Int) := by
      unfold stp
      rw [show (i : Int) + (b : Int) = ((i + b : Nat) : Int) by omega, pF_nat]; omega
    rw [e, acc_up b l]
    show ((min (s + fb (i + b) + su b l) tm : Nat) : Int) = ((min (s + (fb (i + b) + su b l)) tm : Nat) : Int)
    rw [Nat.add_assoc]
theorem acc_nat (b : Nat) (l : List Nat) : acc (b : Int) l = ((min (su b l) tm : Nat) : Int) := by
  have := acc_up b l 0
  simpa [acc] using this
/-- shifted by any number -/
def si (b : Int) : List Nat → Int
  | [] => 0
  | i :: l => fI ((i : Int) + b) + si b l
def sa (b : Nat) : List Nat → Nat
  | [] => 0
  | i :: l => fb ((i : Int) - (b : Int)).natAbs + sa b l
theorem sa_low (b : Nat) : ∀ (l : List Nat) (t : Nat), Zk t l → 1 ≤ t → t ≤ b → fb (b - t) + sa b l ≤ fb b
  | [], t, _, h1, h2 => fb_le (by omega)
  | i :: l, t, ⟨i1, i2, i3⟩, h1, h2 => by
    have h4 := sa_low b l (i - 1) i3 (by omega) (by omega)
    have e1 : ((i : Int) - (b : Int)).natAbs = b - i := by omega
    have h5 : fb (b - t) ≤ fb (b - i - 1) := fb_le (by omega)
    obtain ⟨k, hk⟩ : ∃ k, b - i = k + 1 := ⟨b - i - 1, by omega⟩
    have e2 : b - (i - 1) = k + 2 := by omega
    have e3 : b - i - 1 = k := by omega
    rw [e2, fb_two] at h4
    rw [e3] at h5
    show fb (b - t) + (fb ((i : Int) - (b : Int)).natAbs + sa b l) ≤ fb b
    rw [e1, hk]; omega
theorem sa_bd (b : Nat) (hb : 1 ≤ b) : ∀ (l : List Nat) (t : Nat), Zk t l → b < t → sa b l ≤ fb (t - b) + fb b
  | [], t, _, h1 => Nat.zero_le _
  | i :: l, t, ⟨i1, i2, i3⟩, h1 => by
    show fb ((i : Int) - (b : Int)).natAbs + sa b l ≤ _
    rcases Nat.lt_or_ge i b with hi | hi
    · have := sa_low b (i :: l) (i + 1) ⟨i1, by omega, i3⟩ (by omega) (by omega)
      have : sa b (i :: l) = fb ((i : Int) - (b : Int)).natAbs + sa b l := rfl
      omega
    · have e1 : ((i : Int) - (b : Int)).natAbs = i - b := by omega
      rw [e1]
      rcases Nat.lt_or_ge b (i - 1) with h2 | h2
      · have h4 := sa_bd b hb l (i - 1) i3 h2
        obtain ⟨k, hk⟩ : ∃ k, i - b = k + 1 := ⟨i - b - 1, by omega⟩
        have e2 : i - 1 - b = k := by omega
        have h5 : fb (k + 2) ≤ fb (t - b) := fb_le (by omega)
        rw [fb_two] at h5
        rw [e2] at h4
        rw [hk]; omega
      · have h4 : sa b l ≤ fb b := by
          rcases Nat.lt_or_ge b (i - 1) with h | h
          · omega
          · have := sa_low b l (i - 1) i3 (by omega) h; omega
        have h5 : fb (i - b) ≤ fb (t - b) := fb_le (by omega)
        omega
theorem acc_dn (b : Nat) : ∀ (l : List Nat) (s : Int), (∀ i ∈ l, (i : Int) - (b : Int) ≤ 88) → s.natAbs + sa b l ≤ tm → l.foldl (stp (-(b : Int))) s = s + si (-(b : Int)) l
  | [], s, _, _ => by simp [si]
  | i :: l, s, hi, hs => by
    simp only [List.foldl_cons]
    have hs' : s.natAbs + (fb ((i : Int) - (b : Int)).natAbs + sa b l) ≤ tm := hs
    have e0 : (i : Int) + -(b : Int) = (i : Int) - (b : Int) := by omega
    have h1 := fI_abs ((i : Int) - (b : Int))
    have e1 : pF ((i : Int) + -(b : Int)) = fI ((i : Int) - (b : Int)) := by
      rw [e0]
      unfold pF
      split
      · rename_i h2
        obtain ⟨k, hk⟩ := Int.eq_ofNat_of_zero_le h2
        rw [hk, fI_nat, Int.toNat_natCast, Nat.min_eq_left]
        rw [hk] at hs'
        have : (k : Int).natAbs = k := by omega
        rw [this] at hs'
        omega
      · rfl
    have e2 : min (s + fI ((i : Int) - (b : Int))) (tm : Int) = s + fI ((i : Int) - (b : Int)) := by omega
    have e3 : stp (-(b : Int)) s i = s + fI ((i : Int) - (b : Int)) := by unfold stp; rw [e1, e2]
    rw [e3, acc_dn b l _ (fun x hx => hi x (by simp [hx])) (by omega)]
    show _ = s + (fI ((i : Int) + -(b : Int)) + si (-(b : Int)) l)
    rw [e0]; omega
/-- downwards the sum is never too much -/
theorem sa_max {b : Nat} (h1 : 1 ≤ b) (h2 : b ≤ 88) : fb (89 - b) + fb b ≤ 1152921504606846976 := by
  have : ∀ b, b < 88 → fb (89 - (b + 1)) + fb (b + 1) ≤ 1152921504606846976 := by decide +kernel
  have := this (b - 1) (by omega)
  rwa [show b - 1 + 1 = b by omega] at this
theorem acc_neg {b n : Nat} (hn : n ≤ big) (h1 : 1 ≤ b) (h2 : b ≤ 88) : acc (-(b : Int)) (zk n) = si (-(b : Int)) (zk n) ∧ (si (-(b : Int)) (zk n)).natAbs ≤ 1152921504606846976 := by
  have h3 := sa_bd b h1 (zk n) 89 (zk_ok hn).1 (by omega)
  have h4 := sa_max h1 h2
  have htm : tm = 1152921504606846977 := rfl
  have h5 := acc_dn b (zk n) 0 (fun i hi => by have := (zk_ok hn).1.mem hi; omega) (by simp; omega)
  rw [Int.zero_add] at h5
  refine ⟨h5, ?_⟩
  have : ∀ l : List Nat, (si (-(b : Int)) l).natAbs ≤ sa b l := fun l => by
    induction l with
    | nil => simp [si]
    | cons i l ih =>
      show (fI ((i : Int) + -(b : Int)) + si (-(b : Int)) l).natAbs ≤ fb ((i : Int) - (b : Int)).natAbs + sa b l
      have := fI_abs ((i : Int) - (b : Int))
      rw [show (i : Int) + -(b : Int) = (i : Int) - (b : Int) by omega]
      omega
  have := this (zk n)
  omega
end Go.Proofs.Ytobmcofkcfifkaa.T

/- Take, by the program and by the reference. -/
open Go.Vm
set_option linter.unusedVariables false
namespace Go.Proofs.Ytobmcofkcfifkaa.T
open Go

section
variable {ro : List ABlk} {h : Heap}
theorem inR_nat {n : Int} (hr : inR n) : ∃ k : Nat, n = (k : Int) ∧ k ≤ big := by
  obtain ⟨k, rfl⟩ := Int.eq_ofNat_of_zero_le hr.1
  have := hr.2
  exact ⟨k, rfl, by have : big = 1152921504606846976 := rfl; omega⟩
theorem nat_inR {k : Nat} (h : k ≤ big) : inR (k : Int) := ⟨by omega, by have : big = 1152921504606846976 := rfl; omega⟩
def ret3 (p : Int × Int × Int) : AVal := .tup [.i .i64 p.1, .i .i64 p.2.1, .i .i64 p.2.2]
theorem r30 (p : Int × Int × Int) : evP .e (.ext 0 (.c (ret3 p))) = some (.i .i64 p.1) := x0 _ _
theorem r31 (p : Int × Int × Int) : evP .e (.ext 1 (.c (ret3 p))) = some (.i .i64 p.2.1) := x1 _ _ _
theorem r32 (p : Int × Int × Int) : evP .e (.ext 2 (.c (ret3 p))) = some (.i .i64 p.2.2) := x2 _ _ _ _
/- Take -/
end
theorem exC {ro : List ABlk} {k : Nat} {l : List AVal} {h : Heap} {n m : Nat} {H : Heap} (e : callX F1 ro k l h = some (.b true, H, n, m)) : ∃ h' lw lp, callX F1 ro k l h = some (.b true, h', lw, lp) := ⟨_, _, _, e⟩
end Go.Proofs.Ytobmcofkcfifkaa.T

/- Shift, by the program and by the reference. -/
open Go.Vm
set_option linter.unusedVariables false
namespace Go.Proofs.Ytobmcofkcfifkaa.T
open Go

theorem take_one {l : List Nat} {j : Nat} (hj : j < l.length) : l.take (j + 1) = l.take j ++ [l.getD j 0] := by
  rw [List.take_succ_eq_append_getElem hj]; simp [List.getD, hj]
/- Shift -/
section
variable {ro : List ABlk} {h : Heap}
end
end Go.Proofs.Ytobmcofkcfifkaa.T

/- Circle, by the program and by the reference; the law of circles. -/
open Go.Vm
set_option linter.unusedVariables false
namespace Go.Proofs.Ytobmcofkcfifkaa.T
open Go

/- Circle -/
section
variable {ro : List ABlk} {h : Heap}
end
end Go.Proofs.Ytobmcofkcfifkaa.T

/- Array and Where, by the program and by the reference. -/
open Go.Vm
set_option linter.unusedVariables false
namespace Go.Proofs.Ytobmcofkcfifkaa.T
open Go

/- Array -/
section
variable {ro : List ABlk} {h : Heap}
end
/- Where -/
theorem Zk.snoc : ∀ {l : List Nat} {t x i : Nat}, Zk t (l ++ [x]) → i ∈ l → x + 2 ≤ i
  | [], _, _, _, _, h => by simp at h
  | a :: l, t, x, i, ⟨h1, h2, h3⟩, hm => by
    rcases List.mem_cons.1 hm with rfl | hm
    · have := h3.mem (i := x) (by simp)
      omega
    · exact Zk.snoc h3 hm
theorem zk_last {n : Nat} (hn : n ≤ big) (h0 : 0 < n) : zk n = (zk n).take ((zk n).length - 1) ++ [lp n] := by
  have hpos : 0 < (zk n).length := List.length_pos_iff.2 (zk_ne hn h0)
  have h := take_one (l := zk n) (j := (zk n).length - 1) (by omega)
  rw [show (zk n).length - 1 + 1 = (zk n).length by omega, List.take_length] at h
  exact h
section
variable {ro : List ABlk} {h : Heap}
end
end Go.Proofs.Ytobmcofkcfifkaa.T

/- The product of numbers by their parts: Knuth's theorem. -/
open Go.Vm
set_option linter.unusedVariables false
namespace Go.Proofs.Ytobmcofkcfifkaa.T
open Go

theorem fb_add : ∀ (m k : Nat), fb (m + 1 + k) = fb m * fb k + fb (m + 1) * fb (k + 1)
  | m, 0 => by simp [fb]
  | m, 1 => by
    show fb (m + 2) = fb m * 1 + fb (m + 1) * 1
    rw [fb_two]; omega
  | m, k + 2 => by
    have h1 := fb_add m k
    have h2 := fb_add m (k + 1)
    have e1 : fb (m + 1 + (k + 2)) = fb (m + 1 + k) + fb (m + 1 + (k + 1)) := rfl
    have e2 : fb (k + 2 + 1) = fb (k + 1) + fb (k + 2) := rfl
    have e3 : fb (k + 2) = fb k + fb (k + 1) := rfl
    rw [e1, h1, h2, e2, e3]
    simp only [Nat.mul_add]
    omega
/-- a sum over a list -/
def sg (f : Nat → Nat) : List Nat → Nat
  | [] => 0
  | i :: l => f i + sg f l
theorem sg_congr {f g : Nat → Nat} : ∀ {l : List Nat}, (∀ i ∈ l, f i = g i) → sg f l = sg g l
  | [], _ => rfl
  | i :: l, h => by
    show f i + sg f l = g i + sg g l
    rw [h i (by simp), sg_congr fun x hx => h x (by simp [hx])]
theorem sg_add (f g : Nat → Nat) : ∀ l, sg (fun i => f i + g i) l = sg f l + sg g l
  | [] => rfl
  | i :: l => by
    show f i + g i + sg (fun i => f i + g i) l = (f i + sg f l) + (g i + sg g l)
    rw [sg_add f g l]; omega
theorem sg_mul (c : Nat) (f : Nat → Nat) : ∀ l, sg (fun i => f i * c) l = sg f l * c
  | [] => by simp [sg]
  | i :: l => by
    show f i * c + sg (fun i => f i * c) l = (f i + sg f l) * c
    rw [sg_mul c f l, Nat.add_mul]
theorem su_sg (b : Nat) : ∀ l, su b l = sg (fun i => fb (i + b)) l
  | [] => rfl
  | i :: l => by show fb (i + b) + su b l = fb (i + b) + sg (fun i => fb (i + b)) l; rw [su_sg b l]
theorem sm_sg : ∀ l, sm l = sg fb l
  | [] => rfl
  | i :: l => by show fb i + sm l = fb i + sg fb l; rw [sm_sg l]
/-- the parts one lower -/
def sd (l : List Nat) : Nat := sg (fun i => fb (i - 1)) l
theorem su_sd {t : Nat} {l : List Nat} (hz : Zk t l) (k : Nat) : su k l = sd l * fb k + sm l * fb (k + 1) := by
  rw [su_sg, sm_sg, sd, ← sg_mul, ← sg_mul, ← sg_add]
  refine sg_congr fun i hi => ?_
  have := hz.mem hi
  have h := fb_add (i - 1) k
  rw [show i - 1 + 1 = i by omega] at h
  exact h
/-- how far a power is from its approximation -/
def eK (K i : Nat) : Int := (fb (i - 1) : Int) * (fb K : Int) - (fb i : Int) * (fb (K - 1) : Int)
theorem eK_val (K : Nat) : ∀ i, 1 ≤ i → i ≤ K → eK K i = if i % 2 = 0 then (fb (K - i) : Int) else -(fb (K - i) : Int)
  | 0, h, _ => by omega
  | 1, _, _ => by simp [eK, fb]
  | 2, _, h2 => by
    obtain ⟨k, rfl⟩ : ∃ k, K = k + 2 := ⟨K - 2, by omega⟩
    have e1 : fb (k + 2) = fb k + fb (k + 1) := rfl
    have e2 : eK (k + 2) 2 = (fb 1 : Int) * (fb (k + 2) : Int) - (fb 2 : Int) * (fb (k + 1) : Int) := rfl
    rw [e2, e1]
    simp [fb]
  | i + 3, _, h2 => by
    have h3 := eK_val K (i + 1) (by omega) (by omega)
    have h4 := eK_val K (i + 2) (by omega) (by omega)
    have e : eK K (i + 3) = eK K (i + 1) + eK K (i + 2) := by
      show (fb (i + 2) : Int) * (fb K : Int) - (fb (i + 3) : Int) * (fb (K - 1) : Int) = ((fb i : Int) * (fb K : Int) - (fb (i + 1) : Int) * (fb (K - 1) : Int)) + ((fb (i + 1) : Int) * (fb K : Int) - (fb (i + 2) : Int) * (fb (K - 1) : Int))
      have e1 : (fb (i + 2) : Int) = (fb i : Int) + (fb (i + 1) : Int) := by have : fb (i + 2) = fb i + fb (i + 1) := rfl; omega
      have e2 : (fb (i + 3) : Int) = (fb (i + 1) : Int) + (fb (i + 2) : Int) := by have : fb (i + 3) = fb (i + 1) + fb (i + 2) := rfl; omega
      rw [e2, e1]
      simp only [Int.add_mul]
      omega
    rw [e, h3, h4]
    obtain ⟨k, hk⟩ : ∃ k, K - (i + 3) = k := ⟨_, rfl⟩
    have k1 : K - (i + 2) = k + 1 := by omega
    have k2 : K - (i + 1) = k + 2 := by omega
    rw [hk, k1, k2]
    have e1 : fb (k + 2) = fb k + fb (k + 1) := rfl
    rcases Nat.mod_two_eq_zero_or_one i with hi | hi
    · rw [if_neg (by omega), if_pos (by omega), if_neg (by omega)]; omega
    · rw [if_pos (by omega), if_neg (by omega), if_pos (by omega)]; omega
def eL (K : Nat) : List Nat → Int
  | [] => 0
  | i :: l => eK K i + eL K l
theorem eL_eq (K : Nat) : ∀ l, eL K l = (sd l : Int) * (fb K : Int) - (sm l : Int) * (fb (K - 1) : Int)
  | [] => by simp [eL, sd, sg, sm]
  | i :: l => by
    show eK K i + eL K l = ((fb (i - 1) + sd l : Nat) : Int) * (fb K : Int) - ((fb i + sm l : Nat) : Int) * (fb (K - 1) : Int)
    rw [eL_eq K l]
    unfold eK
    rw [Int.natCast_add, Int.natCast_add, Int.add_mul, Int.add_mul]
    omega
/-- the sum of the sizes -/
theorem abs_bd (K : Nat) : ∀ (l : List Nat) (t : Nat), Zk t l → 1 ≤ t → t ≤ K → sg (fun i => fb (K - i)) l + fb (K - t) ≤ fb (K - 1)
  | [], t, _, h1, h2 => by
    show 0 + fb (K - t) ≤ _
    rw [Nat.zero_add]; exact fb_le (by omega)
  | i :: l, t, ⟨i1, i2, i3⟩, h1, h2 => by
    have ih := abs_bd K l (i - 1) i3 (by omega) (by omega)
    obtain ⟨k, hk⟩ : ∃ k, K - i = k + 1 := ⟨K - i - 1, by omega⟩
    have k1 : K - (i - 1) = k + 2 := by omega
    have h5 : fb (K - t) ≤ fb k := fb_le (by omega)
    rw [k1, fb_two] at ih
    show fb (K - i) + sg (fun i => fb (K - i)) l + fb (K - t) ≤ fb (K - 1)
    rw [hk]; omega
theorem eL_up (K : Nat) : ∀ (l : List Nat) (t : Nat), Zk t l → t ≤ K → eL K l ≤ (sg (fun i => fb (K - i)) l : Int) ∧ -(sg (fun i => fb (K - i)) l : Int) ≤ eL K l
  | [], t, _, _ => by simp [eL, sg]
  | i :: l, t, ⟨i1, i2, i3⟩, h2 => by
    have ih := eL_up K l (i - 1) i3 (by omega)
    have := eK_val K i (by omega) (by omega)
    show eK K i + eL K l ≤ ((fb (K - i) + sg (fun i => fb (K - i)) l : Nat) : Int) ∧ -((fb (K - i) + sg (fun i => fb (K - i)) l : Nat) : Int) ≤ eK K i + eL K l
    rw [this]
    split <;> omega
theorem eL_low (K : Nat) : ∀ (l : List Nat) (t : Nat), Zk t l → 2 ≤ t → t ≤ K → -eL K l + (fb (K - t) : Int) ≤ (fb (K - 2) : Int)
  | [], t, _, h1, h2 => by
    have := fb_le (show K - t ≤ K - 2 by omega)
    simp only [eL]; omega
  | i :: l, t, ⟨i1, i2, i3⟩, h1, h2 => by
    obtain ⟨k, hk⟩ : ∃ k, K - i = k + 1 := ⟨K - i - 1, by omega⟩
    have k1 : K - (i - 1) = k + 2 := by omega
    have e1 : fb (k + 2) = fb k + fb (k + 1) := rfl
    have h5 : fb (K - t) ≤ fb k := fb_le (by omega)
    have hv := eK_val K i (by omega) (by omega)
    show -(eK K i + eL K l) + (fb (K - t) : Int) ≤ (fb (K - 2) : Int)
    rw [hk] at hv
    rcases Nat.lt_or_ge i 3 with hi | hi
    · obtain rfl : i = 2 := by omega
      have : l = [] := by
        cases l with
        | nil => rfl
        | cons x l => exact absurd i3.2.1 (by have := i3.1; omega)
      subst this
      have e2 : K - 2 = k + 1 := hk
      have h6 := fb_succ k
      have hv2 : eK K 2 = (fb (k + 1) : Int) := by rw [hv]; rfl
      rw [e2, hv2]
      simp only [eL]
      omega
    · have ih := eL_low K l (i - 1) i3 (by omega) (by omega)
      rw [k1] at ih
      rw [hv]
      split <;> omega
/-- the parts one lower are known by how near they are -/
theorem sd_near {t K : Nat} {l : List Nat} (hz : Zk t l) (h2 : 2 ≤ t) (hK : t < K) :
    -(fb (K - 2) : Int) < (sd l : Int) * (fb K : Int) - (sm l : Int) * (fb (K - 1) : Int) ∧ (sd l : Int) * (fb K : Int) - (sm l : Int) * (fb (K - 1) : Int) < (fb (K - 1) : Int) := by
  have h3 := abs_bd K l t hz (by omega) (by omega)
  have h4 := eL_up K l t hz (by omega)
  have h5 := eL_low K l t hz h2 (by omega)
  rw [eL_eq] at h4 h5
  obtain ⟨k, hk⟩ : ∃ k, K - t = k + 1 := ⟨K - t - 1, by omega⟩
  have h6 := fb_pos k
  rw [hk] at h3 h5
  omega
end Go.Proofs.Ytobmcofkcfifkaa.T

/- Numbers made smaller; Knuth's law. -/
open Go.Vm
set_option linter.unusedVariables false
namespace Go.Proofs.Ytobmcofkcfifkaa.T
open Go

section
variable {ro : List ABlk} {h : Heap}
end
end Go.Proofs.Ytobmcofkcfifkaa.T

/- Blocks of bytes; copies; zeros as many as one likes. -/
open Go.Vm
set_option linter.unusedVariables false
namespace Go.Proofs.Ytobmcofkcfifkaa.T
open Go

/-- a block of values, no more to it -/
def HB (hp : Heap) (b : Nat) (vs : List AVal) : Prop := ∃ blk, lget hp b = some (some blk) ∧ blk.g = none ∧ blk.n = vs.length ∧ ∀ j, j < vs.length → blk.c.get j = vs.getD j und
theorem HB.holds {hp : Heap} {b : Nat} {vs : List AVal} (a : HB hp b vs) : Holds hp b vs := by
  obtain ⟨blk, h1, -, h2, h3⟩ := a
  exact ⟨blk, h1, h2, h3⟩
theorem HB.lt {hp : Heap} {b : Nat} {vs : List AVal} (a : HB hp b vs) : b < hp.length := a.holds.lt
theorem HB.new (hp : Heap) (e : Nat) (vs : List AVal) : HB (hp ++ [some (blkOf e vs)]) hp.length vs := ⟨_, lget_last _ _, rfl, rfl, fun j _ => get_blk e vs j⟩
theorem HB.keep {hp hp' : Heap} {b : Nat} {vs : List AVal} (a : HB hp b vs) (hk : hp'[b]? = hp[b]?) : HB hp' b vs := by
  obtain ⟨blk, h1, h2⟩ := a
  exact ⟨blk, by rw [lget_of hk]; exact h1, h2⟩
theorem getD_map_range {α : Type} (f : Nat → α) (d : α) {n j : Nat} (hj : j < n) : ((List.range n).map f).getD j d = f j := by
  simp [List.getD, hj]
theorem wrH_off {hp : Heap} {b off : Nat} {blk : ABlk} {vs : List AVal} (hb : lget hp b = some (some blk)) (hn : off + vs.length ≤ blk.n) (ho : ones vs = true) : wrH hp ⟨false, b, off⟩ vs = some (hp.set b (some { blk with c := blk.c.splice off vs })) := by
  have : (Nat.ble (off + vs.length) blk.n && ones vs) = true := by rw [ho, Bool.and_true, Nat.ble_eq]; omega
  simp only [wrH, cond_false, hb, this, cond_true, lset_eq]
/-- values in the middle of a block -/
theorem HB.wr {hp : Heap} {b off n : Nat} {f g : Nat → AVal} {vs : List AVal} (a : HB hp b ((List.range n).map f)) (hn : off + vs.length ≤ n) (ho : ones vs = true) (hg : ∀ j, j < n → g j = if off ≤ j ∧ j < off + vs.length then vs.getD (j - off) und else f j) :
    ∃ hp', wrH hp ⟨false, b, off⟩ vs = some hp' ∧ HB hp' b ((List.range n).map g) ∧ hp'.length = hp.length ∧ ∀ i, i ≠ b → hp'[i]? = hp[i]? := by
  obtain ⟨blk, h1, h2, h3, h4⟩ := a
  have hl : ∀ k : Nat → AVal, ((List.range n).map k).length = n := fun k => by simp
  rw [hl] at h3 h4
  refine ⟨_, wrH_off h1 (by omega) ho, ⟨_, lget_set h1 _, h2, ?_, fun j hj => ?_⟩, by simp, fun i hi => List.getElem?_set_ne (Ne.symm hi)⟩
  · rw [hl]; exact h3
  · rw [hl] at hj
    rw [getD_map_range g und hj, hg j hj]
    show (blk.c.splice off vs).get j = _
    rw [spliceGet]
    split
    · rfl
    · rw [h4 j hj, getD_map_range f und hj]
section
variable {ro : List ABlk} {h : Heap}
end
end Go.Proofs.Ytobmcofkcfifkaa.T

/- The program's word of a number. -/
open Go.Vm
set_option linter.unusedVariables false
namespace Go.Proofs.Ytobmcofkcfifkaa.T
open Go

/-- the digits of a number whose greatest part has the index f -/
def dg (l : List Nat) (i : Nat) : UInt8 := if i ∈ l then 49 else 48
def wd (f : Nat) (l : List Nat) : List UInt8 := (List.range (f - 1)).map fun p => dg l (f - p)
def word (n : Nat) : List UInt8 := if n = 0 then [48] else wd ((zk n).getD 0 0) (zk n)
section
variable {ro : List ABlk} {h : Heap}
end
end Go.Proofs.Ytobmcofkcfifkaa.T

/- Write; words of shifted numbers. -/
open Go.Vm
set_option linter.unusedVariables false
namespace Go.Proofs.Ytobmcofkcfifkaa.T
open Go

section
variable {ro : List ABlk} {h : Heap}
end
/- shifted lists -/
theorem Zk.up (a : Nat) : ∀ {l : List Nat} {t : Nat}, Zk t l → Zk (t + a) (l.map (· + a))
  | [], _, _ => trivial
  | i :: l, t, ⟨h1, h2, h3⟩ => by
    have := Zk.up a h3
    rw [show i - 1 + a = i + a - 1 by omega] at this
    refine ⟨?_, ?_, this⟩
    · show 2 ≤ i + a; omega
    · show i + a < t + a; omega
theorem sm_up (a : Nat) : ∀ l : List Nat, sm (l.map (· + a)) = su a l
  | [] => rfl
  | i :: l => by show fb (i + a) + sm _ = fb (i + a) + su a l; rw [sm_up a l]
theorem zk_up {x a : Nat} (hx : x ≤ big) (hy : su a (zk x) ≤ big) : zk (su a (zk x)) = (zk x).map (· + a) := by
  obtain ⟨h1, h2⟩ := zk_ok hx
  have h3 := gz_uniq (88 + a) (l := (zk x).map (· + a)) (by have := h1.up a; rw [show 88 + a + 1 = 89 + a by omega]; exact this)
  rw [sm_up] at h3
  have hbig : big = 1152921504606846976 := rfl
  rw [gz_big (t := 88) (by rw [fb89]; omega) (by omega)] at h3
  exact h3
end Go.Proofs.Ytobmcofkcfifkaa.T

/- The law of shifts. -/
open Go.Vm
set_option linter.unusedVariables false
namespace Go.Proofs.Ytobmcofkcfifkaa.T
open Go

section
variable {ro : List ABlk} {h : Heap}
end
end Go.Proofs.Ytobmcofkcfifkaa.T

/- The law of the array. -/
open Go.Vm
set_option linter.unusedVariables false
namespace Go.Proofs.Ytobmcofkcfifkaa.T
open Go

/-- a list lower by b, all of it from b + 2 on -/
theorem low_list {b : Nat} : ∀ {l : List Nat} {t : Nat}, Zk t l → (∀ i ∈ l, b + 2 ≤ i) → Zk t (l.map (· - b)) ∧ (l.map (· - b)).map (· + b) = l
  | [], _, _, _ => ⟨trivial, rfl⟩
  | i :: l, t, ⟨h1, h2, h3⟩, hm => by
    have hi := hm i (by simp)
    have key : Zk (i - b - 1) (l.map (· - b)) ∧ (l.map (· - b)).map (· + b) = l := by
      have h4 := low_list (b := b) h3 fun x hx => hm x (by simp [hx])
      refine ⟨?_, h4.2⟩
      cases l with
      | nil => trivial
      | cons x l =>
        obtain ⟨g1, g2, g3⟩ := h4.1
        obtain ⟨k1, k2, k3⟩ := h3
        have := hm x (by simp)
        refine ⟨g1, ?_, g3⟩
        show x - b < i - b - 1
        omega
    refine ⟨⟨?_, ?_, key.1⟩, ?_⟩
    · show 2 ≤ i - b; omega
    · show i - b < t; omega
    · show (i - b + b) :: (l.map (· - b)).map (· + b) = i :: l
      rw [key.2, show i - b + b = i by omega]
theorem lp_of {n : Nat} {l : List Nat} {x : Nat} (h : zk n = l ++ [x]) : lp n = x := by
  unfold lp
  rw [h]
  simp [List.getD]
section
variable {ro : List ABlk} {h : Heap}
end
end Go.Proofs.Ytobmcofkcfifkaa.T

/- Strings, rune by rune; is it a word? -/
open Go.Vm
set_option linter.unusedVariables false
namespace Go.Proofs.Ytobmcofkcfifkaa.T
open Go

section
variable {ro : List ABlk} {h : Heap}
/- words -/
def okD (s : List UInt8) (i : Nat) : Prop := (s.getD i 0 = 48 ∨ s.getD i 0 = 49) ∧ ¬ (s.getD i 0 = 49 ∧ 0 < i ∧ s.getD (i - 1) 0 = 49)
instance (s : List UInt8) (i : Nat) : Decidable (okD s i) := inferInstanceAs (Decidable (_ ∧ _))
def isW (s : List UInt8) : Prop := (∀ i, i < s.length → okD s i) ∧ (s = [48] ∨ s.take 1 = [49])
instance (s : List UInt8) : Decidable (isW s) := inferInstanceAs (Decidable (_ ∧ _))
end
end Go.Proofs.Ytobmcofkcfifkaa.T

/- Digits: their sums, by the program and by the reference. -/
open Go.Vm
set_option linter.unusedVariables false
namespace Go.Proofs.Ytobmcofkcfifkaa.T
open Go

/- digits -/
def isD (s : List UInt8) : Prop := ∀ i, i < s.length → 48 ≤ (s.getD i 0).toNat ∧ (s.getD i 0).toNat ≤ 57
instance (s : List UInt8) : Decidable (isD s) := inferInstanceAs (Decidable (∀ i, i < s.length → _))
section
variable {ro : List ABlk} {h : Heap}
end
end Go.Proofs.Ytobmcofkcfifkaa.T

/- Words, Read and Tidy, by the program and by the reference; their laws. -/
open Go.Vm
set_option linter.unusedVariables false
namespace Go.Proofs.Ytobmcofkcfifkaa.T
open Go

section
variable {ro : List ABlk} {h : Heap}
/- Read -/
/- Tidy -/
end
end Go.Proofs.Ytobmcofkcfifkaa.T

/- Words and their numbers: Zeckendorf's theorem. -/
open Go.Vm
set_option linter.unusedVariables false
namespace Go.Proofs.Ytobmcofkcfifkaa.T
open Go

/-- the digits of the indices from k + 1 down to 2 -/
def G : Nat → List Nat → List UInt8
  | 0, _ => []
  | k + 1, l => dg l (k + 2) :: G k l
/-- a list whose first index is k + 2, or all of it is lower -/
theorem Zk.top {k : Nat} {l : List Nat} (h : Zk (k + 3) l) : (∃ l', l = (k + 2) :: l' ∧ Zk (k + 1) l') ∨ Zk (k + 2) l := by
  cases l with
  | nil => exact .inr trivial
  | cons i l =>
    obtain ⟨h1, h2, h3⟩ := h
    by_cases e : i = k + 2
    · subst e; exact .inl ⟨l, rfl, h3⟩
    · exact .inr ⟨h1, by omega, h3⟩
/-- the indices of a word -/
def ix : List UInt8 → List Nat
  | [] => []
  | c :: r => if c = 49 then (r.length + 2) :: ix r else ix r
end Go.Proofs.Ytobmcofkcfifkaa.T

/- The law of Zeckendorf. -/
open Go.Vm
set_option linter.unusedVariables false
namespace Go.Proofs.Ytobmcofkcfifkaa.T
open Go

section
variable {ro : List ABlk} {h : Heap}
end
end Go.Proofs.Ytobmcofkcfifkaa.T

/- The law of tidied digits. -/
open Go.Vm
set_option linter.unusedVariables false
namespace Go.Proofs.Ytobmcofkcfifkaa.T
open Go

section
variable {ro : List ABlk} {h : Heap}
end
end Go.Proofs.Ytobmcofkcfifkaa.T

/- Wythoff's pairs. -/
open Go.Vm
set_option linter.unusedVariables false
namespace Go.Proofs.Ytobmcofkcfifkaa.T
open Go

theorem fb97 : fb 97 = 83621143489848422977 := by decide +kernel
theorem fb98 : fb 98 = 135301852344706746049 := by decide +kernel
theorem fb99 : fb 99 = 218922995834555169026 := by decide +kernel
theorem fb100 : fb 100 = 354224848179261915075 := by decide +kernel
/-- the parts one lower -/
def X (n : Nat) : Nat := sd (zk n)
theorem S_eq {n : Nat} (hn : n ≤ big) : su 1 (zk n) = n + X n := by
  obtain ⟨h1, h2⟩ := zk_ok hn
  have := su_sd h1 1
  have e1 : fb 1 = 1 := rfl
  have e2 : fb (1 + 1) = 1 := rfl
  rw [h2, e1, e2] at this
  show _ = n + sd (zk n)
  omega
theorem X_near {n : Nat} (hn : n ≤ big) : -(135301852344706746049 : Int) < (X n : Int) * 354224848179261915075 - (n : Int) * 218922995834555169026 ∧ (X n : Int) * 354224848179261915075 - (n : Int) * 218922995834555169026 < 218922995834555169026 := by
  obtain ⟨h1, h2⟩ := zk_ok hn
  have := sd_near (K := 100) h1 (by omega) (by omega)
  rw [h2, fb98, fb99, fb100] at this
  exact this
theorem X_near' {n : Nat} (hn : n ≤ big) : -(83621143489848422977 : Int) < (X n : Int) * 218922995834555169026 - (n : Int) * 135301852344706746049 ∧ (X n : Int) * 218922995834555169026 - (n : Int) * 135301852344706746049 < 135301852344706746049 := by
  obtain ⟨h1, h2⟩ := zk_ok hn
  have := sd_near (K := 99) h1 (by omega) (by omega)
  rw [h2, fb97, fb98, fb99] at this
  exact this
theorem abs_bd2 (K y : Nat) (hy : 1 ≤ y) : ∀ (l : List Nat) (t : Nat), Zk t l → (∀ i ∈ l, y ≤ i) → y - 1 ≤ t → t ≤ K → sg (fun i => fb (K - i)) l + fb (K - t) ≤ fb (K - (y - 1))
  | [], t, _, _, h1, h2 => by
    show 0 + fb (K - t) ≤ _
    rw [Nat.zero_add]; exact fb_le (by omega)
  | i :: l, t, ⟨i1, i2, i3⟩, hm, h1, h2 => by
    have hi := hm i (by simp)
    have ih := abs_bd2 K y hy l (i - 1) i3 (fun x hx => hm x (by simp [hx])) (by omega) (by omega)
    obtain ⟨k, hk⟩ : ∃ k, K - i = k + 1 := ⟨K - i - 1, by omega⟩
    have k1 : K - (i - 1) = k + 2 := by omega
    have h5 : fb (K - t) ≤ fb k := fb_le (by omega)
    rw [k1, fb_two] at ih
    show fb (K - i) + sg (fun i => fb (K - i)) l + fb (K - t) ≤ fb (K - (y - 1))
    rw [hk]; omega
theorem eL_app (K : Nat) : ∀ l m : List Nat, eL K (l ++ m) = eL K l + eL K m
  | [], m => by simp [eL]
  | i :: l, m => by
    show eK K i + eL K (l ++ m) = eK K i + eL K l + eL K m
    rw [eL_app K l m]; omega
theorem Zk.left : ∀ {l m : List Nat} {t : Nat}, Zk t (l ++ m) → Zk t l
  | [], _, _, _ => trivial
  | i :: l, m, t, ⟨h1, h2, h3⟩ => ⟨h1, h2, Zk.left h3⟩
/-- the sign is that of the least part -/
theorem X_sign {n : Nat} (hn : n ≤ big) (h0 : 0 < n) : (lp n % 2 = 0 → 0 < (X n : Int) * 354224848179261915075 - (n : Int) * 218922995834555169026) ∧ (lp n % 2 = 1 → (X n : Int) * 354224848179261915075 - (n : Int) * 218922995834555169026 < 0) := by
  obtain ⟨h1, h2⟩ := zk_ok hn
  obtain ⟨l1, l2⟩ := lp_bd hn h0
  have hz := h1
  rw [zk_last hn h0] at hz
  have hm : ∀ i ∈ (zk n).take ((zk n).length - 1), lp n + 2 ≤ i := fun i hi => hz.snoc hi
  have he := eL_eq 100 (zk n)
  rw [h2, fb99, fb100] at he
  have he2 : eL 100 (zk n) = eL 100 ((zk n).take ((zk n).length - 1)) + eK 100 (lp n) := by
    conv => lhs; rw [zk_last hn h0, eL_app]
    simp [eL]
  have hb := abs_bd2 100 (lp n + 2) (by omega) _ 89 hz.left hm (by omega) (by omega)
  have hu := eL_up 100 _ 89 hz.left (by omega)
  have hv := eK_val 100 (lp n) (by omega) (by omega)
  have e1 : 100 - (lp n + 2 - 1) = 100 - (lp n + 1) := by omega
  rw [e1] at hb
  have h3 := fb_le (show 100 - (lp n + 1) ≤ 100 - lp n by omega)
  have h4 := fb_pos 10
  have e2 : 100 - 89 = 10 + 1 := rfl
  rw [e2] at hb
  have e3 : (X n : Int) = (sd (zk n) : Int) := rfl
  rw [e3]
  have e4 : ((354224848179261915075 : Nat) : Int) = 354224848179261915075 := rfl
  have e5 : ((218922995834555169026 : Nat) : Int) = 218922995834555169026 := rfl
  rw [e4, e5] at he
  refine ⟨fun hp => ?_, fun hp => ?_⟩
  · rw [if_pos hp] at hv; omega
  · rw [if_neg (by omega)] at hv; omega
theorem X_uniq {n : Nat} (hn : n ≤ big) {k : Int} (h : -(135301852344706746049 : Int) < k * 354224848179261915075 - (n : Int) * 218922995834555169026 ∧ k * 354224848179261915075 - (n : Int) * 218922995834555169026 < 218922995834555169026) : k = (X n : Int) := by
  have := X_near hn
  omega
/-- the smaller one of the pair k -/
def A (k : Nat) : Nat := if k = 0 then 0 else su 1 (zk (k - 1)) + 1
theorem A_eq {k : Nat} (hk : k ≤ big) (h0 : 0 < k) : A k = k + X (k - 1) := by
  unfold A
  rw [if_neg (by omega), S_eq (by omega)]; omega
/-- the pair k: how near -/
theorem A_near {k : Nat} (hk : k ≤ big) (h0 : 0 < k) : 0 < (k : Int) * 354224848179261915075 - (A k : Int) * 218922995834555169026 ∧ (k : Int) * 354224848179261915075 - (A k : Int) * 218922995834555169026 < 218922995834555169026 := by
  have h1 := X_near' (n := k - 1) (by omega)
  rw [A_eq hk h0]
  omega
theorem X_A {k : Nat} (hk : k ≤ big) (h0 : 0 < k) (ha : A k ≤ big) : X (A k) = k ∧ lp (A k) % 2 = 0 ∧ 0 < A k := by
  have h1 := A_near hk h0
  have h2 := X_uniq ha (k := (k : Int)) (by omega)
  have h3 : 0 < A k := by rw [A_eq hk h0]; omega
  refine ⟨by omega, ?_, h3⟩
  have h4 := (X_sign ha h3).2
  rcases Nat.mod_two_eq_zero_or_one (lp (A k)) with h | h
  · exact h
  · have := h4 h; omega
/-- an even one is the smaller one of a pair -/
theorem A_X {n : Nat} (hn : n ≤ big) (h0 : 0 < n) (he : lp n % 2 = 0) : A (X n) = n ∧ 0 < X n ∧ X n ≤ n := by
  have h1 := (X_sign hn h0).1 he
  have h2 := X_near hn
  have hx : 0 < X n := by omega
  have hxn : X n ≤ n := by omega
  have h3 := A_near (k := X n) (by omega) hx
  exact ⟨by omega, hx, hxn⟩
/-- the heap that makes a lost pair with another one -/
def P (n : Nat) : Nat := if n = 0 then 0 else if lp n % 2 = 0 then su 1 (zk n) else X n
theorem P_even {n : Nat} (hn : n ≤ big) (h0 : 0 < n) (he : lp n % 2 = 0) : P n = n + X n := by
  unfold P
  rw [if_neg (by omega), if_pos he, S_eq hn]
theorem P_odd {n : Nat} (h0 : 0 < n) (ho : lp n % 2 = 1) : P n = X n := by
  unfold P
  rw [if_neg (by omega), if_neg (by omega)]
theorem lp_up {n : Nat} (hn : n ≤ big) (h0 : 0 < n) (hs : su 1 (zk n) ≤ big) : lp (su 1 (zk n)) = lp n + 1 ∧ X (su 1 (zk n)) = n := by
  have hz := zk_up hn hs
  have hl := zk_last hn h0
  constructor
  · refine lp_of (l := ((zk n).take ((zk n).length - 1)).map (· + 1)) ?_
    rw [hz]
    conv => lhs; rw [hl]
    rw [List.map_append]; rfl
  · unfold X
    rw [hz]
    have : ∀ l : List Nat, sd (l.map (· + 1)) = sm l := fun l => by
      induction l with
      | nil => rfl
      | cons i l ih =>
        show fb (i + 1 - 1) + sd (l.map (· + 1)) = fb i + sm l
        rw [ih, Nat.add_sub_cancel]
    rw [this, (zk_ok hn).2]
theorem X_odd {n : Nat} (hn : n ≤ big) (h0 : 0 < n) (ho : lp n % 2 = 1) : X n ≤ big ∧ 0 < X n ∧ su 1 (zk (X n)) = n ∧ lp (X n) % 2 = 0 ∧ X n < n := by
  obtain ⟨h1, h2⟩ := zk_ok hn
  obtain ⟨l1, l2⟩ := lp_bd hn h0
  have hz := h1
  rw [zk_last hn h0] at hz
  have hm : ∀ i ∈ zk n, 1 + 2 ≤ i := fun i hi => by
    rw [zk_last hn h0] at hi
    rcases List.mem_append.1 hi with h | h
    · have := hz.snoc h; omega
    · simp only [List.mem_singleton] at h; omega
  obtain ⟨h3, h4⟩ := low_list h1 hm
  have hX : X n = sm ((zk n).map (· - 1)) := by
    unfold X sd
    generalize zk n = l
    induction l with
    | nil => rfl
    | cons i l ih =>
      show fb (i - 1) + sg (fun i => fb (i - 1)) l = fb (i - 1) + sm (l.map (· - 1))
      rw [ih]
  have hzX : zk (X n) = (zk n).map (· - 1) := by rw [hX]; exact zk_uniq h3
  have hs : su 1 (zk (X n)) = n := by rw [hzX, ← sm_up, h4, h2]
  have hle : X n ≤ n := by
    have := (X_sign hn h0).2 ho
    omega
  have hpos : 0 < X n := by
    rcases Nat.eq_zero_or_pos (X n) with h | h
    · rw [h, show zk 0 = [] from gz_zero 88] at hs
      have : su 1 ([] : List Nat) = 0 := rfl
      omega
    · exact h
  have hl := (lp_up (n := X n) (by omega) hpos (by rw [hs]; exact hn)).1
  rw [hs] at hl
  have hlt : X n < n := by
    have := (X_sign hn h0).2 ho
    omega
  exact ⟨by omega, hpos, hs, by omega, hlt⟩
/-- lost pairs are so in either order -/
theorem P_symm {a b : Nat} (ha : a ≤ big) (hb : b ≤ big) (h : P a = b) : P b = a := by
  rcases Nat.eq_zero_or_pos a with rfl | h0
  · have : P 0 = 0 := rfl
    rw [← h, this]; rfl
  rcases Nat.mod_two_eq_zero_or_one (lp a) with he | ho
  · have hP : P a = su 1 (zk a) := by unfold P; rw [if_neg (by omega), if_pos he]
    rw [hP] at h
    obtain ⟨h1, h2⟩ := lp_up ha h0 (by rw [h]; exact hb)
    have hS := S_eq ha
    rw [h] at h1 h2 hS
    rw [P_odd (by omega) (by omega), h2]
  · rw [P_odd h0 ho] at h
    obtain ⟨h1, h2, h3, h4, h5⟩ := X_odd ha h0 ho
    rw [h] at h1 h2 h3 h4
    unfold P
    rw [if_neg (by omega), if_pos h4, h3]
/-- a lost pair and its difference -/
theorem P_diff {a b : Nat} (ha : a ≤ big) (h : P a = b) (hab : a < b) : 0 < a ∧ lp a % 2 = 0 ∧ X a = b - a ∧ A (b - a) = a := by
  rcases Nat.eq_zero_or_pos a with rfl | h0
  · have : P 0 = 0 := rfl
    omega
  rcases Nat.mod_two_eq_zero_or_one (lp a) with he | ho
  · rw [P_even ha h0 he] at h
    have := A_X ha h0 he
    have e : b - a = X a := by omega
    rw [e]
    exact ⟨h0, he, rfl, this.1⟩
  · rw [P_odd h0 ho] at h
    have := (X_odd ha h0 ho).2.2.2.2
    omega
theorem P_pair {k : Nat} (hk : k ≤ big) (ha : A k ≤ big) : P (A k) = A k + k := by
  rcases Nat.eq_zero_or_pos k with rfl | h0
  · rfl
  · obtain ⟨h1, h2, h3⟩ := X_A hk h0 ha
    rw [P_even ha h3 h2, h1]
theorem P_self {a : Nat} (ha : a ≤ big) (h : P a = a) : a = 0 := by
  rcases Nat.eq_zero_or_pos a with h0 | h0
  · exact h0
  rcases Nat.mod_two_eq_zero_or_one (lp a) with he | ho
  · rw [P_even ha h0 he] at h
    have := (A_X ha h0 he).2.1
    omega
  · rw [P_odd h0 ho] at h
    have := (X_odd ha h0 ho).2.2.2.2
    omega
/-- what can be taken of both -/
theorem both_ok {a b : Nat} (ha : a ≤ big) (hab : a < b) (h : b < P a) : A (b - a) < a := by
  have h0 : 0 < a := by
    rcases Nat.eq_zero_or_pos a with rfl | h0
    · have : P 0 = 0 := rfl
      omega
    · exact h0
  rcases Nat.mod_two_eq_zero_or_one (lp a) with he | ho
  · rw [P_even ha h0 he] at h
    have h1 := (X_sign ha h0).1 he
    have h2 := X_near ha
    have hx := (A_X ha h0 he).2.2
    have h3 := A_near (k := b - a) (by omega) (by omega)
    omega
  · rw [P_odd h0 ho] at h
    have := (X_odd ha h0 ho).2.2.2.2
    omega
end Go.Proofs.Ytobmcofkcfifkaa.T

/- Pair, Lost and Move, as the program answers. -/
open Go.Vm
set_option linter.unusedVariables false
namespace Go.Proofs.Ytobmcofkcfifkaa.T
open Go

def sm66 (k : Nat) : Nat := if k = 0 then 0 else min (su 1 (zk (k - 1))) tm + 1
theorem sm66_A {k : Nat} : sm66 k ≤ tm + 1 ∧ (A k ≤ tm → sm66 k = A k) ∧ (sm66 k ≤ big → sm66 k = A k) := by
  unfold sm66 A
  have hbig : big = 1152921504606846976 := rfl
  have htm : tm = 1152921504606846977 := rfl
  split <;> omega
def pt (n : Nat) : Nat := min (P n) tm
section
variable {ro : List ABlk} {h : Heap}
theorem smaller66 {k : Nat} (hk : k ≤ big) : callX F1 ro 66 [.i .i64 (k : Int)] h = some (.i .i64 (sm66 k : Int), h, h.length, h.length) := by
  refine g66_ok (meansX_ok F1 ro) rfl ?_
  unfold g66 sm66
  have hbig : big = 1152921504606846976 := rfl
  have htm : tm = 1152921504606846977 := rfl
  simp only [fB]
  rcases Nat.eq_zero_or_pos k with rfl | h0
  · have e : eqI ((0 : Nat) : Int) 0 = true := rfl
    simp only [e, cT, tA, if_true]
    exact fin_pure rfl
  · have e1 : wr .i64 ((k : Int) - 1) = ((k - 1 : Nat) : Int) := by rw [wr_id' (by omega) (by omega)]; omega
    have e2 : acc 1 (zk (k - 1)) = ((min (su 1 (zk (k - 1))) tm : Nat) : Int) := acc_nat 1 _
    have e3 : wr .i64 (((min (su 1 (zk (k - 1))) tm : Nat) : Int) + 1) = ((min (su 1 (zk (k - 1))) tm + 1 : Nat) : Int) := by rw [wr_id' (by omega) (by omega)]; omega
    simp only [eqI_ne (show (k : Int) ≠ 0 by omega), cF, fI', e1, mC, cp0 (shifted63 (ro := ro) (h := h) (show k - 1 ≤ big by omega) (b := 1) (by omega) (by omega)), pS, iS, e2, e3, tA, if_neg (show ¬ k = 0 by omega)]
    exact fin_pure rfl
theorem partner68 {n : Nat} (hn : n ≤ big) : callX F1 ro 68 [.i .i64 (n : Int)] h = some (.i .i64 (pt n : Int), h, h.length, h.length) := by
  refine g68_ok (meansX_ok F1 ro) rfl ?_
  unfold g68
  have hbig : big = 1152921504606846976 := rfl
  have htm : tm = 1152921504606846977 := rfl
  simp only [fB]
  rcases Nat.eq_zero_or_pos n with rfl | h0
  · have e : eqI ((0 : Nat) : Int) 0 = true := rfl
    simp only [e, cT, tA]
    exact fin_pure rfl
  obtain ⟨l1, l2⟩ := lp_bd hn h0
  have e1 : wr .i64 ((lp n : Int) - 2) = ((lp n - 2 : Nat) : Int) := by rw [wr_id' (by omega) (by omega)]; omega
  have e2 : Int.tmod ((lp n - 2 : Nat) : Int) 2 = (((lp n - 2) % 2 : Nat) : Int) := rfl
  simp only [eqI_ne (show (n : Int) ≠ 0 by omega), cF, mC, cp0 (least72 (ro := ro) (h := h) hn h0), pS, iS, fI', e1, e2]
  rcases Nat.mod_two_eq_zero_or_one (lp n) with he | ho
  · have e3 : ((lp n - 2) % 2 : Nat) = 0 := by omega
    have e4 : acc 1 (zk n) = ((min (su 1 (zk n)) tm : Nat) : Int) := acc_nat 1 _
    have e5 : pt n = min (su 1 (zk n)) tm := by unfold pt P; rw [if_neg (by omega), if_pos he]
    have e6 : eqI ((0 : Nat) : Int) 0 = true := rfl
    rw [e3]
    simp only [e6, cT, cp0 (shifted63 (ro := ro) (h := h) hn (b := 1) (by omega) (by omega)), pS, iS, e4, e5, tA]
    exact fin_pure rfl
  · have e3 : ((lp n - 2) % 2 : Nat) = 1 := by omega
    have e4 : acc (-1) (zk n) = (X n : Int) := by
      have := (acc_neg hn (b := 1) (by omega) (by omega)).1
      have hs : ∀ l : List Nat, (∀ i ∈ l, 2 ≤ i) → si (-((1 : Nat) : Int)) l = (sd l : Int) := fun l hl => by
        induction l with
        | nil => rfl
        | cons i l ih =>
          have := hl i (by simp)
          show fI ((i : Int) + -((1 : Nat) : Int)) + si (-((1 : Nat) : Int)) l = ((fb (i - 1) + sd l : Nat) : Int)
          rw [ih fun x hx => hl x (by simp [hx]), show (i : Int) + -((1 : Nat) : Int) = ((i - 1 : Nat) : Int) by omega, fI_nat]; omega
      rw [hs (zk n) fun i hi => ((zk_ok hn).1.mem hi).1] at this
      exact this
    have e5 : pt n = X n := by
      unfold pt
      rw [P_odd h0 ho, Nat.min_eq_left]
      have := (X_odd hn h0 ho).1
      omega
    have e6 : eqI ((1 : Nat) : Int) 0 = false := rfl
    rw [e3]
    simp only [e6, cF, cp0 (shifted63 (ro := ro) (h := h) hn (b := -1) (by omega) (by omega)), pS, iS, e4, e5, tA]
    exact fin_pure rfl
theorem pt_eq {a b : Nat} (hb : b ≤ big) : ((pt a : Int) = (b : Int) ↔ P a = b) ∧ ((pt a : Int) < (b : Int) ↔ P a < b) := by
  have hbig : big = 1152921504606846976 := rfl
  have htm : tm = 1152921504606846977 := rfl
  unfold pt
  omega
def pairV (k : Int) : Int × Int × Int := if k < 0 ∨ 288230376151711744 < k then (0, 0, 4) else ((A k.toNat : Int), (A k.toNat : Int) + k, 0)
theorem A_small {k : Nat} (hk : k ≤ 288230376151711744) : A k ≤ 2 * k := by
  have hbig : big = 1152921504606846976 := rfl
  rcases Nat.eq_zero_or_pos k with rfl | h0
  · exact Nat.le_refl _
  · have := A_near (k := k) (by omega) h0
    omega
theorem pair33 {k : Int} : callX F1 ro 33 [.i .i64 k] h = some (ret3 (pairV k), h, h.length, h.length) := by
  refine g33_ok (meansX_ok F1 ro) rfl ?_
  unfold g33 pairV
  have hbig : big = 1152921504606846976 := rfl
  have htm : tm = 1152921504606846977 := rfl
  simp only [fB]
  rcases Int.lt_or_le k 0 with h1 | h1
  · simp only [ltT h1, cT, oS, if_pos (Or.inl h1 : k < 0 ∨ 288230376151711744 < k), tA3]
    exact fin_pure rfl
  rcases Int.lt_or_le 288230376151711744 k with h2 | h2
  · simp only [ltF (show ¬ k < 0 by omega), ltT h2, cF, cT, oS, if_pos (Or.inr h2 : k < 0 ∨ 288230376151711744 < k), tA3]
    exact fin_pure rfl
  obtain ⟨n, rfl⟩ := Int.eq_ofNat_of_zero_le h1
  have hA := A_small (k := n) (by omega)
  have e1 : sm66 n = A n := sm66_A.2.1 (by omega)
  have e2 : wr .i64 ((A n : Int) + (n : Int)) = (A n : Int) + (n : Int) := wr_id' (by omega) (by omega)
  simp only [ltF (show ¬ (n : Int) < 0 by omega), ltF (show ¬ 288230376151711744 < (n : Int) by omega), cF, oS, if_neg (show ¬ ((n : Int) < 0 ∨ 288230376151711744 < (n : Int)) by omega), mC, cp0 (smaller66 (ro := ro) (h := h) (show n ≤ big by omega)), e1, pS, iS, fI', e2, tA3, Int.toNat_natCast]
  exact fin_pure rfl
def retB (p : Bool × Int) : AVal := .tup [.b p.1, .i .i64 p.2]
theorem rB0 (p : Bool × Int) : evP .e (.ext 0 (.c (retB p))) = some (.b p.1) := x0 _ _
theorem rB1 (p : Bool × Int) : evP .e (.ext 1 (.c (retB p))) = some (.i .i64 p.2) := x1 _ _ _
def lostV (a b : Int) : Bool × Int := if ¬ (inR a ∧ inR b) then (false, 4) else (decide (P a.toNat = b.toNat), 0)
theorem lost35 {a b : Int} : callX F1 ro 35 [.i .i64 a, .i .i64 b] h = some (retB (lostV a b), h, h.length, h.length) := by
  refine g35_ok (meansX_ok F1 ro) rfl ?_
  obtain ⟨v, H, s1, s2, kp⟩ := two51 (ro := ro) (h := h) (x := a) (y := b) (Nat.le_refl _) (Nat.le_refl _)
  unfold g35
  simp only [s1, pS, mC, s2, bS, fB]
  unfold lostV
  by_cases hr : inR a ∧ inR b
  rotate_left
  · rw [dF hr, if_pos hr]
    simp only [nF, cT, tA2]
    exact fin_keep kp rfl
  rw [dT hr, if_neg (fun e => e hr)]
  obtain ⟨k, rfl, hk⟩ := inR_nat hr.1
  obtain ⟨m, rfl, hm⟩ := inR_nat hr.2
  have e : eqI (pt k : Int) (m : Int) = decide (P k = m) := by
    rw [eqI_eq]
    have := (pt_eq (a := k) hm).1
    by_cases hp : P k = m
    · rw [dT hp, this.2 hp]; simp
    · rw [dF hp]
      have hne : ¬ (pt k : Int) = (m : Int) := fun e => hp (this.1 e)
      simp [hne]
  simp only [nT, cF, cp (partner68 (ro := ro) (h := H) hk) kp.1 kp.1, pS, iS, e, tA2, Int.toNat_natCast]
  exact fin_keep kp rfl
def moveV (a b : Nat) : Int × Int × Int :=
  if P a = b then (0, 0, 10) else if P a < b then (0, (b : Int) - (P a : Int), 0) else
    if 0 < ((min a b : Nat) : Int) - (sm66 (max a b - min a b) : Int) ∧ ((a : Int) - (pt b : Int) < 0 ∨ ((min a b : Nat) : Int) - (sm66 (max a b - min a b) : Int) < (a : Int) - (pt b : Int)) then
      (((min a b : Nat) : Int) - (sm66 (max a b - min a b) : Int), ((min a b : Nat) : Int) - (sm66 (max a b - min a b) : Int), 0) else ((a : Int) - (pt b : Int), 0, 0)
theorem mxT {a c : Nat} : mxV true (a : Int) (c : Int) = ((max a c : Nat) : Int) := by
  unfold mxV
  simp only [if_true]
  split <;> omega
theorem move37 {a b : Nat} (ha : a ≤ big) (hb : b ≤ big) : callX F1 ro 37 [.i .i64 (a : Int), .i .i64 (b : Int)] h = some (ret3 (moveV a b), h, h.length, h.length) := by
  refine g37_ok (meansX_ok F1 ro) rfl ?_
  obtain ⟨v, H, s1, s2, kp⟩ := two51 (ro := ro) (h := h) (x := (a : Int)) (y := (b : Int)) (Nat.le_refl _) (Nat.le_refl _)
  unfold g37
  have hbig : big = 1152921504606846976 := rfl
  have htm : tm = 1152921504606846977 := rfl
  have hpa := cp (partner68 (ro := ro) (h := H) ha) kp.1 kp.1
  have hpb := cp (partner68 (ro := ro) (h := H) hb) kp.1 kp.1
  simp only [s1, pS, mC, s2, bS, fB, dT (show inR (a : Int) ∧ inR (b : Int) from ⟨nat_inR ha, nat_inR hb⟩), nT, cF, hpa, iS]
  unfold moveV
  obtain ⟨q1, q2⟩ := pt_eq (a := a) hb
  have hpt : pt a ≤ tm := Nat.min_le_right _ _
  have hpt2 : pt b ≤ tm := Nat.min_le_right _ _
  by_cases h1 : P a = b
  · have e : (pt a : Int) = (b : Int) := q1.2 h1
    rw [e, if_pos h1]
    simp only [eqI_self, cT, tA3]
    exact fin_keep kp rfl
  rw [eqI_ne (fun e => h1 (q1.1 e)), if_neg h1]
  simp only [cF]
  by_cases h2 : P a < b
  · have e1 : pt a = P a := Nat.min_eq_left (by omega)
    have e2 : wr .i64 ((b : Int) - (pt a : Int)) = (b : Int) - (P a : Int) := by rw [e1]; exact wr_id' (by omega) (by omega)
    rw [ltT (q2.2 h2), if_pos h2]
    simp only [cT, hpa, pS, iS, fI', e2, tA3]
    exact fin_keep kp rfl
  rw [ltF (fun e => h2 (q2.1 e)), if_neg h2]
  have e1 : wr .i64 ((a : Int) - (pt b : Int)) = (a : Int) - (pt b : Int) := wr_id' (by omega) (by omega)
  have e2 : wr .i64 (((max a b : Nat) : Int) - ((min a b : Nat) : Int)) = ((max a b - min a b : Nat) : Int) := by rw [wr_id' (by omega) (by omega)]; omega
  have hs := (sm66_A (k := max a b - min a b)).1
  have e3 : wr .i64 (((min a b : Nat) : Int) - (sm66 (max a b - min a b) : Int)) = ((min a b : Nat) : Int) - (sm66 (max a b - min a b) : Int) := wr_id' (by omega) (by omega)
  simp only [cF, hpb, pS, iS, fI', e1, mxF, mxT, e2, cp (smaller66 (ro := ro) (h := H) (show max a b - min a b ≤ big by omega)) kp.1 kp.1, e3]
  generalize ((min a b : Nat) : Int) - (sm66 (max a b - min a b) : Int) = B
  generalize (a : Int) - (pt b : Int) = O
  by_cases g1 : 0 < B
  · rw [ltT g1]
    by_cases g2 : O < 0
    · rw [ltT g2, if_pos ⟨g1, .inl g2⟩]
      simp only [cT, oS, tA3]
      exact fin_keep kp rfl
    · rw [ltF g2]
      by_cases g3 : B < O
      · rw [ltT g3, if_pos ⟨g1, .inr g3⟩]
        simp only [cT, cF, oS, tA3]
        exact fin_keep kp rfl
      · rw [ltF g3, if_neg (fun e => e.2.elim g2 g3)]
        simp only [cT, cF, oS, tA3]
        exact fin_keep kp rfl
  · rw [ltF g1, if_neg (fun e => g1 e.1)]
    simp only [cF, oS, tA3]
    exact fin_keep kp rfl
end
end Go.Proofs.Ytobmcofkcfifkaa.T

/- Zeros at the end of a word. -/
open Go.Vm
set_option linter.unusedVariables false
namespace Go.Proofs.Ytobmcofkcfifkaa.T
open Go

section
variable {ro : List ABlk} {h : Heap}
end
end Go.Proofs.Ytobmcofkcfifkaa.T

/- Wythoff -/
open Go.Vm
set_option linter.unusedVariables false
namespace Go.Proofs.Ytobmcofkcfifkaa.T
open Go

section
variable {ro : List ABlk} {h : Heap}
end
end Go.Proofs.Ytobmcofkcfifkaa.T

/- Sums: the three cells -/
open Go.Vm
set_option linter.unusedVariables false
namespace Go.Proofs.Ytobmcofkcfifkaa.T
open Go

/- in how many ways a number is a sum of different Fibonacci numbers -/
/-- a cell that holds a number -/
abbrev ce (x : Int) : Option ABlk := some (blkOf 3 [.i .i64 x])
/-- three cells -/
abbrev h3 (A B : Heap) (w s b : Int) : Heap := A ++ ce w :: ce s :: ce b :: B
section
variable {ro : List ABlk} {h A B : Heap} {w s b x : Int} {l p : Nat} {r r2 : Option ABlk}
end
end Go.Proofs.Ytobmcofkcfifkaa.T

/- Sums: the loop over a function -/
open Go.Vm
set_option linter.unusedVariables false
namespace Go.Proofs.Ytobmcofkcfifkaa.T
open Go

section
variable {ro : List ABlk} {h A B : Heap} {w s b x : Int} {l p : Nat} {r r2 : Option ABlk}
theorem Zk.drop : ∀ {l : List Nat} {t : Nat} (k : Nat), Zk t l → ∃ t', t' ≤ t ∧ Zk t' (l.drop k)
  | l, t, 0, h => ⟨t, Nat.le_refl _, h⟩
  | [], t, k + 1, h => ⟨t, Nat.le_refl _, trivial⟩
  | i :: l, t, k + 1, ⟨h1, h2, h3⟩ => by
    obtain ⟨t', g1, g2⟩ := Zk.drop k h3
    exact ⟨t', by omega, g2⟩
end
end Go.Proofs.Ytobmcofkcfifkaa.T

/- Sums: contract -/
open Go.Vm
set_option linter.unusedVariables false
namespace Go.Proofs.Ytobmcofkcfifkaa.T
open Go

section
variable {ro : List ABlk} {h A B : Heap} {w s b x : Int} {l p : Nat} {r r2 : Option ABlk}
end
end Go.Proofs.Ytobmcofkcfifkaa.T

/- Letters -/
open Go.Vm
set_option linter.unusedVariables false
namespace Go.Proofs.Ytobmcofkcfifkaa.T
open Go

section
variable {ro : List ABlk} {h : Heap}
end
end Go.Proofs.Ytobmcofkcfifkaa.T

/- Whinihan's game: the table -/
open Go.Vm
set_option linter.unusedVariables false
namespace Go.Proofs.Ytobmcofkcfifkaa.T
open Go

/- one heap of seeds: each takes at most twice what was taken before -/
theorem Zk.join : ∀ {a b : List Nat} {t p : Nat}, Zk t a → (∀ i ∈ a, p + 2 ≤ i) → Zk p b → p ≤ t → Zk t (a ++ b)
  | [], b, t, p, _, _, hb, hp => hb.mono hp
  | i :: a, b, t, p, ⟨h1, h2, h3⟩, ha, hb, hp => by
    have hi := ha i (by simp)
    exact ⟨h1, h2, Zk.join h3 (fun x hx => ha x (by simp [hx])) hb (by omega)⟩
/-- the table of what is known of the game -/
structure Memo (L : Nat) (H : Heap) (ob : Nat) (R : Nat → Nat) (f : Nat → Nat → Int) : Prop where
  top : Vec H 50 ob 61 (fun r => .sl ⟨false, R r, 0⟩ 61 (.known 61))
  rows : ∀ i, i < 61 → L ≤ R i ∧ Vec H 3 (R i) 61 (fun k => .i .i64 (f i k))
  inj : ∀ i j, i < 61 → j < 61 → R i = R j → i = j
section
variable {ro : List ABlk} {h H : Heap} {L ob : Nat} {R : Nat → Nat} {f : Nat → Nat → Int}
theorem Memo.row (a : Memo L H ob R f) {i : Nat} (hi : i < 61) : evP .e (.ixS 1 (.c (.sl ⟨false, ob, 0⟩ 61 .grow)) (.c (.i .i64 (i : Int)))) = some (.p (some ⟨false, ob, 0 + i⟩)) ∧ ∀ l p, ldM ro ⟨H, l, p⟩ true 1 (.p (some ⟨false, ob, 0 + i⟩)) = some (.sl ⟨false, R i, 0⟩ 61 (.known 61)) :=
  ⟨ixS_eq hi, fun l p => a.top.ld hi⟩
theorem Memo.cell (a : Memo L H ob R f) {i k : Nat} (hi : i < 61) (hk : k < 61) : evP .e (.ixS 1 (.c (.sl ⟨false, R i, 0⟩ 61 (.known 61))) (.c (.i .i64 (k : Int)))) = some (.p (some ⟨false, R i, 0 + k⟩)) ∧ ∀ l p, ldM ro ⟨H, l, p⟩ true 1 (.p (some ⟨false, R i, 0 + k⟩)) = some (.i .i64 (f i k)) :=
  ⟨ixS_eq hk, fun l p => (a.rows i hi).2.ld hk⟩
theorem Memo.set (a : Memo L H ob R f) {i k : Nat} (hi : i < 61) (hk : k < 61) (x : Int) (l p : Nat) : ∃ y, stepM ro ⟨H, l, p⟩ (.st 1 (.c (.p (some ⟨false, R i, 0 + k⟩))) (.c (.i .i64 x))) = some (und, ⟨H.set (R i) y, min l (R i), p⟩) ∧ Memo L (H.set (R i) y) ob R (fun i' k' => if i' = i ∧ k' = k then x else f i' k') := by
  obtain ⟨y, s1, s2⟩ := (a.rows i hi).2.set (ro := ro) (l := l) (p := p) hk (v := .i .i64 x) rfl rfl rfl
  refine ⟨y, s1, ?_, fun j hj => ⟨(a.rows j hj).1, ?_⟩, a.inj⟩
  · exact a.top.keep (List.getElem?_set_ne (Ne.symm (a.top.ne (a.rows i hi).2 (by decide))))
  · by_cases e : j = i
    · subst e
      refine s2.congr fun r hr => ?_
      by_cases e2 : r = k
      · simp [e2]
      · simp [e2]
    · have h2 := (a.rows j hj).2.keep (hp' := H.set (R i) y) (List.getElem?_set_ne fun e2 => e (a.inj j i hj hi e2.symm))
      refine h2.congr fun r hr => ?_
      rw [if_neg (fun e2 => e e2.1)]
end
end Go.Proofs.Ytobmcofkcfifkaa.T

/- Whinihan's game: the search -/
open Go.Vm
set_option linter.unusedVariables false
namespace Go.Proofs.Ytobmcofkcfifkaa.T
open Go

section
variable {ro : List ABlk} {h : Heap} {L ob : Nat} {R : Nat → Nat}
end
end Go.Proofs.Ytobmcofkcfifkaa.T

/- Whinihan's game: the table is made -/
open Go.Vm
set_option linter.unusedVariables false
namespace Go.Proofs.Ytobmcofkcfifkaa.T
open Go

section
variable {ro : List ABlk} {h : Heap}
end
end Go.Proofs.Ytobmcofkcfifkaa.T

/- Whinihan's game -/
open Go.Vm
set_option linter.unusedVariables false
namespace Go.Proofs.Ytobmcofkcfifkaa.T
open Go

section
variable {ro : List ABlk} {h : Heap}
end
end Go.Proofs.Ytobmcofkcfifkaa.T

/- How often a number is a sum of Fibonacci numbers -/
open Go.Vm
set_option linter.unusedVariables false
namespace Go.Proofs.Ytobmcofkcfifkaa.T
open Go

/- how often a number is a sum of different ones of F(2) .. F(i) -/
def rep2 : Nat → Nat → Nat
  | 0, r => if r = 0 then 1 else 0
  | i + 1, r => rep2 i r + if fb (i + 2) ≤ r then rep2 i (r - fb (i + 2)) else 0
/-- above all of them together: never -/
theorem rep2_big : ∀ (i r : Nat), fb (i + 3) ≤ r + 1 → rep2 i r = 0
  | 0, r, h => by
    have e : fb (0 + 3) = 2 := rfl
    show (if r = 0 then 1 else 0) = 0
    rw [if_neg (by omega)]
  | i + 1, r, h => by
    have e : fb (i + 1 + 3) = fb (i + 2) + fb (i + 3) := rfl
    have h1 := fb_le (show i + 2 ≤ i + 3 by omega)
    have h2 := fb_pos (i + 1)
    show rep2 i r + (if fb (i + 2) ≤ r then rep2 i (r - fb (i + 2)) else 0) = 0
    rw [rep2_big i r (by omega)]
    split
    · rw [rep2_big i _ (by omega)]
    · rfl
/-- otherwise at least once -/
theorem rep2_pos : ∀ (i r : Nat), r + 2 ≤ fb (i + 3) → 1 ≤ rep2 i r
  | 0, r, h => by
    have e : fb (0 + 3) = 2 := rfl
    show 1 ≤ (if r = 0 then 1 else 0)
    rw [if_pos (by omega)]; exact Nat.le_refl _
  | i + 1, r, h => by
    have e : fb (i + 1 + 3) = fb (i + 2) + fb (i + 3) := rfl
    show 1 ≤ rep2 i r + (if fb (i + 2) ≤ r then rep2 i (r - fb (i + 2)) else 0)
    by_cases hc : fb (i + 2) ≤ r
    · rw [if_pos hc]
      have := rep2_pos i (r - fb (i + 2)) (by omega)
      omega
    · have e2 : fb (i + 3) = fb (i + 1) + fb (i + 2) := rfl
      have h2 := fb_pos i
      have := rep2_pos i r (by omega)
      omega
theorem Zk.step {p : Nat} : ∀ {l : List Nat}, Zk (p + 1) l → Zk p l ∨ ∃ l', l = p :: l' ∧ Zk (p - 1) l'
  | [], _ => .inl trivial
  | i :: l, ⟨h1, h2, h3⟩ => by
    rcases Nat.lt_or_ge i p with h | h
    · exact .inl ⟨h1, h, h3⟩
    · have : i = p := by omega
      subst this
      exact .inr ⟨l, rfl, h3⟩
/- lists of rests and in how many ways each is come to -/
def addL : List (Nat × Nat) → Nat → Nat → List (Nat × Nat)
  | [], r, w => [(r, w)]
  | e :: L, r, w => if e.1 = r then (r, e.2 + w) :: L else e :: addL L r w
def stq (lim F : Nat) (acc : List (Nat × Nat)) (e : Nat × Nat) : List (Nat × Nat) :=
  let a := if e.1 ≤ lim then addL acc e.1 e.2 else acc
  if F ≤ e.1 ∧ e.1 - F ≤ lim then addL a (e.1 - F) e.2 else a
def wt (f : Nat → Nat) : List (Nat × Nat) → Nat
  | [] => 0
  | e :: L => e.2 * f e.1 + wt f L
theorem wt_add (f : Nat → Nat) (r w : Nat) : ∀ L, wt f (addL L r w) = wt f L + w * f r
  | [] => by show w * f r + 0 = 0 + w * f r; omega
  | e :: L => by
    unfold addL
    by_cases h : e.1 = r
    · rw [if_pos h]
      show (e.2 + w) * f r + wt f L = e.2 * f e.1 + wt f L + w * f r
      rw [h, Nat.add_mul]; omega
    · rw [if_neg h]
      show e.2 * f e.1 + wt f (addL L r w) = e.2 * f e.1 + wt f L + w * f r
      rw [wt_add f r w L]; omega
theorem mem_addL {r w x : Nat} : ∀ {L : List (Nat × Nat)}, x ∈ (addL L r w).map Prod.fst ↔ x ∈ L.map Prod.fst ∨ x = r
  | [] => by simp [addL]
  | e :: L => by
    unfold addL
    by_cases h : e.1 = r
    · rw [if_pos h]
      simp only [List.map_cons, List.mem_cons, h]
      constructor
      · rintro (h | h)
        · exact .inl (.inl h)
        · exact .inl (.inr h)
      · rintro ((h | h) | h)
        · exact .inl h
        · exact .inr h
        · exact .inl h
    · rw [if_neg h]
      simp only [List.map_cons, List.mem_cons, mem_addL (L := L), or_assoc]
theorem nodup_addL {r w : Nat} : ∀ {L : List (Nat × Nat)}, (L.map Prod.fst).Nodup → ((addL L r w).map Prod.fst).Nodup
  | [], _ => by simp [addL]
  | e :: L, h => by
    unfold addL
    rw [List.map_cons, List.nodup_cons] at h
    by_cases he : e.1 = r
    · rw [if_pos he, List.map_cons, List.nodup_cons]
      exact ⟨by show ¬ r ∈ _; rw [← he]; exact h.1, h.2⟩
    · rw [if_neg he, List.map_cons, List.nodup_cons]
      refine ⟨fun hm => ?_, nodup_addL h.2⟩
      rcases mem_addL.1 hm with hm | hm
      · exact h.1 hm
      · exact he hm
end Go.Proofs.Ytobmcofkcfifkaa.T

/- Lists of pairs -/
open Go.Vm
set_option linter.unusedVariables false
namespace Go.Proofs.Ytobmcofkcfifkaa.T
open Go

section
variable {ro : List ABlk} {h H : Heap} {Lb : Nat}
/-- a list of pairs, read -/
def IsP (ro : List ABlk) (H : Heap) (v : AVal) (L : List (Nat × Nat)) : Prop :=
  (v = .nsl ∧ L = []) ∨ ∃ b c blk, v = .sl ⟨false, b, 0⟩ L.length c ∧ lget H b = some (some blk) ∧ 2 * L.length ≤ blk.n ∧ ∀ i, i < L.length → blk.c.get (2 * i) = .i .i64 ((L.getD i (0, 0)).1 : Int) ∧ blk.c.get (2 * i + 1) = .i .i64 ((L.getD i (0, 0)).2 : Int)
/-- a list of pairs, made by append -/
def PV (H : Heap) (Lb : Nat) (v : AVal) (L : List (Nat × Nat)) : Prop :=
  (v = .nsl ∧ L = []) ∨ ∃ b blk, v = .sl ⟨false, b, 0⟩ L.length .grow ∧ 0 < L.length ∧ Lb ≤ b ∧ lget H b = some (some blk) ∧ blk.e = 64 ∧ 2 * L.length ≤ blk.n ∧ ∀ i, i < L.length → blk.c.get (2 * i) = .i .i64 ((L.getD i (0, 0)).1 : Int) ∧ blk.c.get (2 * i + 1) = .i .i64 ((L.getD i (0, 0)).2 : Int)
theorem IsP.by {H' : Heap} {v : AVal} {L : List (Nat × Nat)} (a : IsP ro H v L) (k : Keep H H') : IsP ro H' v L := by
  rcases a with a | ⟨b, c, blk, h1, h4, h5⟩
  · exact .inl a
  · exact .inr ⟨b, c, blk, h1, by rw [lget_of (k.2 b (lget_lt h4))]; exact h4, h5⟩
theorem IsP.len {v : AVal} {L : List (Nat × Nat)} (a : IsP ro H v L) : evP .e (.len false (.c v)) = some (.i .i64 (L.length : Int)) := by
  rcases a with ⟨rfl, rfl⟩ | ⟨b, c, blk, rfl, -⟩
  · rfl
  · simp only [evP, ev_len, opd, cond_false, mkI_eq]
theorem ixS2 {b len i : Nat} {c : Cap} (hi : i < len) : evP .e (.ixS 2 (.c (.sl ⟨false, b, 0⟩ len c)) (.c (.i .i64 (i : Int)))) = some (.p (some ⟨false, b, 0 + i * 2⟩)) := by
  have e : ((i : Int)) = Int.ofNat i := rfl
  have hb : Nat.blt i len = true := by rw [Nat.blt_eq]; exact hi
  rw [e]
  simp only [evP, ev_ixS, opd, atI, hb, cond_true]
/-- an element: its address, its two fields -/
theorem IsP.at {v : AVal} {L : List (Nat × Nat)} (a : IsP ro H v L) {i : Nat} (hi : i < L.length) : ∃ p p0 p1, evP .e (.ixS 2 (.c v) (.c (.i .i64 (i : Int)))) = some p ∧ evP .e (.faddr 0 (.c p)) = some p0 ∧ evP .e (.faddr 1 (.c p)) = some p1 ∧
    (∀ l q, ldM ro ⟨H, l, q⟩ true 1 p0 = some (.i .i64 ((L.getD i (0, 0)).1 : Int))) ∧ (∀ l q, ldM ro ⟨H, l, q⟩ true 1 p1 = some (.i .i64 ((L.getD i (0, 0)).2 : Int))) ∧ ldA ro H true 1 p0 = some (.i .i64 ((L.getD i (0, 0)).1 : Int)) := by
  rcases a with ⟨rfl, rfl⟩ | ⟨b, c, blk, rfl, h1, h2, h3⟩
  · exact absurd hi (Nat.not_lt_zero _)
  · obtain ⟨g1, g2⟩ := h3 i hi
    refine ⟨_, _, _, ixS2 hi, p_faddr .., p_faddr .., fun l q => ?_, fun l q => ?_, ?_⟩
    · rw [ld_heap rfl h1 (by omega), show 0 + i * 2 + 0 = 2 * i by omega, g1]
    · rw [ld_heap rfl h1 (by omega), show 0 + i * 2 + 1 = 2 * i + 1 by omega, g2]
    · rw [lda_heap h1 (by omega), show 0 + i * 2 + 0 = 2 * i by omega, g1]
end
end Go.Proofs.Ytobmcofkcfifkaa.T

/- add -/
open Go.Vm
set_option linter.unusedVariables false
namespace Go.Proofs.Ytobmcofkcfifkaa.T
open Go

section
variable {ro : List ABlk} {h H : Heap} {Lb : Nat}
end
end Go.Proofs.Ytobmcofkcfifkaa.T

/- The lists on the way -/
open Go.Vm
set_option linter.unusedVariables false
namespace Go.Proofs.Ytobmcofkcfifkaa.T
open Go

/-- a list on the way: so many in all, its rests one of three, each once -/
def Good (k z t : Nat) (L : List (Nat × Nat)) : Prop := wt (rep2 k) L = t ∧ (∀ x ∈ L.map Prod.fst, x + 2 ≤ fb (k + 3) ∧ (x = z ∨ x = z + fb (k + 2) ∨ x = z + fb (k + 1))) ∧ (L.map Prod.fst).Nodup
theorem Good.add {k z t x w : Nat} {L : List (Nat × Nat)} (g : Good k z t L) (hx : x + 2 ≤ fb (k + 3) ∧ (x = z ∨ x = z + fb (k + 2) ∨ x = z + fb (k + 1))) : Good k z (t + w * rep2 k x) (addL L x w) :=
  ⟨by rw [wt_add, g.1], fun y hy => by
    rcases mem_addL.1 hy with h | h
    · exact g.2.1 y h
    · rw [h]; exact hx, nodup_addL g.2.2⟩
theorem Good.len {k z t : Nat} {L : List (Nat × Nat)} (g : Good k z t L) : L.length ≤ 3 := by
  have := nodup_len (l' := [z, z + fb (k + 2), z + fb (k + 1)]) g.2.2 fun x hx => by
    have := (g.2.1 x hx).2
    simpa using this
  simpa using this
theorem wt_mem {f : Nat → Nat} : ∀ {L : List (Nat × Nat)} {e : Nat × Nat}, e ∈ L → e.2 * f e.1 ≤ wt f L
  | [], _, h => by simp at h
  | a :: L, e, h => by
    show _ ≤ a.2 * f a.1 + wt f L
    rcases List.mem_cons.1 h with rfl | h
    · omega
    · have := wt_mem (f := f) h; omega
theorem Good.ways {k z t : Nat} {L : List (Nat × Nat)} (g : Good k z t L) {e : Nat × Nat} (he : e ∈ L) : e.2 ≤ t := by
  have h1 := wt_mem (f := rep2 k) he
  have h2 := (g.2.1 e.1 (List.mem_map_of_mem he)).1
  have h3 := rep2_pos k e.1 h2
  have h4 : e.2 * 1 ≤ e.2 * rep2 k e.1 := Nat.mul_le_mul_left _ h3
  rw [g.1] at h1
  omega
theorem Good.at {k z t i : Nat} {L : List (Nat × Nat)} (g : Good k z t L) (hi : i < L.length) : (L.getD i (0, 0)).2 ≤ t := by
  have : L.getD i (0, 0) ∈ L := by simp [List.getD, hi]
  exact g.ways this
def nz (F z : Nat) : Nat := if F ≤ z then z - F else z
/-- one element -/
theorem Good.stq {k z0 t : Nat} {L : List (Nat × Nat)} {e : Nat × Nat} (hz : z0 < fb (k + 3)) (g : Good k (nz (fb (k + 2)) z0) t L) (he : e.1 + 2 ≤ fb (k + 4) ∧ (e.1 = z0 ∨ e.1 = z0 + fb (k + 3) ∨ e.1 = z0 + fb (k + 2))) :
    Good k (nz (fb (k + 2)) z0) (t + e.2 * rep2 (k + 1) e.1) (Go.Proofs.Ytobmcofkcfifkaa.T.stq (fb (k + 3) - 2) (fb (k + 2)) L e) ∧ Good k (nz (fb (k + 2)) z0) (t + e.2 * rep2 k e.1) (if e.1 ≤ fb (k + 3) - 2 then addL L e.1 e.2 else L) := by
  have e3 : fb (k + 3) = fb (k + 1) + fb (k + 2) := rfl
  have e4 : fb (k + 4) = fb (k + 2) + fb (k + 3) := rfl
  have h1 := fb_le (show k + 1 ≤ k + 2 by omega)
  have h2 := fb_pos k
  have h3 := fb_pos (k + 1)
  have hnz : (fb (k + 2) ≤ z0 ∧ nz (fb (k + 2)) z0 = z0 - fb (k + 2)) ∨ (z0 < fb (k + 2) ∧ nz (fb (k + 2)) z0 = z0) := by
    unfold nz
    by_cases h : fb (k + 2) ≤ z0
    · exact .inl ⟨h, if_pos h⟩
    · exact .inr ⟨by omega, if_neg h⟩
  generalize nz (fb (k + 2)) z0 = z at *
  have ga : Good k z (t + e.2 * rep2 k e.1) (if e.1 ≤ fb (k + 3) - 2 then addL L e.1 e.2 else L) := by
    by_cases h : e.1 ≤ fb (k + 3) - 2
    · rw [if_pos h]
      exact g.add ⟨by omega, by omega⟩
    · rw [if_neg h, rep2_big k e.1 (by omega), Nat.mul_zero]
      exact g
  refine ⟨?_, ga⟩
  show Good k z (t + e.2 * (rep2 k e.1 + if fb (k + 2) ≤ e.1 then rep2 k (e.1 - fb (k + 2)) else 0)) (if fb (k + 2) ≤ e.1 ∧ e.1 - fb (k + 2) ≤ fb (k + 3) - 2 then addL (if e.1 ≤ fb (k + 3) - 2 then addL L e.1 e.2 else L) (e.1 - fb (k + 2)) e.2 else (if e.1 ≤ fb (k + 3) - 2 then addL L e.1 e.2 else L))
  rw [Nat.mul_add, ← Nat.add_assoc]
  by_cases h : fb (k + 2) ≤ e.1
  · rw [if_pos h]
    by_cases h4 : e.1 - fb (k + 2) ≤ fb (k + 3) - 2
    · rw [if_pos ⟨h, h4⟩]
      exact ga.add ⟨by omega, by omega⟩
    · rw [if_neg (fun e => h4 e.2), rep2_big k (e.1 - fb (k + 2)) (by omega), Nat.mul_zero]
      exact ga
  · rw [if_neg h, if_neg (fun e => h e.1), Nat.mul_zero]
    exact ga
theorem wt_app (f : Nat → Nat) : ∀ (L M : List (Nat × Nat)), wt f (L ++ M) = wt f L + wt f M
  | [], M => by simp [wt]
  | a :: L, M => by
    show a.2 * f a.1 + wt f (L ++ M) = a.2 * f a.1 + wt f L + wt f M
    rw [wt_app f L M]; omega
theorem take_get {L : List (Nat × Nat)} {j : Nat} (hj : j < L.length) : L.take (j + 1) = L.take j ++ [L.getD j (0, 0)] := by
  rw [List.take_add_one]
  simp [List.getD, hj]
def accL (lim F : Nat) (L : List (Nat × Nat)) (j : Nat) : List (Nat × Nat) := (L.take j).foldl (stq lim F) []
theorem accL_succ {lim F : Nat} {L : List (Nat × Nat)} {j : Nat} (hj : j < L.length) : accL lim F L (j + 1) = stq lim F (accL lim F L j) (L.getD j (0, 0)) := by
  unfold accL
  rw [take_get hj, List.foldl_append]; rfl
theorem Good.acc {k z0 s : Nat} {L : List (Nat × Nat)} (hz : z0 < fb (k + 3)) (g : Good (k + 1) z0 s L) : ∀ j, j ≤ L.length → Good k (nz (fb (k + 2)) z0) (wt (rep2 (k + 1)) (L.take j)) (accL (fb (k + 3) - 2) (fb (k + 2)) L j)
  | 0, _ => ⟨rfl, fun x hx => by simp [accL] at hx, List.nodup_nil⟩
  | j + 1, hj => by
    have ih := Good.acc hz g j (by omega)
    have hm : L.getD j (0, 0) ∈ L := by simp [List.getD, show j < L.length by omega]
    have := (ih.stq (e := L.getD j (0, 0)) hz (g.2.1 _ (List.mem_map_of_mem hm))).1
    rw [accL_succ (by omega), take_get (by omega), wt_app]
    exact this
end Go.Proofs.Ytobmcofkcfifkaa.T

/- One element -/
open Go.Vm
set_option linter.unusedVariables false
namespace Go.Proofs.Ytobmcofkcfifkaa.T
open Go

section
variable {ro : List ABlk} {h H : Heap} {Lb : Nat}
theorem base_eq (m : Mm) : Mm.base m = ⟨m.h, m.h.length, m.h.length⟩ := rfl
theorem join_eq (m n : Mm) : Mm.join m n = ⟨n.h, min m.lw n.lw, min m.lp n.lp⟩ := rfl
theorem PV.by {H' : Heap} {v : AVal} {L : List (Nat × Nat)} (a : PV H Lb v L) (k : H' = H) : PV H' Lb v L := by rw [k]; exact a
end
end Go.Proofs.Ytobmcofkcfifkaa.T

/- The reference's Sums -/
open Go.Vm
set_option linter.unusedVariables false
namespace Go.Proofs.Ytobmcofkcfifkaa.T
open Go

section
variable {ro : List ABlk} {h H : Heap} {Lb : Nat}
end
end Go.Proofs.Ytobmcofkcfifkaa.T

/- Sums and Letter -/
open Go.Vm
set_option linter.unusedVariables false
namespace Go.Proofs.Ytobmcofkcfifkaa.T
open Go

section
variable {ro : List ABlk} {h : Heap}
end
end Go.Proofs.Ytobmcofkcfifkaa.T

/- Digits -/
open Go.Vm
set_option linter.unusedVariables false
namespace Go.Proofs.Ytobmcofkcfifkaa.T
open Go

/- numbers by their digits to the base 10000, the lowest first -/
def nv : List Nat → Nat
  | [] => 0
  | d :: l => d + 10000 * nv l
/-- so many digits stand before the zeros at the end -/
def tn : List Nat → Nat
  | [] => 0
  | d :: l => if tn l = 0 ∧ d = 0 then 0 else tn l + 1
theorem tn_le : ∀ l, tn l ≤ l.length
  | [] => Nat.le_refl _
  | d :: l => by
    have := tn_le l
    show (if tn l = 0 ∧ d = 0 then 0 else tn l + 1) ≤ l.length + 1
    split <;> omega
theorem tn_zero : ∀ (l : List Nat) (i : Nat), tn l ≤ i → l.getD i 0 = 0
  | [], i, _ => by simp [List.getD]
  | d :: l, i, h => by
    have h' : (if tn l = 0 ∧ d = 0 then 0 else tn l + 1) ≤ i := h
    by_cases e : tn l = 0 ∧ d = 0
    · cases i with
      | zero => exact e.2
      | succ i => exact tn_zero l i (by omega)
    · rw [if_neg e] at h'
      cases i with
      | zero => omega
      | succ i => exact tn_zero l i (by omega)
theorem tn_last : ∀ (l : List Nat), 0 < tn l → l.getD (tn l - 1) 0 ≠ 0
  | [], h => absurd h (Nat.lt_irrefl _)
  | d :: l, h => by
    have h' : 0 < (if tn l = 0 ∧ d = 0 then 0 else tn l + 1) := h
    by_cases e : tn l = 0 ∧ d = 0
    · rw [if_pos e] at h'; omega
    · have e2 : tn (d :: l) = tn l + 1 := if_neg e
      rw [e2, Nat.add_sub_cancel]
      by_cases e3 : tn l = 0
      · rw [e3]
        show d ≠ 0
        exact fun h => e ⟨e3, h⟩
      · have := tn_last l (by omega)
        rw [show tn l = tn l - 1 + 1 by omega]
        exact this
theorem nv_take : ∀ l, nv (l.take (tn l)) = nv l
  | [] => rfl
  | d :: l => by
    by_cases e : tn l = 0 ∧ d = 0
    · have e2 : tn (d :: l) = 0 := if_pos e
      have := nv_take l
      rw [e.1] at this
      rw [e2]
      show 0 = d + 10000 * nv l
      have h0 : nv (l.take 0) = 0 := rfl
      omega
    · have e2 : tn (d :: l) = tn l + 1 := if_neg e
      rw [e2]
      show d + 10000 * nv (l.take (tn l)) = d + 10000 * nv l
      rw [nv_take l]
theorem tn_take : ∀ l, tn (l.take (tn l)) = tn l
  | [] => rfl
  | d :: l => by
    by_cases e : tn l = 0 ∧ d = 0
    · have e2 : tn (d :: l) = 0 := if_pos e
      rw [e2]; rfl
    · have e2 : tn (d :: l) = tn l + 1 := if_neg e
      rw [e2]
      show (if tn (l.take (tn l)) = 0 ∧ d = 0 then 0 else tn (l.take (tn l)) + 1) = tn l + 1
      rw [tn_take l, if_neg e]
/-- digits, no zeros at the end -/
def Can (l : List Nat) : Prop := tn l = l.length ∧ ∀ d ∈ l, d < 10000
theorem can_take {l : List Nat} (h : ∀ d ∈ l, d < 10000) : Can (l.take (tn l)) := by
  have := tn_le l
  exact ⟨by rw [tn_take, List.length_take]; omega, fun d hd => h d (List.mem_of_mem_take hd)⟩
theorem nv_lt : ∀ {l : List Nat}, (∀ d ∈ l, d < 10000) → nv l < 10000 ^ l.length
  | [], _ => by decide
  | d :: l, h => by
    have := nv_lt fun x hx => h x (List.mem_cons_of_mem _ hx)
    have hd := h d (by simp)
    show d + 10000 * nv l < 10000 ^ (l.length + 1)
    rw [Nat.pow_succ]; omega
theorem can_tail {d : Nat} {l : List Nat} (h : Can (d :: l)) : Can l := by
  obtain ⟨h1, h2⟩ := h
  have h1' : (if tn l = 0 ∧ d = 0 then 0 else tn l + 1) = l.length + 1 := h1
  refine ⟨?_, fun x hx => h2 x (List.mem_cons_of_mem _ hx)⟩
  by_cases e : tn l = 0 ∧ d = 0
  · rw [if_pos e] at h1'; omega
  · rw [if_neg e] at h1'; omega
theorem can_ge : ∀ {l : List Nat}, Can l → l ≠ [] → 10000 ^ (l.length - 1) ≤ nv l
  | [], _, h => absurd rfl h
  | [d], h, _ => by
    have h1 : (if tn [] = 0 ∧ d = 0 then 0 else tn [] + 1) = 1 := h.1
    have : d ≠ 0 := fun e => by rw [if_pos ⟨rfl, e⟩] at h1; omega
    show 1 ≤ d + 10000 * 0
    omega
  | d :: e :: l, h, _ => by
    have := can_ge (can_tail h) (by simp)
    show 10000 ^ (l.length + 1) ≤ d + 10000 * nv (e :: l)
    have h2 : 10000 ^ l.length ≤ nv (e :: l) := this
    rw [Nat.pow_succ]; omega
section
variable {ro : List ABlk} {h : Heap}
theorem trim92 {v : AVal} {l : List Nat} (a : IsRow ro h v (nts l)) (hl : l.length ≤ 1000) : ∃ w H, callX F1 ro 92 [v] h = some (w, H, h.length, h.length) ∧ Keep h H ∧ IsRow ro H w (nts (l.take (tn l))) := by
  have htn := tn_le l
  have hlen : (l.take (tn l)).length = tn l := by rw [List.length_take]; omega
  have hl1 := loop_run (b := fun s : Int => g92_b0 (meansX F1 ro) ro v ⟨h, h.length, h.length⟩ s) (fun j => ((l.length - j : Nat) : Int)) (l.length - tn l) (r0 := (tn l : Int)) ?_ ?_
  rotate_left
  · rw [show l.length - (l.length - tn l) = tn l by omega]
    rcases Nat.eq_zero_or_pos (tn l) with h0 | h0
    · rw [h0]
      simp only [g92_b0, fB, ltF (show ¬ (0 : Int) < ((0 : Nat) : Int) by omega), cF, oS]
    · have e1 : wr .i64 ((tn l : Int) - 1) = ((tn l - 1 : Nat) : Int) := by rw [wr_id' (by omega) (by omega)]; omega
      obtain ⟨p, f1, f2, -⟩ := at_row (m := ⟨h, h.length, h.length⟩) rfl a (show tn l - 1 < (nts l).length by rw [nts_len]; omega)
      rw [nts_get (by omega)] at f2
      have hne := tn_last l h0
      simp only [g92_b0, fB, ltT (show (0 : Int) < (tn l : Int) by omega), cT, fI', e1, f1, oS, f2, iS, eqI_ne (show ((l.getD (tn l - 1) 0 : Nat) : Int) ≠ 0 by omega), cF]
  · intro j hj
    have e1 : wr .i64 (((l.length - j : Nat) : Int) - 1) = ((l.length - (j + 1) : Nat) : Int) := by rw [wr_id' (by omega) (by omega)]; omega
    obtain ⟨p, f1, f2, -⟩ := at_row (m := ⟨h, h.length, h.length⟩) rfl a (show l.length - (j + 1) < (nts l).length by rw [nts_len]; omega)
    rw [nts_get (by omega), tn_zero l _ (by omega)] at f2
    have e0 : eqI ((0 : Nat) : Int) 0 = true := rfl
    simp only [g92_b0, fB, ltT (show (0 : Int) < ((l.length - j : Nat) : Int) by omega), cT, fI', e1, f1, oS, f2, iS, e0]
  have key := loop_gen (b := fun s : AVal × Int × Mm => g92_b2 (meansX F1 ro) ro v (tn l : Int) s.1 s.2.1 s.2.2) (tn l)
    (fun j s => ∃ w H, s = (w, (j : Int), (⟨H, h.length, h.length⟩ : Mm)) ∧ Keep h H ∧ GV H h.length 3 1 w j ((nts (l.take j)).map (AVal.i .i64)))
    (fun r => ∃ w H, r = (w, (⟨H, h.length, h.length⟩ : Mm)) ∧ Keep h H ∧ IsRow ro H w (nts (l.take (tn l)))) ?_ ?_ (tn l) 0 (AVal.nsl, 0, ⟨h, h.length, h.length⟩) (by omega) ⟨.nsl, h, rfl, Keep.refl h, GV.nil _ _ _ _⟩
  rotate_left
  · rintro j s hj ⟨w, H, rfl, kp, g⟩
    have a' := row_by a kp
    obtain ⟨p, f1, f2, -⟩ := at_row (m := ⟨H, h.length, h.length⟩) rfl a' (show j < (nts l).length by rw [nts_len]; omega)
    rw [nts_get (by omega)] at f2
    obtain ⟨v2, hp2, v3, hp3, s1, s2, g2, k1, k2⟩ := GV.push (ro := ro) (L0 := h.length) (bytes := 8) (z := [AVal.i .i64 0]) (w := .i .i64 ((l.getD j 0 : Nat) : Int)) (ws := [.i .i64 ((l.getD j 0 : Nat) : Int)]) g (Nat.le_refl _) kp.1 (by omega) (by omega) (by omega) rfl rfl rfl rfl rfl
    refine ⟨_, (by simp only [g92_b2, fB, ltT (show (j : Int) < (tn l : Int) by omega), cT, f1, oS, f2, iS, s1, pS, s2, fI', wr_next (show j ≤ 1000000 by omega)]), v3, hp3, rfl, ⟨Nat.le_trans kp.1 k1, fun q hq => by rw [k2 q hq, kp.2 q hq]⟩, ?_⟩
    have e : l.take (j + 1) = l.take j ++ [l.getD j 0] := take_one (by omega)
    rw [e, show nts (l.take j ++ [l.getD j 0]) = nts (l.take j) ++ [((l.getD j 0 : Nat) : Int)] by simp, List.map_append]
    exact g2
  · rintro s ⟨w, H, rfl, kp, g⟩
    refine ⟨(w, ⟨H, h.length, h.length⟩), by simp only [g92_b2, fB, ltF (Int.lt_irrefl _), cF], w, H, rfl, kp, GV.row g (by rw [nts_len, hlen])⟩
  obtain ⟨r, h1, w, H, rfl, kp, hrow⟩ := key
  obtain ⟨H', f1, f2, f3⟩ := fin_rowW (w := w) kp hrow rfl
  refine ⟨w, H', g92_ok (meansX_ok F1 ro) rfl ?_, f2, f3⟩
  unfold g92
  have e0 : ((l.length - 0 : Nat) : Int) = ((nts l).length : Int) := by rw [nts_len]; rfl
  rw [e0] at hl1
  simp only [len_row a, oS, iS, meansX_loop]
  rw [hl1]
  simp only [oS]
  rw [h1]
  simp only [oS, tA]
  exact f1
end
end Go.Proofs.Ytobmcofkcfifkaa.T

/- Big numbers -/
open Go.Vm
set_option linter.unusedVariables false
namespace Go.Proofs.Ytobmcofkcfifkaa.T
open Go

section
variable {ro : List ABlk} {h H : Heap}
/-- a big number -/
def Big (ro : List ABlk) (H : Heap) (u : AVal) (n : Nat) : Prop := ∃ s l, u = .agg [.b false, s] ∧ IsRow ro H s (nts l) ∧ Can l ∧ l.length ≤ 100 ∧ nv l = n
theorem row_one {v : AVal} {z : List Int} (a : IsRow ro H v z) : v.cells = [v] ∧ v.one = true := by
  rcases a with ⟨rfl, -⟩ | ⟨q, c, blk, rfl, -⟩ <;> exact ⟨rfl, rfl⟩
theorem Big.by {H' : Heap} {u : AVal} {n : Nat} (a : Big ro H u n) (k : Keep H H') : Big ro H' u n := by
  obtain ⟨s, l, h1, h2, h3⟩ := a
  exact ⟨s, l, h1, row_by h2 k, h3⟩
theorem fin_big {u : AVal} {n : Nat} (k : Keep h H) (a : Big ro H u n) : ∃ H', finM h.length u ⟨H, h.length, h.length⟩ = some (u, H', h.length, h.length) ∧ Keep h H' ∧ Big ro H' u n := by
  obtain ⟨s, l, rfl, h2, h3⟩ := a
  obtain ⟨H', f1, f2, f3⟩ := fin_rowW (w := .agg [.b false, s]) k h2 (by
    have e : (AVal.agg [.b false, s]).bel h.length = ((AVal.b false).bel h.length && (s.bel h.length && true)) := by simp [AVal.bel, bels]
    rw [e, Bool.and_true]; rfl)
  exact ⟨H', f1, f2, s, l, rfl, f3, h3⟩
/-- the two cells of a big number are written into the block of a result -/
theorem put75 {b : Nat} {vs : List AVal} {s : AVal} {z : List Int} (a : Holds H b vs) (hvs : vs.length = 2) (hL : h.length ≤ b) (kp : Keep h H) (hs : IsRow ro H s z) :
    ∃ H', stepM ro ⟨H, h.length, h.length⟩ (.st 2 (.c (.p (some ⟨false, b, 0⟩))) (.c (.agg [.b false, s]))) = some (und, ⟨H', h.length, h.length⟩) ∧ Holds H' b [.b false, s] ∧ H'.length = H.length ∧ (∀ i, i ≠ b → H'[i]? = H[i]?) ∧ Keep h H' := by
  obtain ⟨h1, h2⟩ := row_one hs
  exact a.st (v := .agg [.b false, s]) rfl rfl (by rw [hvs]; rfl) (by simp only [ones, h2]; rfl) hL kp
theorem fillW {w : AVal} {z : List Int} (hw : IsRow ro H w z) : (fillA [(AVal.b false), AVal.nsl] [((0, 1), (.b false)), ((1, 1), w)]).map AVal.agg = some (.agg [.b false, w]) := by
  rcases hw with ⟨rfl, -⟩ | ⟨q, c, blk, rfl, -⟩ <;> rfl
/-- digits stand in another block than the result -/
theorem row_apart {H' : Heap} {b : Nat} {s t : AVal} {z : List Int} (a : IsRow ro H s z) (hb : Holds H b [.b false, .nsl]) (hb' : Holds H' b [.b false, t]) (hk : ∀ i, i ≠ b → H'[i]? = H[i]?) : IsRow ro H' s z := by
  rcases a with r | ⟨q, c, blk, rfl, g1, g2, g3⟩
  · exact .inl r
  · by_cases hq : q.ro = true
    · refine .inr ⟨q, c, blk, rfl, ?_, g2, g3⟩
      simp only [rdB, hq, cond_true] at g1 ⊢
      exact g1
    · have hqf : q.ro = false := by simpa using hq
      obtain ⟨blk2, e1, e2, e3⟩ := hb
      obtain ⟨blk3, e1', e2', e3'⟩ := hb'
      by_cases hqb : q.b = b
      · have e4 : rdB ro H ⟨false, b, 0⟩ = some blk2 := rdB_heap e1 0
        have e5 : rdB ro H q = some blk2 := by
          simp only [rdB, hqf, cond_false] at e4 ⊢
          rw [hqb]; exact e4
        have e6 : rdB ro H' ⟨false, b, 0⟩ = some blk3 := rdB_heap e1' 0
        have e7 : rdB ro H' q = some blk3 := by
          simp only [rdB, hqf, cond_false] at e6 ⊢
          rw [hqb]; exact e6
        rw [g1] at e5
        have e8 : blk = blk2 := Option.some.inj e5
        subst e8
        have h2 : blk.n = 2 := e2
        have h2' : blk3.n = 2 := e2'
        refine .inr ⟨q, c, blk3, rfl, e7, by omega, fun j hj => ?_⟩
        exfalso
        have h0 := g3 0 (by omega)
        rw [Nat.add_zero] at h0
        have h1 : q.off = 0 ∨ q.off = 1 := by omega
        rcases h1 with h1 | h1
        · have := e3 0 (by decide)
          rw [h1, this] at h0
          cases h0
        · have := e3 1 (by decide)
          rw [h1, this] at h0
          cases h0
      · refine .inr ⟨q, c, blk, rfl, ?_, g2, g3⟩
        simp only [rdB, hqf, cond_false] at g1 ⊢
        rw [lget_of (hk _ hqb)]; exact g1
theorem whole87 {v : AVal} {l : List Nat} (a : IsRow ro h v (nts l)) (hd : ∀ d ∈ l, d < 10000) (hl : l.length ≤ 100) : ∃ u H, callX F1 ro 87 [.b false, v] h = some (u, H, h.length, h.length) ∧ Keep h H ∧ Big ro H u (nv l) := by
  obtain ⟨H0, hH0⟩ : ∃ H0, H0 = h ++ [some (blkOf 75 [.b false, .nsl])] := ⟨_, rfl⟩
  have k0 : Keep h H0 := by rw [hH0]; exact Keep.app _
  have ho : Holds H0 h.length [.b false, .nsl] := by rw [hH0]; exact Holds.new _ _ _
  obtain ⟨w, H1, c1, k1, r1⟩ := trim92 (ro := ro) (row_by a k0) (by omega)
  have kp := k0.trans k1
  obtain ⟨H2, s1, s2, s3, s4, s5⟩ := put75 (ro := ro) (h := h) (ho.by k1) rfl (Nat.le_refl _) kp r1
  have hne : H0.length = h.length + 1 := by rw [hH0]; simp
  have hrow : IsRow ro H2 w (nts (l.take (tn l))) := row_apart r1 (ho.by k1) s2 s4
  obtain ⟨H3, f1, f2, f3⟩ := fin_big (ro := ro) (u := .agg [.b false, w]) (n := nv l) s5 ⟨w, _, rfl, hrow, can_take hd, by rw [List.length_take]; omega, nv_take l⟩
  refine ⟨_, H3, g87_ok (meansX_ok F1 ro) rfl ?_, f2, f3⟩
  unfold g87
  have e1 : stepM ro ⟨h, h.length, h.length⟩ (.al 75 [(AVal.b false), AVal.nsl]) = some (.p (some ⟨false, h.length, 0⟩), ⟨H0, h.length, h.length⟩) := by rw [hH0]; exact al_ok ..
  have e2 := callM_eq (m := (⟨H0, h.length, h.length⟩ : Mm)) c1
  rw [show min h.length H0.length = h.length by omega] at e2
  simp only [e1, pS, mC, e2, cF, oS, fillW r1, s1, s2.all (ro := ro) (l := h.length) (p := h.length) (n := 2) rfl, tA]
  exact f1
end
end Go.Proofs.Ytobmcofkcfifkaa.T

/- Of -/
open Go.Vm
set_option linter.unusedVariables false
namespace Go.Proofs.Ytobmcofkcfifkaa.T
open Go

theorem nv_app : ∀ (l : List Nat) (d : Nat), nv (l ++ [d]) = nv l + 10000 ^ l.length * d
  | [], d => by show d + 10000 * 0 = 0 + 1 * d; omega
  | x :: l, d => by
    show x + 10000 * nv (l ++ [d]) = x + 10000 * nv l + 10000 ^ (l.length + 1) * d
    rw [nv_app l d, Nat.pow_succ, Nat.mul_add, Nat.mul_comm (10000 ^ l.length) 10000, Nat.mul_assoc]; omega
section
variable {ro : List ABlk} {h H : Heap}
/-- a number as a big one -/
theorem of81 {x : Nat} (hx : x ≤ 9223372036854775807) : ∃ u H, callX F1 ro 81 [.i .i64 (x : Int)] h = some (u, H, h.length, h.length) ∧ Keep h H ∧ Big ro H u x := by
  obtain ⟨H0, hH0⟩ : ∃ H0, H0 = h ++ [some (blkOf 75 [.b false, .nsl])] := ⟨_, rfl⟩
  have k0 : Keep h H0 := by rw [hH0]; exact Keep.app _
  have ho : Holds H0 h.length [.b false, .nsl] := by rw [hH0]; exact Holds.new _ _ _
  have key := loop_exit (b := fun s : Int × AVal × Mm => g81_b0 (meansX F1 ro) ro (.p (some ⟨false, h.length, 0⟩)) false s.1 s.2.1 s.2.2) 5
    (fun j s => ∃ (y : Nat) (w : AVal) (H : Heap) (l : List Nat), s = ((y : Int), w, (⟨H, h.length, h.length⟩ : Mm)) ∧ Keep H0 H ∧ GV H H0.length 3 1 w j ((nts l).map (AVal.i .i64)) ∧ l.length = j ∧ (∀ d ∈ l, d < 10000) ∧ nv l + 10000 ^ j * y = x)
    (fun r => ∃ (w : AVal) (H : Heap) (l : List Nat), r = (w, (⟨H, h.length, h.length⟩ : Mm)) ∧ Keep H0 H ∧ IsRow ro H w (nts l) ∧ l.length ≤ 5 ∧ (∀ d ∈ l, d < 10000) ∧ nv l = x) ?_ ?_ 5 0 ((x : Int), AVal.nsl, ⟨H0, h.length, h.length⟩) (by omega) ⟨x, .nsl, H0, [], rfl, Keep.refl _, GV.nil _ _ _ _, rfl, by simp, by show 0 + 1 * x = x; omega⟩
  rotate_left
  · rintro j s hj ⟨y, w, H, l, rfl, kp, g, hl, hd, hv⟩
    rcases Nat.eq_zero_or_pos y with rfl | hy
    · refine .inr ⟨(w, ⟨H, h.length, h.length⟩), ?_, w, H, l, rfl, kp, GV.row g (by rw [nts_len]; exact hl), by omega, hd, by simpa using hv⟩
      have e0 : eqI ((0 : Nat) : Int) 0 = true := rfl
      simp only [g81_b0, fB, e0, nT, cF]
    · refine .inl ?_
      have hyx : y ≤ x := by
        have h1 : 1 * y ≤ 10000 ^ j * y := Nat.mul_le_mul_right _ (Nat.one_le_pow _ _ (by omega))
        omega
      have e1 : Int.tmod (y : Int) 10000 = ((y % 10000 : Nat) : Int) := rfl
      have e2 : wr .i64 (Int.tdiv (y : Int) 10000) = ((y / 10000 : Nat) : Int) := by rw [show Int.tdiv (y : Int) 10000 = ((y / 10000 : Nat) : Int) from tdiv_nat y 10000]; exact lt64 (by omega)
      obtain ⟨v2, hp2, v3, hp3, s1, s2, g2, k1, k2⟩ := GV.push (ro := ro) (L0 := h.length) (bytes := 8) (z := [AVal.i .i64 0]) (w := .i .i64 ((y % 10000 : Nat) : Int)) (ws := [.i .i64 ((y % 10000 : Nat) : Int)]) g k0.1 kp.1 (by omega) (by omega) (by omega) rfl rfl rfl rfl rfl
      refine ⟨_, (by simp only [g81_b0, fB, eqI_ne (show (y : Int) ≠ 0 by omega), nF, cT, fI', e1, ltF (show ¬ ((y % 10000 : Nat) : Int) < 0 by omega), cF, oS, s1, pS, s2, e2]), y / 10000, v3, hp3, l ++ [y % 10000], rfl, ⟨Nat.le_trans kp.1 k1, fun q hq => by rw [k2 q hq, kp.2 q hq]⟩, ?_, by simp [hl], fun d hd2 => ?_, ?_⟩
      · rw [show nts (l ++ [y % 10000]) = nts l ++ [((y % 10000 : Nat) : Int)] by simp, List.map_append]
        exact g2
      · rcases List.mem_append.1 hd2 with h2 | h2
        · exact hd d h2
        · simp only [List.mem_singleton] at h2
          rw [h2]; exact Nat.mod_lt _ (by omega)
      · rw [nv_app, hl, Nat.pow_succ, Nat.add_assoc, Nat.mul_assoc, ← Nat.mul_add, Nat.mod_add_div]
        exact hv
  · rintro s ⟨y, w, H, l, rfl, kp, g, hl, hd, hv⟩
    have hy0 : y = 0 := by
      have e : (10000 : Nat) ^ 5 = 100000000000000000000 := by decide
      rw [e] at hv
      omega
    subst hy0
    refine ⟨(w, ⟨H, h.length, h.length⟩), ?_, w, H, l, rfl, kp, GV.row g (by rw [nts_len]; exact hl), by omega, hd, by simpa using hv⟩
    have e0 : eqI ((0 : Nat) : Int) 0 = true := rfl
    simp only [g81_b0, fB, e0, nT, cF]
  obtain ⟨r, h1, w, H, l, rfl, kp, hrow, hl, hd, hv⟩ := key
  obtain ⟨u, H1, c1, k1, b1⟩ := whole87 (ro := ro) hrow hd (by omega)
  obtain ⟨s, m, rfl, b2, b3, b4, b5⟩ := b1
  have hO := (ho.by kp).by k1
  obtain ⟨H2, s1, s2, s3, s4, s5⟩ := put75 (ro := ro) (h := h) hO rfl (Nat.le_refl _) ((k0.trans kp).trans k1) b2
  have hrow2 := row_apart b2 hO s2 s4
  obtain ⟨H3, f1, f2, f3⟩ := fin_big (ro := ro) (u := .agg [.b false, s]) (n := x) s5 ⟨s, m, rfl, hrow2, b3, b4, by rw [b5, hv]⟩
  refine ⟨_, H3, g81_ok (meansX_ok F1 ro) rfl ?_, f2, f3⟩
  unfold g81
  have e1 : stepM ro ⟨h, h.length, h.length⟩ (.al 75 [(AVal.b false), AVal.nsl]) = some (.p (some ⟨false, h.length, 0⟩), ⟨H0, h.length, h.length⟩) := by rw [hH0]; exact al_ok ..
  have e2 := callM_eq (m := (⟨H, h.length, h.length⟩ : Mm)) c1
  have hHl := (k0.trans kp).1
  rw [show min h.length H.length = h.length by omega] at e2
  simp only [e1, pS, ltF (show ¬ (x : Int) < 0 by omega), fB, meansX_loop]
  rw [h1]
  simp only [oS, mC, e2, pS, s1, s2.all (ro := ro) (l := h.length) (p := h.length) (n := 2) rfl, tA]
  exact f1
end
end Go.Proofs.Ytobmcofkcfifkaa.T

/- Product -/
open Go.Vm
set_option linter.unusedVariables false
namespace Go.Proofs.Ytobmcofkcfifkaa.T
open Go

theorem nv_set : ∀ (C : List Nat) (k d : Nat), k < C.length → nv (C.set k d) + C.getD k 0 * 10000 ^ k = nv C + d * 10000 ^ k
  | [], k, d, h => absurd h (Nat.not_lt_zero _)
  | x :: C, 0, d, _ => by
    show d + 10000 * nv C + x * 1 = x + 10000 * nv C + d * 1
    omega
  | x :: C, k + 1, d, h => by
    have ih := nv_set C k d (by simpa using h)
    show x + 10000 * nv (C.set k d) + C.getD k 0 * 10000 ^ (k + 1) = x + 10000 * nv C + d * 10000 ^ (k + 1)
    have e : ∀ a : Nat, a * 10000 ^ (k + 1) = 10000 * (a * 10000 ^ k) := fun a => by rw [Nat.pow_succ, Nat.mul_comm 10000, Nat.mul_assoc]
    rw [e, e]
    omega
theorem nv_take1 {l : List Nat} {j : Nat} (hj : j < l.length) : nv (l.take (j + 1)) = nv (l.take j) + 10000 ^ j * l.getD j 0 := by
  rw [take_one hj, nv_app, List.length_take, Nat.min_eq_left (by omega)]
theorem set_dig {C : List Nat} {k d : Nat} (h : ∀ x ∈ C, x < 10000) (hd : d < 10000) : ∀ x ∈ C.set k d, x < 10000 := fun x hx => by
  rcases List.mem_or_eq_of_mem_set hx with h1 | h1
  · exact h x h1
  · rw [h1]; exact hd
theorem getD_dig {C : List Nat} (h : ∀ x ∈ C, x < 10000) (k : Nat) : C.getD k 0 < 10000 := by
  rcases Nat.lt_or_ge k C.length with hk | hk
  · have : C.getD k 0 = C[k] := by simp [List.getD, hk]
    rw [this]; exact h _ (List.getElem_mem hk)
  · have : C.getD k 0 = 0 := by simp [List.getD, List.getElem?_eq_none hk]
    omega
theorem set_at {C : List Nat} {k d j : Nat} (hk : k < C.length) : (C.set k d).getD j 0 = if j = k then d else C.getD j 0 := by
  by_cases e : j = k
  · subst e; simp [List.getD, hk]
  · rw [if_neg e]; simp [List.getD, List.getElem?_set_ne (Ne.symm e)]
section
variable {ro : List ABlk} {h H : Heap}
/-- the product so far, in the block that was made for it -/
def Arr (h : Heap) (y : Option ABlk) (C : List Nat) : Prop := Vec (h ++ [y]) 3 h.length C.length (fun j => .i .i64 ((C.getD j 0 : Nat) : Int))
theorem Arr.st {y : Option ABlk} {C : List Nat} (a : Arr h y C) {k : Nat} (hk : k < C.length) (d : Nat) : ∃ y2, stepM ro ⟨h ++ [y], h.length, h.length⟩ (.st 1 (.c (.p (some ⟨false, h.length, 0 + k⟩))) (.c (.i .i64 (d : Int)))) = some (und, ⟨h ++ [y2], h.length, h.length⟩) ∧ Arr h y2 (C.set k d) := by
  obtain ⟨y2, s1, s2⟩ := Vec.set (ro := ro) (l := h.length) (p := h.length) a hk (v := .i .i64 (d : Int)) rfl rfl rfl
  rw [set_end, Nat.min_self] at s1
  rw [set_end] at s2
  refine ⟨y2, s1, ?_⟩
  unfold Arr
  rw [List.length_set]
  refine s2.congr fun r hr => ?_
  rw [set_at hk]
  split <;> rfl
theorem Arr.row {y : Option ABlk} {C : List Nat} (a : Arr h y C) {n : Nat} (hn : n = C.length) : IsRow ro (h ++ [y]) (.sl ⟨false, h.length, 0⟩ n (.known n)) (nts C) := by
  subst hn
  obtain ⟨blk, h1, h2, h3, h4⟩ := a
  refine .inr ⟨_, _, blk, by rw [nts_len], rdB_heap h1 0, by rw [nts_len]; show 0 + C.length ≤ blk.n; omega, fun j hj => ?_⟩
  rw [nts_len] at hj
  show blk.c.get (0 + j) = _
  rw [Nat.zero_add, h4 j hj, nts_get hj]
theorem mul89 {va vb : AVal} {la lb : List Nat} (a : IsRow ro h va (nts la)) (b : IsRow ro h vb (nts lb)) (da : ∀ d ∈ la, d < 10000) (db : ∀ d ∈ lb, d < 10000) (hla : la.length ≤ 40) (hlb : lb.length ≤ 40) :
    ∃ w H l, callX F1 ro 89 [va, vb] h = some (w, H, h.length, h.length) ∧ Keep h H ∧ IsRow ro H w (nts l) ∧ (∀ d ∈ l, d < 10000) ∧ l.length ≤ 80 ∧ nv l = nv la * nv lb := by
  obtain ⟨n, hn⟩ : ∃ n, n = la.length + lb.length := ⟨_, rfl⟩
  have key := loop_gen (b := fun s : Int × Mm => g89_b0 (meansX F1 ro) ro va vb (.sl ⟨false, h.length, 0⟩ n (.known n)) s.1 s.2) la.length
    (fun i s => ∃ y C, s = ((i : Int), (⟨h ++ [y], h.length, h.length⟩ : Mm)) ∧ Arr h y C ∧ C.length = n ∧ (∀ d ∈ C, d < 10000) ∧ (∀ k, i + lb.length ≤ k → C.getD k 0 = 0) ∧ nv C = nv (la.take i) * nv lb)
    (fun r => ∃ y C, r = (⟨h ++ [y], h.length, h.length⟩ : Mm) ∧ Arr h y C ∧ C.length = n ∧ (∀ d ∈ C, d < 10000) ∧ nv C = nv la * nv lb) ?_ ?_ la.length 0 (0, ⟨h ++ [some (newBlk 3 (.i .i64 0) n)], h.length, h.length⟩) (by omega) ⟨_, List.replicate n 0, rfl, ?_, by simp, fun d hd => by rw [List.eq_of_mem_replicate hd]; omega, fun k _ => by simp [List.getD, List.getElem?_replicate]; split <;> rfl, ?_⟩
  rotate_left
  · rintro i s hi ⟨y, C, rfl, hA, hC, dC, hz, hv⟩
    have inner := loop_gen (b := fun s : Int × Int × Mm => g89_b1 (meansX F1 ro) ro va vb (.sl ⟨false, h.length, 0⟩ n (.known n)) (i : Int) s.1 s.2.1 s.2.2) lb.length
      (fun j s => ∃ (c : Nat) (y2 : Option ABlk) (C2 : List Nat), s = ((c : Int), (j : Int), (⟨h ++ [y2], h.length, h.length⟩ : Mm)) ∧ Arr h y2 C2 ∧ C2.length = n ∧ (∀ d ∈ C2, d < 10000) ∧ (∀ k, i + lb.length ≤ k → C2.getD k 0 = 0) ∧ c < 10000 ∧ nv C2 + c * 10000 ^ (i + j) = nv C + la.getD i 0 * 10000 ^ i * nv (lb.take j))
      (fun r => ∃ (c : Nat) (y2 : Option ABlk) (C2 : List Nat), r = ((c : Int), (⟨h ++ [y2], h.length, h.length⟩ : Mm)) ∧ Arr h y2 C2 ∧ C2.length = n ∧ (∀ d ∈ C2, d < 10000) ∧ (∀ k, i + lb.length ≤ k → C2.getD k 0 = 0) ∧ c < 10000 ∧ nv C2 + c * 10000 ^ (i + lb.length) = nv C + la.getD i 0 * 10000 ^ i * nv lb) ?_ ?_ lb.length 0 (0, 0, ⟨h ++ [y], h.length, h.length⟩) (by omega) ⟨0, y, C, rfl, hA, hC, dC, hz, by omega, by show nv C + 0 * _ = nv C + _ * 0; omega⟩
    rotate_left
    · rintro j s hj ⟨c, y2, C2, rfl, hA2, hC2, dC2, hz2, hc, hv2⟩
      have a2 := a.ext [y2]
      have b2 := b.ext [y2]
      obtain ⟨p, f1, f2, f3⟩ := at_row (m := ⟨h ++ [y2], h.length, h.length⟩) rfl a2 (show i < (nts la).length by rw [nts_len]; omega)
      obtain ⟨q, g1, g2, g3⟩ := at_row (m := ⟨h ++ [y2], h.length, h.length⟩) rfl b2 (show j < (nts lb).length by rw [nts_len]; omega)
      rw [nts_get (by omega)] at f3 g3
      have hk : i + j < C2.length := by omega
      have e1 : wr .i64 ((i : Int) + (j : Int)) = ((i + j : Nat) : Int) := by rw [wr_id' (by omega) (by omega)]; omega
      have ix : evP .e (.ixS 1 (.c (.sl ⟨false, h.length, 0⟩ n (.known n))) (.c (.i .i64 ((i + j : Nat) : Int)))) = some (.p (some ⟨false, h.length, 0 + (i + j)⟩)) := ixS_eq (by omega)
      have ld := Vec.lda (ro := ro) hA2 hk
      have d1 := getD_dig da i
      have d2 := getD_dig db j
      have d3 := getD_dig dC2 (i + j)
      obtain ⟨pr, hpr⟩ : ∃ pr, pr = la.getD i 0 * lb.getD j 0 := ⟨_, rfl⟩
      have hprb : pr ≤ 9999 * 9999 := by rw [hpr]; exact Nat.mul_le_mul (by omega) (by omega)
      have e2 : wr .i64 (((la.getD i 0 : Nat) : Int) * ((lb.getD j 0 : Nat) : Int)) = (pr : Int) := by rw [← Int.natCast_mul, ← hpr, lt64 (by omega)]
      have e3 : wr .i64 (((C2.getD (i + j) 0 : Nat) : Int) + (pr : Int)) = ((C2.getD (i + j) 0 + pr : Nat) : Int) := by rw [← Int.natCast_add, lt64 (by omega)]
      have e4 : wr .i64 (((C2.getD (i + j) 0 + pr : Nat) : Int) + (c : Int)) = ((C2.getD (i + j) 0 + pr + c : Nat) : Int) := by rw [← Int.natCast_add, lt64 (by omega)]
      obtain ⟨t, ht⟩ : ∃ t, t = C2.getD (i + j) 0 + pr + c := ⟨_, rfl⟩
      rw [← ht] at e4
      have e5 : Int.tmod (t : Int) 10000 = ((t % 10000 : Nat) : Int) := rfl
      have e6 : wr .i64 (Int.tdiv (t : Int) 10000) = ((t / 10000 : Nat) : Int) := by rw [show Int.tdiv (t : Int) 10000 = ((t / 10000 : Nat) : Int) from tdiv_nat t 10000]; exact lt64 (by omega)
      obtain ⟨y3, s1, s2⟩ := hA2.st (ro := ro) hk (t % 10000)
      refine ⟨_, (by simp only [g89_b1, len_row b2, nts_len, oS, iS, fB, ltT (show (j : Int) < (lb.length : Int) by omega), cT, fI', e1, ix, ld, f1, f3, g1, g3, e2, e3, e4, e5, s1, pS, e6, wr_next (show j ≤ 1000000 by omega)]), t / 10000, y3, C2.set (i + j) (t % 10000), rfl, s2, by rw [List.length_set]; exact hC2, set_dig dC2 (Nat.mod_lt _ (by omega)), fun k hk2 => by rw [set_at hk, if_neg (by omega)]; exact hz2 k hk2, by omega, ?_⟩
      have h1 := nv_set C2 (i + j) (t % 10000) hk
      have h2 : t % 10000 + 10000 * (t / 10000) = t := Nat.mod_add_div t 10000
      rw [nv_take1 hj]
      have h3 : 10000 ^ (i + (j + 1)) = 10000 * 10000 ^ (i + j) := by rw [← Nat.add_assoc, Nat.pow_succ, Nat.mul_comm]
      have h4 : la.getD i 0 * 10000 ^ i * (nv (lb.take j) + 10000 ^ j * lb.getD j 0) = la.getD i 0 * 10000 ^ i * nv (lb.take j) + pr * 10000 ^ (i + j) := by
        rw [Nat.mul_add, hpr, Nat.pow_add]
        congr 1
        rw [Nat.mul_assoc, Nat.mul_assoc]
        congr 1
        rw [← Nat.mul_assoc, Nat.mul_comm]
      rw [h3, h4]
      generalize 10000 ^ (i + j) = B at *
      have h5 : t / 10000 * (10000 * B) = (10000 * (t / 10000)) * B := by rw [← Nat.mul_assoc, Nat.mul_comm (t / 10000)]
      have h6 : (t % 10000) * B + (10000 * (t / 10000)) * B = t * B := by rw [← Nat.add_mul, h2]
      have h7 : t * B = C2.getD (i + j) 0 * B + pr * B + c * B := by rw [ht, Nat.add_mul, Nat.add_mul]
      rw [h5]
      omega
    · rintro s ⟨c, y2, C2, rfl, rest⟩
      rw [List.take_length] at rest
      refine ⟨_, by simp only [g89_b1, len_row (b.ext [y2]), nts_len, oS, iS, fB, ltF (Int.lt_irrefl _), cF], c, y2, C2, rfl, rest⟩
    obtain ⟨r, l1, c, y2, C2, rfl, hA2, hC2, dC2, hz2, hc, hv2⟩ := inner
    have hk : i + lb.length < C2.length := by omega
    have e1 : wr .i64 ((i : Int) + (lb.length : Int)) = ((i + lb.length : Nat) : Int) := by rw [wr_id' (by omega) (by omega)]; omega
    have ix : evP .e (.ixS 1 (.c (.sl ⟨false, h.length, 0⟩ n (.known n))) (.c (.i .i64 ((i + lb.length : Nat) : Int)))) = some (.p (some ⟨false, h.length, 0 + (i + lb.length)⟩)) := ixS_eq (by omega)
    obtain ⟨y3, s1, s2⟩ := hA2.st (ro := ro) hk c
    refine ⟨_, ?_, y3, C2.set (i + lb.length) c, rfl, s2, by rw [List.length_set]; exact hC2, set_dig dC2 hc, fun k hk2 => by rw [set_at hk, if_neg (by omega)]; exact hz2 k (by omega), ?_⟩
    · simp only [g89_b0, len_row (a.ext [y]), len_row (b.ext [y2]), nts_len, oS, iS, fB, ltT (show (i : Int) < (la.length : Int) by omega), cT, meansX_loop, l1, fI', e1, ix, s1, pS, wr_next (show i ≤ 1000000 by omega)]
    · have h1 := nv_set C2 (i + lb.length) c hk
      rw [hz2 _ (Nat.le_refl _)] at h1
      rw [nv_take1 hi, Nat.add_mul, ← hv, Nat.mul_comm (10000 ^ i)]
      omega
  · rintro s ⟨y, C, rfl, hA, hC, dC, hz, hv⟩
    rw [List.take_length] at hv
    refine ⟨_, by simp only [g89_b0, len_row (a.ext [y]), nts_len, oS, iS, fB, ltF (Int.lt_irrefl _), cF], y, C, rfl, hA, hC, dC, hv⟩
  · unfold Arr
    rw [List.length_replicate]
    exact (Vec.new h 3 n (.i .i64 0)).congr fun r hr => by simp [List.getD, List.getElem?_replicate, hr]
  · have : ∀ n, nv (List.replicate n 0) = 0 := fun n => by
      induction n with
      | zero => rfl
      | succ n ih => rw [List.replicate_succ]; show 0 + 10000 * nv (List.replicate n 0) = 0; rw [ih]
    rw [this]
    show 0 = nv [] * _
    have e : nv [] = 0 := rfl
    rw [e, Nat.zero_mul]
  obtain ⟨r, l1, y, C, rfl, hA, hC, dC, hv⟩ := key
  obtain ⟨w, H1, c1, k1, r1⟩ := trim92 (ro := ro) (hA.row (ro := ro) hC.symm) (by omega)
  have kp : Keep h H1 := (Keep.app _).trans k1
  obtain ⟨H2, f1, f2, f3⟩ := fin_rowW (w := w) kp r1 rfl
  refine ⟨w, H2, _, g89_ok (meansX_ok F1 ro) rfl ?_, f2, f3, fun d hd => dC d (List.mem_of_mem_take hd), by rw [List.length_take]; omega, by rw [nv_take, hv]⟩
  unfold g89
  have e1 : wr .i64 ((la.length : Int) + (lb.length : Int)) = (n : Int) := by rw [wr_id' (by omega) (by omega)]; omega
  have e2 := mk_ok (ro := ro) (hp := h) (l := h.length) (p := h.length) (e := 3) (es := 1) (bytes := 8) (v := .i .i64 0) (n := n) (by omega) (by omega)
  have e3 := callM_eq (m := (⟨h ++ [y], h.length, h.length⟩ : Mm)) c1
  rw [show min h.length (h ++ [y]).length = h.length by simp] at e3
  simp only [len_row a, len_row b, nts_len, oS, iS, fI', e1, e2, pS, meansX_loop, l1, mC, e3, tA]
  exact f1
end
end Go.Proofs.Ytobmcofkcfifkaa.T

/- Times -/
open Go.Vm
set_option linter.unusedVariables false
namespace Go.Proofs.Ytobmcofkcfifkaa.T
open Go

section
variable {ro : List ABlk} {h H : Heap}
theorem put75G {b l p : Nat} {s : AVal} {z : List Int} (a : Holds H b [.b false, .nsl]) (hs : IsRow ro H s z) :
    ∃ H' p', stepM ro ⟨H, l, p⟩ (.st 2 (.c (.p (some ⟨false, b, 0⟩))) (.c (.agg [.b false, s]))) = some (und, ⟨H', min l b, p'⟩) ∧ (p' = p ∨ p' = min p b) ∧ Holds H' b [.b false, s] ∧ H'.length = H.length ∧ (∀ i, i ≠ b → H'[i]? = H[i]?) := by
  obtain ⟨h1, h2⟩ := row_one hs
  obtain ⟨blk, g1, g2, g3⟩ := a
  have g2' : blk.n = 2 := g2
  have ho : ones [AVal.b false, s] = true := by simp only [ones, h2]; rfl
  have hw := wrH_all g1 (vs := [AVal.b false, s]) (by show 2 ≤ blk.n; omega) ho
  refine ⟨H.set b (some { blk with c := blk.c.splice 0 [AVal.b false, s] }), cond (nonp [AVal.b false, s]) p (min p b), ?_, by cases nonp [AVal.b false, s]; exact .inr rfl; exact .inl rfl, ⟨_, lget_set g1 _, g2, fun j hj => ?_⟩, by simp, fun i hi => List.getElem?_set_ne (Ne.symm hi)⟩
  · have hbq : Nat.beq (AVal.agg [AVal.b false, s]).cells.length 2 = true := rfl
    have hw' : wrH H ⟨false, b, 0⟩ (AVal.agg [AVal.b false, s]).cells = _ := hw
    have hc : (AVal.agg [AVal.b false, s]).cells = [AVal.b false, s] := rfl
    have hbq' : Nat.beq [AVal.b false, s].length 2 = true := rfl
    simp only [stepM, stepK, opd, st_st, hc, hbq', cond_true, hw, St.mm]
  · show (blk.c.splice 0 [AVal.b false, s]).get j = _
    have hj' : j < 2 := hj
    rw [spliceGet, if_pos (by show 0 ≤ j ∧ j < 0 + 2; omega)]; simp
/-- the three blocks of a function of two big numbers -/
theorem three75 (s0 s1 : AVal) : ∃ H3, H3 = h ++ [some (blkOf 75 [.b false, s0])] ++ [some (blkOf 75 [.b false, s1])] ++ [some (blkOf 75 [.b false, .nsl])] ∧ H3.length = h.length + 3 ∧ Keep h H3 ∧ Holds H3 h.length [.b false, s0] ∧ Holds H3 (h.length + 1) [.b false, s1] ∧ Holds H3 (h.length + 2) [.b false, .nsl] ∧
    ∀ l p, stepM ro ⟨h, l, p⟩ (.bx 75 2 (.c (.agg [.b false, s0]))) = some (.p (some ⟨false, h.length, 0⟩), ⟨h ++ [some (blkOf 75 [.b false, s0])], l, p⟩) ∧
      stepM ro ⟨h ++ [some (blkOf 75 [.b false, s0])], l, p⟩ (.bx 75 2 (.c (.agg [.b false, s1]))) = some (.p (some ⟨false, h.length + 1, 0⟩), ⟨h ++ [some (blkOf 75 [.b false, s0])] ++ [some (blkOf 75 [.b false, s1])], l, p⟩) ∧
      stepM ro ⟨h ++ [some (blkOf 75 [.b false, s0])] ++ [some (blkOf 75 [.b false, s1])], l, p⟩ (.al 75 [(AVal.b false), AVal.nsl]) = some (.p (some ⟨false, h.length + 2, 0⟩), ⟨H3, l, p⟩) := by
  have e1 : (h ++ [some (blkOf 75 [.b false, s0])]).length = h.length + 1 := by simp
  have e2 : (h ++ [some (blkOf 75 [.b false, s0])] ++ [some (blkOf 75 [.b false, s1])]).length = h.length + 2 := by simp
  refine ⟨_, rfl, by simp, ?_, ?_, ?_, ?_, fun l p => ⟨bx_ok 75 rfl, ?_, ?_⟩⟩
  · rw [List.append_assoc, List.append_assoc]; exact Keep.app _
  · exact ((Holds.new h 75 [.b false, s0]).ext _).ext _
  · have := (Holds.new (h ++ [some (blkOf 75 [.b false, s0])]) 75 [.b false, s1]).ext [some (blkOf 75 [.b false, .nsl])]
    rw [e1] at this; exact this
  · have := Holds.new (h ++ [some (blkOf 75 [.b false, s0])] ++ [some (blkOf 75 [.b false, s1])]) 75 [.b false, .nsl]
    rw [e2] at this; exact this
  · have := bx_ok (ro := ro) (hp := h ++ [some (blkOf 75 [.b false, s0])]) (l := l) (p := p) (n := 2) 75 (vs := [.b false, s1]) rfl
    rw [e1] at this; exact this
  · have := al_ok (ro := ro) (hp := h ++ [some (blkOf 75 [.b false, s0])] ++ [some (blkOf 75 [.b false, s1])]) (l := l) (p := p) 75 [.b false, .nsl]
    rw [e2] at this; exact this
theorem blt_self (n : Nat) : (!Nat.blt n n) = true := by
  have : Nat.blt n n = false := by rw [← Bool.not_eq_true, Nat.blt_eq]; omega
  rw [this]; rfl
/-- the last steps of such a function: digits are made a big number, which is written and handed over -/
theorem end75 {H3 H4 : Heap} {w : AVal} {l : List Nat} {n : Nat} (h3 : H3.length = h.length + 3) (k3 : Keep h H3) (o3 : Holds H3 (h.length + 2) [.b false, .nsl]) (k4 : Keep H3 H4) (a : IsRow ro H4 w (nts l)) (hd : ∀ d ∈ l, d < 10000) (hl : l.length ≤ 100) (hv : nv l = n) :
    ∃ u H5 H6 p6 H7, callM (callX F1 ro) ⟨H4, H3.length, H3.length⟩ 87 [.b false, w] = some (u, ⟨H5, H3.length, H3.length⟩) ∧ stepM ro ⟨H5, H3.length, H3.length⟩ (.st 2 (.c (.p (some ⟨false, h.length + 2, 0⟩))) (.c u)) = some (und, ⟨H6, h.length + 2, p6⟩) ∧ min h.length p6 = h.length ∧
      (∀ l p, ldM ro ⟨H6, l, p⟩ false 2 (.p (some ⟨false, h.length + 2, 0⟩)) = some u) ∧ finM h.length u ⟨H6, h.length, h.length⟩ = some (u, H7, h.length, h.length) ∧ Keep h H7 ∧ Big ro H7 u n := by
  obtain ⟨u, H5, c1, k5, s, m, rfl, b2, b3, b4, b5⟩ := whole87 (ro := ro) a hd hl
  have hO := (o3.by k4).by k5
  obtain ⟨H6, p6, s1, s2, s3, s4, s5⟩ := put75G (ro := ro) (l := H3.length) (p := H3.length) hO b2
  have hrow := row_apart b2 hO s3 s5
  have kp : Keep h H6 := ⟨by rw [s4]; exact ((k3.trans k4).trans k5).1, fun i hi => by rw [s5 i (by omega), ((k3.trans k4).trans k5).2 i hi]⟩
  obtain ⟨H7, f1, f2, f3⟩ := fin_big (ro := ro) (u := .agg [.b false, s]) (n := n) kp ⟨s, m, rfl, hrow, b3, b4, by rw [b5, hv]⟩
  have hk4 := k4.1
  have e1 := callM_eq (m := (⟨H4, H3.length, H3.length⟩ : Mm)) c1
  rw [show min H3.length H4.length = H3.length by omega] at e1
  rw [show min H3.length (h.length + 2) = h.length + 2 by omega] at s1
  exact ⟨_, H5, H6, p6, H7, e1, s1, by omega, fun l p => s3.all rfl, f1, f2, f3⟩
theorem times83 {u0 u1 : AVal} {n0 n1 : Nat} (a0 : Big ro h u0 n0) (a1 : Big ro h u1 n1) (l0 : ∀ s l, u0 = .agg [.b false, s] → IsRow ro h s (nts l) → l.length ≤ 40) (l1 : ∀ s l, u1 = .agg [.b false, s] → IsRow ro h s (nts l) → l.length ≤ 40) :
    ∃ u H, callX F1 ro 83 [u0, u1] h = some (u, H, h.length, h.length) ∧ Keep h H ∧ Big ro H u (n0 * n1) := by
  obtain ⟨s0, m0, rfl, b0, d0, -, v0⟩ := a0
  obtain ⟨s1, m1, rfl, b1, d1, -, v1⟩ := a1
  have q0 := l0 _ _ rfl b0
  have q1 := l1 _ _ rfl b1
  obtain ⟨H3, -, h3, k3, o0, o1, o2, hst⟩ := three75 (ro := ro) (h := h) s0 s1
  obtain ⟨g1, g2, g3⟩ := hst h.length h.length
  obtain ⟨w, H4, l, c4, k4, r4, dl, ll, vl⟩ := mul89 (ro := ro) (row_by b0 k3) (row_by b1 k3) d0.2 d1.2 q0 q1
  obtain ⟨u, H5, H6, p6, H7, e1, e2, e3, e4, e5, e6, e7⟩ := end75 (ro := ro) h3 k3 o2 k4 r4 dl (by omega) (n := n0 * n1) (by rw [vl, v0, v1])
  refine ⟨u, H7, g83_ok (meansX_ok F1 ro) rfl ?_, e6, e7⟩
  have ec := callM_eq (m := (⟨H3, H3.length, H3.length⟩ : Mm)) c4
  rw [Nat.min_self] at ec
  have x0 := o0.oneA (ro := ro) (k := 0) (by simp)
  have x1 := o1.oneA (ro := ro) (k := 0) (by simp)
  have x2 := o0.one (ro := ro) (l := H3.length) (p := H3.length) (k := 1) (by simp)
  have x3 := o1.one (ro := ro) (l := H3.length) (p := H3.length) (k := 1) (by simp)
  have y0 : ([AVal.b false, s0].getD 0 und) = .b false := rfl
  have y1 : ([AVal.b false, s1].getD 0 und) = .b false := rfl
  have y2 : ([AVal.b false, s0].getD 1 und) = s0 := rfl
  have y3 : ([AVal.b false, s1].getD 1 und) = s1 := rfl
  rw [y0] at x0
  rw [y1] at x1
  rw [y2] at x2
  rw [y3] at x3
  have hff : (!((false : Bool) == false)) = false := rfl
  unfold g83
  simp only [g1, g2, g3, pS, oS, base_eq, p_faddr, x0, x1, bS, fB, hff, x2, x3, mC, ec, blt_self, chk_true, e1, e2, join_eq, e4, tA]
  rw [show min h.length (h.length + 2) = h.length by omega, e3]
  exact e5
end
end Go.Proofs.Ytobmcofkcfifkaa.T

/- Plus -/
open Go.Vm
set_option linter.unusedVariables false
namespace Go.Proofs.Ytobmcofkcfifkaa.T
open Go

theorem nv_drop : ∀ (l : List Nat) (j : Nat), nv (l.drop j) = l.getD j 0 + 10000 * nv (l.drop (j + 1))
  | [], j => by simp [nv, List.getD]
  | d :: l, 0 => rfl
  | d :: l, j + 1 => nv_drop l j
theorem getD_out {l : List Nat} {j : Nat} (h : l.length ≤ j) : l.getD j 0 = 0 := by simp [List.getD, List.getElem?_eq_none h]
section
variable {ro : List ABlk} {h H : Heap}
theorem add90 {va vb : AVal} {la lb : List Nat} (a : IsRow ro h va (nts la)) (b : IsRow ro h vb (nts lb)) (da : ∀ d ∈ la, d < 10000) (db : ∀ d ∈ lb, d < 10000) (hla : la.length ≤ 90) (hlb : lb.length ≤ 90) :
    ∃ w H l, callX F1 ro 90 [va, vb] h = some (w, H, h.length, h.length) ∧ Keep h H ∧ IsRow ro H w (nts l) ∧ (∀ d ∈ l, d < 10000) ∧ l.length ≤ 100 ∧ nv l = nv la + nv lb := by
  obtain ⟨mx, hmx⟩ : ∃ mx, mx = max la.length lb.length := ⟨_, rfl⟩
  have out : ∀ {c j : Nat} {w : AVal} {H : Heap} {l : List Nat}, Keep h H → GV H h.length 3 1 w j ((nts l).map (AVal.i .i64)) → l.length = j → (la.length ≤ j ∧ lb.length ≤ j ∧ c = 0) → nv l + 10000 ^ j * (c + nv (la.drop j) + nv (lb.drop j)) = nv la + nv lb →
      g90_b0 (meansX F1 ro) ro va vb w (c : Int) (j : Int) ⟨H, h.length, h.length⟩ = some (.inr (w, ⟨H, h.length, h.length⟩)) ∧ IsRow ro H w (nts l) ∧ nv l = nv la + nv lb := by
    intro c j w H l kp g hl hc hv
    obtain ⟨h1, h2, rfl⟩ := hc
    refine ⟨?_, GV.row g (by rw [nts_len]; exact hl), ?_⟩
    · simp only [g90_b0, len_row (row_by a kp), len_row (row_by b kp), nts_len, oS, iS, fB, ltF (show ¬ (j : Int) < (la.length : Int) by omega), ltF (show ¬ (j : Int) < (lb.length : Int) by omega), ltF (show ¬ (0 : Int) < ((0 : Nat) : Int) by omega), cF]
    · rw [List.drop_eq_nil_of_le h1, List.drop_eq_nil_of_le h2] at hv
      have e : nv [] = 0 := rfl
      rw [e] at hv
      simpa using hv
  have key := loop_exit (b := fun s : AVal × Int × Int × Mm => g90_b0 (meansX F1 ro) ro va vb s.1 s.2.1 s.2.2.1 s.2.2.2) (mx + 1)
    (fun j s => ∃ (w : AVal) (c : Nat) (H : Heap) (l : List Nat), s = (w, (c : Int), (j : Int), (⟨H, h.length, h.length⟩ : Mm)) ∧ Keep h H ∧ GV H h.length 3 1 w j ((nts l).map (AVal.i .i64)) ∧ l.length = j ∧ (∀ d ∈ l, d < 10000) ∧ c ≤ 1 ∧ (mx < j → c = 0) ∧ nv l + 10000 ^ j * (c + nv (la.drop j) + nv (lb.drop j)) = nv la + nv lb)
    (fun r => ∃ (w : AVal) (H : Heap) (l : List Nat), r = (w, (⟨H, h.length, h.length⟩ : Mm)) ∧ Keep h H ∧ IsRow ro H w (nts l) ∧ (∀ d ∈ l, d < 10000) ∧ l.length ≤ 100 ∧ nv l = nv la + nv lb) ?_ ?_ (mx + 1) 0 (AVal.nsl, 0, 0, ⟨h, h.length, h.length⟩) (by omega) ⟨.nsl, 0, h, [], rfl, Keep.refl _, GV.nil _ _ _ _, rfl, by simp, by omega, fun _ => rfl, by simp [nv]⟩
  rotate_left
  · rintro j s hj ⟨w, c, H, l, rfl, kp, g, hl, hd, hc, hz, hv⟩
    by_cases hex : la.length ≤ j ∧ lb.length ≤ j ∧ c = 0
    · obtain ⟨o1, o2, o3⟩ := out kp g hl hex hv
      exact .inr ⟨_, o1, w, H, l, rfl, kp, o2, hd, by omega, o3⟩
    · refine .inl ?_
      have a2 := row_by a kp
      have b2 := row_by b kp
      have d1 := getD_dig da j
      have d2 := getD_dig db j
      obtain ⟨t, ht⟩ : ∃ t, t = c + la.getD j 0 + lb.getD j 0 := ⟨_, rfl⟩
      have e5 : Int.tmod (t : Int) 10000 = ((t % 10000 : Nat) : Int) := rfl
      have e6 : wr .i64 (Int.tdiv (t : Int) 10000) = ((t / 10000 : Nat) : Int) := by rw [show Int.tdiv (t : Int) 10000 = ((t / 10000 : Nat) : Int) from tdiv_nat t 10000]; exact lt64 (by omega)
      obtain ⟨v2, hp2, v3, hp3, s1, s2, g2, k1, k2⟩ := GV.push (ro := ro) (L0 := h.length) (bytes := 8) (z := [AVal.i .i64 0]) (w := .i .i64 ((t % 10000 : Nat) : Int)) (ws := [.i .i64 ((t % 10000 : Nat) : Int)]) g (Nat.le_refl _) kp.1 (by omega) (by omega) (by omega) rfl rfl rfl rfl rfl
      refine ⟨(v3, ((t / 10000 : Nat) : Int), ((j + 1 : Nat) : Int), ⟨hp3, h.length, h.length⟩), ?_, v3, t / 10000, hp3, l ++ [t % 10000], rfl, ⟨Nat.le_trans kp.1 k1, fun q hq => by rw [k2 q hq, kp.2 q hq]⟩, ?_, by simp [hl], fun d hd2 => ?_, by omega, fun hm => ?_, ?_⟩
      · have L : evP .e (.len false (.c va)) = some (.i .i64 (la.length : Int)) := by have := len_row a2; rw [nts_len] at this; exact this
        have M : evP .e (.len false (.c vb)) = some (.i .i64 (lb.length : Int)) := by have := len_row b2; rw [nts_len] at this; exact this
        have w1 : wr .i64 ((c : Int) + ((la.getD j 0 : Nat) : Int)) = ((c + la.getD j 0 : Nat) : Int) := by rw [← Int.natCast_add, lt64 (by omega)]
        by_cases ha : j < la.length
        · obtain ⟨p, f1, f2, -⟩ := at_row (m := ⟨H, h.length, h.length⟩) rfl a2 (show j < (nts la).length by rw [nts_len]; omega)
          rw [nts_get (by omega)] at f2
          by_cases hb : j < lb.length
          · obtain ⟨q, q1, q2, -⟩ := at_row (m := ⟨H, h.length, h.length⟩) rfl b2 (show j < (nts lb).length by rw [nts_len]; omega)
            rw [nts_get (by omega)] at q2
            have w2 : wr .i64 (((c + la.getD j 0 : Nat) : Int) + ((lb.getD j 0 : Nat) : Int)) = (t : Int) := by rw [← Int.natCast_add, ← ht, lt64 (by omega)]
            simp only [g90_b0, L, M, oS, iS, fB, ltT (show (j : Int) < (la.length : Int) by omega), ltT (show (j : Int) < (lb.length : Int) by omega), cT, f1, f2, fI', w1, q1, q2, w2, e5, s1, pS, s2, e6, wr_next (show j ≤ 1000000 by omega)]
          · have ht2 : ((c + la.getD j 0 : Nat) : Int) = (t : Int) := by rw [ht, getD_out (l := lb) (by omega)]; rfl
            simp only [g90_b0, L, M, oS, iS, fB, ltT (show (j : Int) < (la.length : Int) by omega), ltF (show ¬ (j : Int) < (lb.length : Int) by omega), cT, cF, f1, f2, fI', w1, ht2, e5, s1, pS, s2, e6, wr_next (show j ≤ 1000000 by omega)]
        · by_cases hb : j < lb.length
          · obtain ⟨q, q1, q2, -⟩ := at_row (m := ⟨H, h.length, h.length⟩) rfl b2 (show j < (nts lb).length by rw [nts_len]; omega)
            rw [nts_get (by omega)] at q2
            have w2 : wr .i64 ((c : Int) + ((lb.getD j 0 : Nat) : Int)) = (t : Int) := by rw [← Int.natCast_add, lt64 (by omega), ht, getD_out (l := la) (by omega)]; rfl
            simp only [g90_b0, L, M, oS, iS, fB, ltF (show ¬ (j : Int) < (la.length : Int) by omega), ltT (show (j : Int) < (lb.length : Int) by omega), cT, cF, fI', q1, q2, w2, e5, s1, pS, s2, e6, wr_next (show j ≤ 1000000 by omega)]
          · have ht2 : (c : Int) = (t : Int) := by rw [ht, getD_out (l := lb) (by omega), getD_out (l := la) (by omega)]; rfl
            have hcp : 0 < t := by have : c ≠ 0 := fun e => hex ⟨by omega, by omega, e⟩; omega
            simp only [g90_b0, L, M, oS, iS, fB, ltF (show ¬ (j : Int) < (la.length : Int) by omega), ltF (show ¬ (j : Int) < (lb.length : Int) by omega), cT, cF, fI', ht2, ltT (show (0 : Int) < (t : Int) by omega), e5, s1, pS, s2, e6, wr_next (show j ≤ 1000000 by omega)]
      · rw [show nts (l ++ [t % 10000]) = nts l ++ [((t % 10000 : Nat) : Int)] by simp, List.map_append]
        exact g2
      · rcases List.mem_append.1 hd2 with h2 | h2
        · exact hd d h2
        · simp only [List.mem_singleton] at h2
          rw [h2]; exact Nat.mod_lt _ (by omega)
      · have h1 := getD_out (l := la) (j := j) (by omega)
        have h2 := getD_out (l := lb) (j := j) (by omega)
        rw [ht, h1, h2]; omega
      · rw [nv_drop la j, nv_drop lb j] at hv
        rw [nv_app, hl, Nat.pow_succ]
        have h2 : t % 10000 + 10000 * (t / 10000) = t := Nat.mod_add_div t 10000
        have h3 : c + (la.getD j 0 + 10000 * nv (la.drop (j + 1))) + (lb.getD j 0 + 10000 * nv (lb.drop (j + 1))) = t % 10000 + 10000 * (t / 10000 + nv (la.drop (j + 1)) + nv (lb.drop (j + 1))) := by omega
        rw [h3, Nat.mul_add] at hv
        rw [Nat.mul_assoc]
        omega
  · rintro s ⟨w, c, H, l, rfl, kp, g, hl, hd, hc, hz, hv⟩
    obtain ⟨o1, o2, o3⟩ := out kp g hl ⟨by omega, by omega, hz (by omega)⟩ hv
    exact ⟨_, o1, w, H, l, rfl, kp, o2, hd, by omega, o3⟩
  obtain ⟨r, l1, w, H, l, rfl, kp, hrow, hd, hl, hv⟩ := key
  obtain ⟨H2, f1, f2, f3⟩ := fin_rowW (w := w) kp hrow rfl
  refine ⟨w, H2, l, g90_ok (meansX_ok F1 ro) rfl ?_, f2, f3, hd, hl, hv⟩
  unfold g90
  simp only [meansX_loop, l1, oS, tA]
  exact f1
theorem plus84 {u0 u1 : AVal} {n0 n1 : Nat} (a0 : Big ro h u0 n0) (a1 : Big ro h u1 n1) (l0 : ∀ s l, u0 = .agg [.b false, s] → IsRow ro h s (nts l) → l.length ≤ 80) (l1 : ∀ s l, u1 = .agg [.b false, s] → IsRow ro h s (nts l) → l.length ≤ 80) :
    ∃ u H, callX F1 ro 84 [u0, u1] h = some (u, H, h.length, h.length) ∧ Keep h H ∧ Big ro H u (n0 + n1) := by
  obtain ⟨s0, m0, rfl, b0, d0, -, v0⟩ := a0
  obtain ⟨s1, m1, rfl, b1, d1, -, v1⟩ := a1
  have q0 := l0 _ _ rfl b0
  have q1 := l1 _ _ rfl b1
  obtain ⟨H3, -, h3, k3, o0, o1, o2, hst⟩ := three75 (ro := ro) (h := h) s0 s1
  obtain ⟨g1, g2, g3⟩ := hst h.length h.length
  obtain ⟨w, H4, l, c4, k4, r4, dl, ll, vl⟩ := add90 (ro := ro) (row_by b0 k3) (row_by b1 k3) d0.2 d1.2 (by omega) (by omega)
  obtain ⟨u, H5, H6, p6, H7, e1, e2, e3, e4, e5, e6, e7⟩ := end75 (ro := ro) h3 k3 o2 k4 r4 dl (by omega) (n := n0 + n1) (by rw [vl, v0, v1])
  refine ⟨u, H7, g84_ok (meansX_ok F1 ro) rfl ?_, e6, e7⟩
  have ec := callM_eq (m := (⟨H3, H3.length, H3.length⟩ : Mm)) c4
  rw [Nat.min_self] at ec
  have y0 : ([AVal.b false, s0].getD 0 und) = .b false := rfl
  have y1 : ([AVal.b false, s1].getD 0 und) = .b false := rfl
  have y2 : ([AVal.b false, s0].getD 1 und) = s0 := rfl
  have y3 : ([AVal.b false, s1].getD 1 und) = s1 := rfl
  have x0 := o0.oneA (ro := ro) (k := 0) (by simp)
  have x0' := o0.one (ro := ro) (l := h.length) (p := h.length) (k := 0) (by simp)
  have x1' := o1.one (ro := ro) (l := h.length) (p := h.length) (k := 0) (by simp)
  have x2 := o0.one (ro := ro) (l := H3.length) (p := H3.length) (k := 1) (by simp)
  have x3 := o1.one (ro := ro) (l := H3.length) (p := H3.length) (k := 1) (by simp)
  rw [y0] at x0 x0'
  rw [y1] at x1'
  rw [y2] at x2
  rw [y3] at x3
  have hff : ((false : Bool) == false) = true := rfl
  unfold g84
  simp only [g1, g2, g3, pS, oS, base_eq, p_faddr, x0, x0', x1', bS, fB, hff, cT, x2, x3, mC, ec, blt_self, chk_true, e1, e2, join_eq, e4, tA]
  rw [show min h.length (h.length + 2) = h.length by omega, e3]
  exact e5
end
end Go.Proofs.Ytobmcofkcfifkaa.T

/- Compare -/
open Go.Vm
set_option linter.unusedVariables false
namespace Go.Proofs.Ytobmcofkcfifkaa.T
open Go

theorem nv_split : ∀ (l : List Nat) (k : Nat), k ≤ l.length → nv l = nv (l.take k) + 10000 ^ k * nv (l.drop k)
  | l, 0, _ => by show nv l = 0 + 1 * nv l; omega
  | [], k + 1, h => absurd h (by simp)
  | d :: l, k + 1, h => by
    have ih := nv_split l k (by simpa using h)
    show d + 10000 * nv l = d + 10000 * nv (l.take k) + 10000 ^ (k + 1) * nv (l.drop k)
    rw [Nat.pow_succ, Nat.mul_comm (10000 ^ k) 10000, Nat.mul_assoc]
    omega
theorem nv_less {la lb : List Nat} {k : Nat} (da : ∀ d ∈ la, d < 10000) (ha : k ≤ la.length) (hb : k ≤ lb.length) (h : nv (la.drop k) < nv (lb.drop k)) : nv la < nv lb := by
  have h1 := nv_lt (l := la.take k) fun d hd => da d (List.mem_of_mem_take hd)
  rw [List.length_take, Nat.min_eq_left ha] at h1
  have h2 : 10000 ^ k * (nv (la.drop k) + 1) ≤ 10000 ^ k * nv (lb.drop k) := Nat.mul_le_mul_left _ h
  rw [Nat.mul_add, Nat.mul_one] at h2
  rw [nv_split la k ha, nv_split lb k hb]
  omega
def cmpV (a b : Nat) : Int := if a < b then -1 else if b < a then 1 else 0
section
variable {ro : List ABlk} {h H : Heap}
theorem cmp88 {va vb : AVal} {la lb : List Nat} (a : IsRow ro h va (nts la)) (b : IsRow ro h vb (nts lb)) (ca : Can la) (cb : Can lb) (hla : la.length ≤ 100) (hlb : lb.length ≤ 100) :
    callX F1 ro 88 [va, vb] h = some (.i .i64 (cmpV (nv la) (nv lb)), h, h.length, h.length) := by
  have L : evP .e (.len false (.c va)) = some (.i .i64 (la.length : Int)) := by have := len_row a; rw [nts_len] at this; exact this
  have M : evP .e (.len false (.c vb)) = some (.i .i64 (lb.length : Int)) := by have := len_row b; rw [nts_len] at this; exact this
  have short : ∀ {l m : List Nat}, Can l → Can m → l.length < m.length → nv l < nv m := fun {l m} cl cm hlt => by
    have h1 := nv_lt cl.2
    have h2 := can_ge cm (by intro e; rw [e] at hlt; simp at hlt)
    have h3 : 10000 ^ l.length ≤ 10000 ^ (m.length - 1) := Nat.pow_le_pow_right (by omega) (by omega)
    omega
  refine g88_ok (meansX_ok F1 ro) rfl ?_
  unfold g88
  rcases Nat.lt_trichotomy la.length lb.length with hlt | heq | hgt
  · have e : cmpV (nv la) (nv lb) = -1 := by unfold cmpV; rw [if_pos (short ca cb hlt)]
    simp only [L, M, oS, iS, fB, ltT (show (la.length : Int) < (lb.length : Int) by omega), cT, e, tA]
    exact fin_pure rfl
  rotate_left
  · have hs := short cb ca hgt
    have e : cmpV (nv la) (nv lb) = 1 := by unfold cmpV; rw [if_neg (by omega), if_pos hs]
    simp only [L, M, oS, iS, fB, ltF (show ¬ (la.length : Int) < (lb.length : Int) by omega), ltT (show (lb.length : Int) < (la.length : Int) by omega), cT, cF, e, tA]
    exact fin_pure rfl
  obtain ⟨n, hn⟩ : ∃ n, n = la.length := ⟨_, rfl⟩
  have hn2 : lb.length = n := by omega
  have key := loop_exit (b := fun s : Int => g88_b0 (meansX F1 ro) ro va vb ⟨h, h.length, h.length⟩ s) n
    (fun j s => s = (n : Int) - 1 - (j : Int) ∧ nv (la.drop (n - j)) = nv (lb.drop (n - j)))
    (fun r => (r = .inl () ∧ nv la = nv lb) ∨ (r = .inr (-1) ∧ nv la < nv lb) ∨ (r = .inr 1 ∧ nv lb < nv la)) ?_ ?_ n 0 ((n : Int) - 1) (by omega) ⟨by omega, by rw [List.drop_eq_nil_of_le (by omega), List.drop_eq_nil_of_le (by omega)]⟩
  rotate_left
  · rintro j s hj ⟨rfl, he⟩
    obtain ⟨k, hk⟩ : ∃ k, k = n - 1 - j := ⟨_, rfl⟩
    have hs : (n : Int) - 1 - (j : Int) = (k : Int) := by omega
    obtain ⟨p, f1, -, f3⟩ := at_row (m := ⟨h, h.length, h.length⟩) rfl a (show k < (nts la).length by rw [nts_len]; omega)
    obtain ⟨q, q1, -, q3⟩ := at_row (m := ⟨h, h.length, h.length⟩) rfl b (show k < (nts lb).length by rw [nts_len]; omega)
    rw [nts_get (by omega)] at f3 q3
    have e1 := nv_drop la k
    have e2 := nv_drop lb k
    rw [show k + 1 = n - j by omega] at e1 e2
    rw [hs]
    rcases Nat.lt_trichotomy (la.getD k 0) (lb.getD k 0) with g | g | g
    · refine .inr ⟨.inr (-1), ?_, .inr (.inl ⟨rfl, nv_less (k := k) ca.2 (by omega) (by omega) (by omega)⟩)⟩
      simp only [g88_b0, fB, ltF (show ¬ (k : Int) < 0 by omega), nF, cT, f1, f3, q1, q3, oS, iS, ltT (show ((la.getD k 0 : Nat) : Int) < ((lb.getD k 0 : Nat) : Int) by omega)]
    · refine .inl ⟨_, ?_, rfl, by rw [show n - (j + 1) = k by omega, e1, e2, he, g]⟩
      have w1 : wr .i64 ((k : Int) - 1) = (n : Int) - 1 - ((j + 1 : Nat) : Int) := by rw [wr_id' (by omega) (by omega)]; omega
      simp only [g88_b0, fB, ltF (show ¬ (k : Int) < 0 by omega), nF, cT, cF, f1, f3, q1, q3, oS, iS, ltF (show ¬ ((la.getD k 0 : Nat) : Int) < ((lb.getD k 0 : Nat) : Int) by omega), ltF (show ¬ ((lb.getD k 0 : Nat) : Int) < ((la.getD k 0 : Nat) : Int) by omega), fI', w1]
    · refine .inr ⟨.inr 1, ?_, .inr (.inr ⟨rfl, nv_less (k := k) cb.2 (by omega) (by omega) (by omega)⟩)⟩
      simp only [g88_b0, fB, ltF (show ¬ (k : Int) < 0 by omega), nF, cT, cF, f1, f3, q1, q3, oS, iS, ltF (show ¬ ((la.getD k 0 : Nat) : Int) < ((lb.getD k 0 : Nat) : Int) by omega), ltT (show ((lb.getD k 0 : Nat) : Int) < ((la.getD k 0 : Nat) : Int) by omega)]
  · rintro s ⟨rfl, he⟩
    refine ⟨.inl (), ?_, .inl ⟨rfl, ?_⟩⟩
    · simp only [g88_b0, fB, ltT (show (n : Int) - 1 - (n : Int) < 0 by omega), nT, cF]
    · rw [Nat.sub_self] at he
      exact he
  have e1 : wr .i64 ((la.length : Int) - 1) = (n : Int) - 1 := by rw [wr_id' (by omega) (by omega), hn]
  obtain ⟨r, hl, ⟨rfl, hv⟩ | ⟨rfl, hv⟩ | ⟨rfl, hv⟩⟩ := key
  · have e : cmpV (nv la) (nv lb) = 0 := by unfold cmpV; rw [if_neg (by omega), if_neg (by omega)]
    simp only [L, M, oS, iS, fB, ltF (show ¬ (la.length : Int) < (lb.length : Int) by omega), ltF (show ¬ (lb.length : Int) < (la.length : Int) by omega), cF, fI', e1, meansX_loop, hl, e, tA]
    exact fin_pure rfl
  · have e : cmpV (nv la) (nv lb) = -1 := by unfold cmpV; rw [if_pos hv]
    simp only [L, M, oS, iS, fB, ltF (show ¬ (la.length : Int) < (lb.length : Int) by omega), ltF (show ¬ (lb.length : Int) < (la.length : Int) by omega), cF, fI', e1, meansX_loop, hl, e, tA]
    exact fin_pure rfl
  · have e : cmpV (nv la) (nv lb) = 1 := by unfold cmpV; rw [if_neg (by omega), if_pos hv]
    simp only [L, M, oS, iS, fB, ltF (show ¬ (la.length : Int) < (lb.length : Int) by omega), ltF (show ¬ (lb.length : Int) < (la.length : Int) by omega), cF, fI', e1, meansX_loop, hl, e, tA]
    exact fin_pure rfl
theorem compare82 {u0 u1 : AVal} {n0 n1 : Nat} (a0 : Big ro h u0 n0) (a1 : Big ro h u1 n1) : callX F1 ro 82 [u0, u1] h = some (.i .i64 (cmpV n0 n1), h, h.length, h.length) := by
  obtain ⟨s0, m0, rfl, b0, d0, l0, v0⟩ := a0
  obtain ⟨s1, m1, rfl, b1, d1, l1, v1⟩ := a1
  obtain ⟨H2, hH2⟩ : ∃ H2, H2 = h ++ [some (blkOf 75 [.b false, s0])] ++ [some (blkOf 75 [.b false, s1])] := ⟨_, rfl⟩
  have e1 : (h ++ [some (blkOf 75 [.b false, s0])]).length = h.length + 1 := by simp
  have k2 : Keep h H2 := by rw [hH2, List.append_assoc]; exact Keep.app _
  have o0 : Holds H2 h.length [.b false, s0] := by rw [hH2]; exact (Holds.new h 75 [.b false, s0]).ext _
  have o1 : Holds H2 (h.length + 1) [.b false, s1] := by
    have := Holds.new (h ++ [some (blkOf 75 [.b false, s0])]) 75 [.b false, s1]
    rw [e1, ← hH2] at this; exact this
  have g1 : stepM ro ⟨h, h.length, h.length⟩ (.bx 75 2 (.c (.agg [.b false, s0]))) = some (.p (some ⟨false, h.length, 0⟩), ⟨h ++ [some (blkOf 75 [.b false, s0])], h.length, h.length⟩) := bx_ok 75 rfl
  have g2 : stepM ro ⟨h ++ [some (blkOf 75 [.b false, s0])], h.length, h.length⟩ (.bx 75 2 (.c (.agg [.b false, s1]))) = some (.p (some ⟨false, h.length + 1, 0⟩), ⟨H2, h.length, h.length⟩) := by
    have := bx_ok (ro := ro) (hp := h ++ [some (blkOf 75 [.b false, s0])]) (l := h.length) (p := h.length) (n := 2) 75 (vs := [.b false, s1]) rfl
    rw [e1, ← hH2] at this; exact this
  have y0 : ([AVal.b false, s0].getD 0 und) = .b false := rfl
  have y1 : ([AVal.b false, s1].getD 0 und) = .b false := rfl
  have y2 : ([AVal.b false, s0].getD 1 und) = s0 := rfl
  have y3 : ([AVal.b false, s1].getD 1 und) = s1 := rfl
  have x0 := o0.one (ro := ro) (l := h.length) (p := h.length) (k := 0) (by simp)
  have x1 := o1.one (ro := ro) (l := h.length) (p := h.length) (k := 0) (by simp)
  have x2 := o0.one (ro := ro) (l := h.length) (p := h.length) (k := 1) (by simp)
  have x3 := o1.one (ro := ro) (l := h.length) (p := h.length) (k := 1) (by simp)
  rw [y0] at x0
  rw [y1] at x1
  rw [y2] at x2
  rw [y3] at x3
  have hff : (!((false : Bool) == false)) = false := rfl
  have ec := cp (cmp88 (ro := ro) (row_by b0 k2) (row_by b1 k2) d0 d1 l0 l1) k2.1 k2.1
  rw [v0, v1] at ec
  refine g82_ok (meansX_ok F1 ro) rfl ?_
  unfold g82
  simp only [g1, g2, pS, oS, p_faddr, x0, x1, bS, fB, hff, cF, x2, x3, mC, ec, iS, tA]
  exact fin_keep k2 rfl
end
end Go.Proofs.Ytobmcofkcfifkaa.T

/- under -/
open Go.Vm
set_option linter.unusedVariables false
namespace Go.Proofs.Ytobmcofkcfifkaa.T
open Go

section
variable {ro : List ABlk} {h H : Heap}
theorem big_len {u : AVal} {n k : Nat} (a : Big ro H u n) (hn : n < 10000 ^ k) : ∀ s l, u = .agg [.b false, s] → IsRow ro H s (nts l) → l.length ≤ k := by
  obtain ⟨s0, m, rfl, b0, d0, -, v0⟩ := a
  intro s l e b
  have es : s0 = s := by cases e; rfl
  subst es
  have hl := len_row b
  have hm := len_row b0
  rw [hl] at hm
  have e2 : ((nts l).length : Int) = ((nts m).length : Int) := (AVal.i.inj (Option.some.inj hm)).2
  rw [nts_len, nts_len] at e2
  rcases Nat.lt_or_ge k m.length with h | h
  · have h1 := can_ge d0 (by intro e; rw [e] at h; simp at h)
    have h2 : 10000 ^ k ≤ 10000 ^ (m.length - 1) := Nat.pow_le_pow_right (by omega) (by omega)
    omega
  · omega
theorem under77 {x y : Nat} (hx : x ≤ 4611686018427387904) (hy : y ≤ 4611686018427387904) : callX F1 ro 77 [.i .i64 (x : Int), .i .i64 (y : Int)] h = some (.b (decide (x * x < x * y + y * y)), h, h.length, h.length) := by
  obtain ⟨u0, H1, c1, k1, b1⟩ := of81 (ro := ro) (h := h) (x := x) (by omega)
  obtain ⟨u1, H2, c2, k2, b2⟩ := of81 (ro := ro) (h := H1) (x := y) (by omega)
  have k02 := k1.trans k2
  obtain ⟨H3, hH3⟩ : ∃ H3, H3 = H2 ++ [some (blkOf 75 [.b false, .nsl])] ++ [some (blkOf 75 [.b false, .nsl])] := ⟨_, rfl⟩
  have e1 : (H2 ++ [some (blkOf 75 [.b false, .nsl])]).length = H2.length + 1 := by simp
  have k23 : Keep H2 H3 := by rw [hH3, List.append_assoc]; exact Keep.app _
  have o5 : Holds H3 H2.length [.b false, .nsl] := by rw [hH3]; exact (Holds.new H2 75 [.b false, .nsl]).ext _
  have o6 : Holds H3 (H2.length + 1) [.b false, .nsl] := by
    have := Holds.new (H2 ++ [some (blkOf 75 [.b false, .nsl])]) 75 [.b false, .nsl]
    rw [e1, ← hH3] at this; exact this
  have g1 : stepM ro ⟨H2, h.length, h.length⟩ (.al 75 [(AVal.b false), AVal.nsl]) = some (.p (some ⟨false, H2.length, 0⟩), ⟨H2 ++ [some (blkOf 75 [.b false, .nsl])], h.length, h.length⟩) := al_ok ..
  have g2 : stepM ro ⟨H2 ++ [some (blkOf 75 [.b false, .nsl])], h.length, h.length⟩ (.al 75 [(AVal.b false), AVal.nsl]) = some (.p (some ⟨false, H2.length + 1, 0⟩), ⟨H3, h.length, h.length⟩) := by
    have := al_ok (ro := ro) (hp := H2 ++ [some (blkOf 75 [.b false, .nsl])]) (l := h.length) (p := h.length) 75 [.b false, .nsl]
    rw [e1, ← hH3] at this; exact this
  obtain ⟨s0, m0, rfl, r0, d0, l0, v0⟩ := b1
  obtain ⟨s1, m1, rfl, r1, d1, l1, v1⟩ := b2
  have r0' := row_by (row_by r0 k2) k23
  have r1' := row_by r1 k23
  have h2l := k02.1
  have k03 := k02.trans k23
  obtain ⟨H4, t1, t2, t3, t4, t5⟩ := put75 (ro := ro) (h := h) o5 rfl h2l k03 r0'
  have r0a := row_apart r0' o5 t2 t4
  have r1a := row_apart r1' o5 t2 t4
  have o6a : Holds H4 (H2.length + 1) [.b false, .nsl] := o6.keep (t4 _ (by omega))
  obtain ⟨H6, t1', t2', t3', t4', t5'⟩ := put75 (ro := ro) (h := h) o6a rfl (by omega) t5 r1a
  have r0b := row_apart r0a o6a t2' t4'
  have r1b := row_apart r1a o6a t2' t4'
  have o5b : Holds H6 H2.length [.b false, s0] := t2.keep (t4' _ (by omega))
  have B0 : Big ro H6 (.agg [.b false, s0]) x := ⟨s0, m0, rfl, r0b, d0, l0, v0⟩
  have B1 : Big ro H6 (.agg [.b false, s1]) y := ⟨s1, m1, rfl, r1b, d1, l1, v1⟩
  have p5 : (10000 : Nat) ^ 5 = 100000000000000000000 := by decide
  have p10 : (10000 : Nat) ^ 10 = 10000000000000000000000000000000000000000 := by decide
  have len5 : ∀ {K : Heap} {u : AVal} {n : Nat}, Big ro K u n → n ≤ 4611686018427387904 → ∀ s l, u = .agg [.b false, s] → IsRow ro K s (nts l) → l.length ≤ 40 := fun a hn s l e r => by
    have := big_len a (k := 5) (by omega) s l e r
    omega
  have hxx : x * x ≤ 4611686018427387904 * 4611686018427387904 := Nat.mul_le_mul hx hx
  have hxy : x * y ≤ 4611686018427387904 * 4611686018427387904 := Nat.mul_le_mul hx hy
  have hyy : y * y ≤ 4611686018427387904 * 4611686018427387904 := Nat.mul_le_mul hy hy
  have len10 : ∀ {K : Heap} {u : AVal} {n : Nat}, Big ro K u n → n ≤ 4611686018427387904 * 4611686018427387904 → ∀ s l, u = .agg [.b false, s] → IsRow ro K s (nts l) → l.length ≤ 80 := fun a hn s l e r => by
    have := big_len a (k := 10) (by omega) s l e r
    omega
  obtain ⟨w0, H7, c7, k7, b7⟩ := times83 (ro := ro) B0 B0 (len5 B0 hx) (len5 B0 hx)
  have B0' := B0.by k7
  have B1' := B1.by k7
  obtain ⟨w1, H8, c8, k8, b8⟩ := times83 (ro := ro) B0' B1' (len5 B0' hx) (len5 B1' hy)
  have B1'' := B1'.by k8
  obtain ⟨w2, H9, c9, k9, b9⟩ := times83 (ro := ro) B1'' B1'' (len5 B1'' hy) (len5 B1'' hy)
  have b8' := b8.by k9
  obtain ⟨w3, H10, c10, k10, b10⟩ := plus84 (ro := ro) b8' b9 (len10 b8' hxy) (len10 b9 hyy)
  have b7' := ((b7.by k8).by k9).by k10
  have c11 := compare82 (ro := ro) b7' b10
  have q1 := callM_eq (m := (⟨h, h.length, h.length⟩ : Mm)) c1
  rw [Nat.min_self] at q1
  have q2 := callM_eq (m := (⟨H1, h.length, h.length⟩ : Mm)) c2
  rw [show min h.length H1.length = h.length by have := k1.1; omega] at q2
  have n7 := k7.1
  have n8 := k8.1
  have n9 := k9.1
  have n10 := k10.1
  have q7 := callM_eq (m := (⟨H6, H6.length, H6.length⟩ : Mm)) c7
  rw [Nat.min_self] at q7
  have q8 := callM_eq (m := (⟨H7, H6.length, H6.length⟩ : Mm)) c8
  rw [show min H6.length H7.length = H6.length by omega] at q8
  have q9 := callM_eq (m := (⟨H8, H6.length, H6.length⟩ : Mm)) c9
  rw [show min H6.length H8.length = H6.length by omega] at q9
  have q10 := callM_eq (m := (⟨H9, H6.length, H6.length⟩ : Mm)) c10
  rw [show min H6.length H9.length = H6.length by omega] at q10
  have q11 := callM_eq (m := (⟨H10, H6.length, H6.length⟩ : Mm)) c11
  rw [show min H6.length H10.length = H6.length by omega] at q11
  have ld5 := fun l p => o5b.all (ro := ro) (l := l) (p := p) (n := 2) rfl
  have la5 := o5b.allA (ro := ro) (n := 2) rfl
  have la6 := t2'.allA (ro := ro) (n := 2) rfl
  refine g77_ok (meansX_ok F1 ro) rfl ?_
  unfold g77
  have hres : ltI (cmpV (x * x) (x * y + y * y)) 0 = decide (x * x < x * y + y * y) := by
    unfold cmpV
    by_cases e : x * x < x * y + y * y
    · rw [if_pos e, dT e, ltT (by decide)]
    · rw [if_neg e, dF e]
      split
      · exact ltF (by decide)
      · exact ltF (by decide)
  have h6 := t5'.1
  simp only [mC, q1, pS, q2, g1, g2, t1, t1', oS, base_eq, ld5, q7, blt_self, chk_true, la5, la6, q8, q9, q10, q11, iS, fB, hres, join_eq, tA]
  rw [show min h.length H6.length = h.length by omega]
  exact fin_keep ((((t5'.trans k7).trans k8).trans k9).trans k10) rfl
end
end Go.Proofs.Ytobmcofkcfifkaa.T

/- Lower -/
open Go.Vm
set_option linter.unusedVariables false
namespace Go.Proofs.Ytobmcofkcfifkaa.T
open Go

theorem quad_id (F G A k u : Int) (h1 : G * G - G * F - F * F = -1) (h2 : u = k * G - A * F) : F * F * (A * A - A * k - k * k) = -(k * k) - u * (2 * k * G - k * F - u) := by
  subst h2
  grind
theorem under_A {k a : Nat} (hk : k ≤ big) (h0 : 0 < k) : a * a < a * k + k * k ↔ a ≤ A k := by
  have hbig : big = 1152921504606846976 := rfl
  obtain ⟨n1, n2⟩ := A_near hk h0
  obtain ⟨u, hu⟩ : ∃ u : Int, u = (k : Int) * 354224848179261915075 - (a : Int) * 218922995834555169026 := ⟨_, rfl⟩
  have hid := quad_id 218922995834555169026 354224848179261915075 (a : Int) (k : Int) u (by decide) hu
  have hkk : 0 < (k : Int) * (k : Int) := Int.mul_pos (by omega) (by omega)
  obtain ⟨w, hw⟩ : ∃ w : Int, w = 2 * (k : Int) * 354224848179261915075 - (k : Int) * 218922995834555169026 - u := ⟨_, rfl⟩
  rw [← hw] at hid
  have hQ : (a * a < a * k + k * k) ↔ (a : Int) * a - (a : Int) * k - (k : Int) * k < 0 := by
    have e1 : ((a * a : Nat) : Int) = (a : Int) * a := Int.natCast_mul _ _
    have e2 : ((a * k : Nat) : Int) = (a : Int) * k := Int.natCast_mul _ _
    have e3 : ((k * k : Nat) : Int) = (k : Int) * k := Int.natCast_mul _ _
    rw [← e1, ← e2, ← e3]
    omega
  rw [hQ]
  generalize (a : Int) * a - (a : Int) * k - (k : Int) * k = Q at *
  constructor
  · intro hneg
    rcases Nat.lt_or_ge (A k) a with h | h
    · exfalso
      have hu1 : u ≤ -1 := by omega
      have hw1 : (k : Int) * 354224848179261915075 ≤ w := by omega
      have h3 : w ≤ (-u) * w := by
        have : 1 * w ≤ (-u) * w := Int.mul_le_mul_of_nonneg_right (by omega) (by omega)
        omega
      have h4 : (k : Int) * (k : Int) ≤ (k : Int) * 354224848179261915075 := Int.mul_le_mul_of_nonneg_left (by omega) (by omega)
      have h5 : (-u) * w = -(u * w) := Int.neg_mul _ _
      have h6 : (k : Int) * (k : Int) < (k : Int) * 354224848179261915075 := by
        have : (k : Int) * (k : Int) + (k : Int) * 1 ≤ (k : Int) * 354224848179261915075 := by
          rw [← Int.mul_add]
          exact Int.mul_le_mul_of_nonneg_left (by omega) (by omega)
        omega
      omega
    · exact h
  · intro h
    have hu1 : 0 < u := by omega
    have hw1 : 0 ≤ w := by omega
    have h3 : 0 ≤ u * w := Int.mul_nonneg (by omega) hw1
    omega
theorem A_mono {k m : Nat} (hm : m ≤ big) (h : k < m) : A k < A m := by
  have hbig : big = 1152921504606846976 := rfl
  have h1 := A_near (k := m) hm (by omega)
  rcases Nat.eq_zero_or_pos k with rfl | h0
  · have e : A 0 = 0 := rfl
    omega
  · have h2 := A_near (k := k) (by omega) h0
    omega
theorem A_ge {k : Nat} (hk : k ≤ big) : k ≤ A k := by
  rcases Nat.eq_zero_or_pos k with rfl | h0
  · exact Nat.zero_le _
  · rw [A_eq hk h0]; omega
theorem A_lt2 {k : Nat} (hk : k ≤ big) : A k ≤ 2 * k := by
  rcases Nat.eq_zero_or_pos k with rfl | h0
  · exact Nat.le_refl _
  · have := A_near hk h0; omega
section
variable {ro : List ABlk} {h H : Heap}
theorem lower67 {k : Nat} (hk : k ≤ big) : callX F1 ro 67 [.i .i64 (k : Int)] h = some (.i .i64 (A k : Int), h, h.length, h.length) := by
  have hbig : big = 1152921504606846976 := rfl
  refine g67_ok (meansX_ok F1 ro) rfl ?_
  unfold g67
  rcases Nat.eq_zero_or_pos k with rfl | h0
  · have e : eqI ((0 : Nat) : Int) 0 = true := rfl
    simp only [fB, e, cT, tA]
    exact fin_pure rfl
  have e1 : wr .i64 (2 * (k : Int)) = ((2 * k : Nat) : Int) := by rw [wr_id' (by omega) (by omega)]; omega
  have hA2 : A k < 2 * k := by
    rcases Nat.lt_or_ge (A k) (2 * k) with h | h
    · exact h
    · have := (under_A (a := 2 * k) hk h0).2 h
      have e2 : 2 * k * (2 * k) = 4 * (k * k) := by rw [Nat.mul_mul_mul_comm]
      have e3 : 2 * k * k = 2 * (k * k) := Nat.mul_assoc _ _ _
      omega
  have p60 : (2 : Nat) ^ (60 - 0) = 1152921504606846976 := by decide
  have key := loop_exit (b := fun s : Int × Int × Mm => g67_b0 (meansX F1 ro) ro (k : Int) s.1 s.2.1 s.2.2) 60
    (fun j s => ∃ lo hi : Nat, s = ((lo : Int), (hi : Int), (⟨h, h.length, h.length⟩ : Mm)) ∧ k ≤ lo ∧ lo ≤ A k ∧ A k < hi ∧ hi ≤ 2 * k ∧ hi - lo ≤ 2 ^ (60 - j))
    (fun r => r = ((A k : Int), (⟨h, h.length, h.length⟩ : Mm))) ?_ ?_ 60 0 ((k : Int), ((2 * k : Nat) : Int), ⟨h, h.length, h.length⟩) (by omega) ⟨k, 2 * k, rfl, Nat.le_refl _, A_ge hk, hA2, Nat.le_refl _, by rw [p60]; omega⟩
  rotate_left
  · rintro j s hj ⟨lo, hi, rfl, q1, q2, q3, q4, q5⟩
    have w1 : wr .i64 ((lo : Int) + 1) = ((lo + 1 : Nat) : Int) := by rw [wr_id' (by omega) (by omega)]; omega
    by_cases hc : lo + 1 < hi
    · refine .inl ?_
      obtain ⟨m, hm⟩ : ∃ m, m = lo + (hi - lo) / 2 := ⟨_, rfl⟩
      have w2 : wr .i64 ((hi : Int) - (lo : Int)) = ((hi - lo : Nat) : Int) := by rw [wr_id' (by omega) (by omega)]; omega
      have w3 : wr .i64 (Int.tdiv ((hi - lo : Nat) : Int) 2) = (((hi - lo) / 2 : Nat) : Int) := by rw [show Int.tdiv ((hi - lo : Nat) : Int) 2 = (((hi - lo) / 2 : Nat) : Int) from tdiv_nat _ 2]; exact lt64 (by omega)
      have w4 : wr .i64 ((lo : Int) + (((hi - lo) / 2 : Nat) : Int)) = (m : Int) := by rw [wr_id' (by omega) (by omega)]; omega
      have hu := cp0 (under77 (ro := ro) (h := h) (x := m) (y := k) (by omega) (by omega))
      have hp : 2 ^ (60 - j) = 2 * 2 ^ (60 - (j + 1)) := by rw [show 60 - j = (60 - (j + 1)) + 1 by omega, Nat.pow_succ]; omega
      have hiff := under_A (a := m) hk h0
      by_cases hx : m * m < m * k + k * k
      · rw [dT hx] at hu
        refine ⟨((m : Int), (hi : Int), ⟨h, h.length, h.length⟩), ?_, m, hi, rfl, by omega, hiff.1 hx, q3, q4, by omega⟩
        simp only [g67_b0, fI', w1, fB, ltT (show ((lo + 1 : Nat) : Int) < (hi : Int) by omega), cT, w2, w3, w4, mC, hu, pS, bS, oS]
      · rw [dF hx] at hu
        have : ¬ m ≤ A k := fun e => hx (hiff.2 e)
        refine ⟨((lo : Int), (m : Int), ⟨h, h.length, h.length⟩), ?_, lo, m, rfl, q1, q2, by omega, by omega, by omega⟩
        simp only [g67_b0, fI', w1, fB, ltT (show ((lo + 1 : Nat) : Int) < (hi : Int) by omega), cT, cF, w2, w3, w4, mC, hu, pS, bS, oS]
    · refine .inr ⟨_, ?_, rfl⟩
      have : A k = lo := by omega
      rw [this]
      simp only [g67_b0, fI', w1, fB, ltF (show ¬ ((lo + 1 : Nat) : Int) < (hi : Int) by omega), cF]
  · rintro s ⟨lo, hi, rfl, q1, q2, q3, q4, q5⟩
    have w1 : wr .i64 ((lo : Int) + 1) = ((lo + 1 : Nat) : Int) := by rw [wr_id' (by omega) (by omega)]; omega
    have e : (2 : Nat) ^ (60 - 60) = 1 := by decide
    rw [e] at q5
    refine ⟨_, ?_, rfl⟩
    have : A k = lo := by omega
    rw [this]
    simp only [g67_b0, fI', w1, fB, ltF (show ¬ ((lo + 1 : Nat) : Int) < (hi : Int) by omega), cF]
  obtain ⟨r, hl, rfl⟩ := key
  simp only [fB, eqI_ne (show (k : Int) ≠ 0 by omega), cF, fI', e1, meansX_loop, hl, oS, tA]
  exact fin_pure rfl
theorem A_lost {a b : Nat} (ha : a ≤ big) (hb : b ≤ big) : min a b = A (max a b - min a b) ↔ P a = b := by
  rcases Nat.lt_trichotomy a b with h | h | h
  · rw [Nat.min_eq_left (by omega), Nat.max_eq_right (by omega)]
    constructor
    · intro e
      have := P_pair (k := b - a) (by omega) (by omega)
      rw [← e] at this; omega
    · intro e
      exact ((P_diff ha e h).2.2.2).symm
  · subst h
    rw [Nat.min_self, Nat.max_self, Nat.sub_self]
    have e0 : A 0 = 0 := rfl
    rw [e0]
    exact ⟨fun e => by rw [e]; rfl, fun e => P_self ha e⟩
  · rw [Nat.min_eq_right (by omega), Nat.max_eq_left (by omega)]
    constructor
    · intro e
      have := P_pair (k := a - b) (by omega) (by omega)
      rw [← e] at this
      exact P_symm hb ha (by omega)
    · intro e
      have e2 := P_symm ha hb e
      exact ((P_diff hb e2 h).2.2.2).symm
theorem lost69 {a b : Nat} (ha : a ≤ big) (hb : b ≤ big) : callX F1 ro 69 [.i .i64 (a : Int), .i .i64 (b : Int)] h = some (.b (decide (P a = b)), h, h.length, h.length) := by
  have hbig : big = 1152921504606846976 := rfl
  refine g69_ok (meansX_ok F1 ro) rfl ?_
  unfold g69
  have e1 : wr .i64 (((max a b : Nat) : Int) - ((min a b : Nat) : Int)) = ((max a b - min a b : Nat) : Int) := by rw [wr_id' (by omega) (by omega)]; omega
  have e2 : eqI ((min a b : Nat) : Int) (A (max a b - min a b) : Int) = decide (P a = b) := by
    have := A_lost ha hb
    by_cases e : P a = b
    · have e5 : ((min a b : Nat) : Int) = (A (max a b - min a b) : Int) := congrArg (fun n : Nat => (n : Int)) (this.2 e)
      rw [dT e, e5]; exact eqI_self _
    · rw [dF e]; exact eqI_ne (fun e3 => e (this.1 (by omega)))
  simp only [fI', mxF, mxT, e1, mC, cp0 (lower67 (ro := ro) (h := h) (show max a b - min a b ≤ big by omega)), pS, iS, fB, e2, tA]
  exact fin_pure rfl
end
end Go.Proofs.Ytobmcofkcfifkaa.T

/- partner -/
open Go.Vm
set_option linter.unusedVariables false
namespace Go.Proofs.Ytobmcofkcfifkaa.T
open Go

theorem cover {n : Nat} (hn : n ≤ big) : ∃ t, t ≤ n ∧ (A t = n ∨ A t + t = n) := by
  rcases Nat.eq_zero_or_pos n with rfl | h0
  · exact ⟨0, Nat.le_refl _, .inl rfl⟩
  rcases Nat.mod_two_eq_zero_or_one (lp n) with he | ho
  · obtain ⟨g1, g2, g3⟩ := A_X hn h0 he
    exact ⟨X n, g3, .inl g1⟩
  · obtain ⟨g1, g2, g3, g4, g5⟩ := X_odd hn h0 ho
    obtain ⟨k1, k2, k3⟩ := A_X g1 g2 g4
    have := S_eq g1
    exact ⟨X (X n), by omega, .inr (by omega)⟩
section
variable {ro : List ABlk} {h H : Heap}
theorem search70 {n e : Nat} (hn : n ≤ big) (he : e ≤ 1) : ∃ lo : Nat, loopX (fun s : Int × Int × Mm => g70_b1 (meansX F1 ro) ro (n : Int) (e : Int) s.1 s.2.1 s.2.2) (0, ((n + 1 : Nat) : Int), ⟨h, h.length, h.length⟩) = some ((lo : Int), ⟨h, h.length, h.length⟩) ∧ lo ≤ n ∧ ∀ t, t ≤ n → A t + e * t = n → t = lo := by
  have hbig : big = 1152921504606846976 := rfl
  have p61 : (2 : Nat) ^ (61 - 0) = 2305843009213693952 := by decide
  have mono : ∀ {s t : Nat}, t ≤ n → s < t → A s + e * s < A t + e * t := fun {s t} ht hst => by
    have h1 := A_mono (k := s) (m := t) (by omega) hst
    have h2 : e * s ≤ e * t := Nat.mul_le_mul_left _ (by omega)
    omega
  have fin : ∀ {lo hi : Nat}, A lo + e * lo ≤ n → lo < hi → hi ≤ n + 1 → (∀ t, t ≤ n → A t + e * t ≤ n → t < hi) → hi ≤ lo + 1 → lo ≤ n ∧ ∀ t, t ≤ n → A t + e * t = n → t = lo := fun {lo hi} q1 q2 q3 q4 q5 => by
    refine ⟨by omega, fun t ht hv => ?_⟩
    have h1 := q4 t ht (by omega)
    rcases Nat.lt_or_ge t lo with h | h
    · have := mono (s := t) (t := lo) (by omega) h
      omega
    · omega
  have hq0 : A 0 + e * 0 ≤ n := by
    have e0 : A 0 = 0 := rfl
    rw [e0, Nat.mul_zero]; exact Nat.zero_le _
  have key := loop_exit (b := fun s : Int × Int × Mm => g70_b1 (meansX F1 ro) ro (n : Int) (e : Int) s.1 s.2.1 s.2.2) 61
    (fun j s => ∃ lo hi : Nat, s = ((lo : Int), (hi : Int), (⟨h, h.length, h.length⟩ : Mm)) ∧ A lo + e * lo ≤ n ∧ lo < hi ∧ hi ≤ n + 1 ∧ (∀ t, t ≤ n → A t + e * t ≤ n → t < hi) ∧ hi - lo ≤ 2 ^ (61 - j))
    (fun r => ∃ lo : Nat, r = ((lo : Int), (⟨h, h.length, h.length⟩ : Mm)) ∧ lo ≤ n ∧ ∀ t, t ≤ n → A t + e * t = n → t = lo) ?_ ?_ 61 0 (0, ((n + 1 : Nat) : Int), ⟨h, h.length, h.length⟩) (by omega) ⟨0, n + 1, rfl, hq0, by omega, Nat.le_refl _, fun t ht _ => by omega, by rw [p61]; omega⟩
  rotate_left
  · rintro j s hj ⟨lo, hi, rfl, q1, q2, q3, q4, q5⟩
    have w1 : wr .i64 ((lo : Int) + 1) = ((lo + 1 : Nat) : Int) := by rw [wr_id' (by omega) (by omega)]; omega
    by_cases hc : lo + 1 < hi
    · refine .inl ?_
      obtain ⟨m, hm⟩ : ∃ m, m = lo + (hi - lo) / 2 := ⟨_, rfl⟩
      have w2 : wr .i64 ((hi : Int) - (lo : Int)) = ((hi - lo : Nat) : Int) := by rw [wr_id' (by omega) (by omega)]; omega
      have w3 : wr .i64 (Int.tdiv ((hi - lo : Nat) : Int) 2) = (((hi - lo) / 2 : Nat) : Int) := by rw [show Int.tdiv ((hi - lo : Nat) : Int) 2 = (((hi - lo) / 2 : Nat) : Int) from tdiv_nat _ 2]; exact lt64 (by omega)
      have w4 : wr .i64 ((lo : Int) + (((hi - lo) / 2 : Nat) : Int)) = (m : Int) := by rw [wr_id' (by omega) (by omega)]; omega
      have hA := A_lt2 (k := m) (by omega)
      have hem : e * m ≤ 1 * m := Nat.mul_le_mul_right _ he
      have w5 : wr .i64 ((e : Int) * (m : Int)) = ((e * m : Nat) : Int) := by rw [← Int.natCast_mul, lt64 (by omega)]
      have w6 : wr .i64 ((A m : Int) + ((e * m : Nat) : Int)) = ((A m + e * m : Nat) : Int) := by rw [← Int.natCast_add, lt64 (by omega)]
      have hl := cp0 (lower67 (ro := ro) (h := h) (show m ≤ big by omega))
      have hp : 2 ^ (61 - j) = 2 * 2 ^ (61 - (j + 1)) := by rw [show 61 - j = (61 - (j + 1)) + 1 by omega, Nat.pow_succ]; omega
      by_cases hx : A m + e * m ≤ n
      · refine ⟨((m : Int), (hi : Int), ⟨h, h.length, h.length⟩), ?_, m, hi, rfl, hx, by omega, q3, q4, by omega⟩
        simp only [g70_b1, fI', w1, fB, ltT (show ((lo + 1 : Nat) : Int) < (hi : Int) by omega), cT, w2, w3, w4, mC, hl, pS, iS, w5, w6, ltF (show ¬ (n : Int) < ((A m + e * m : Nat) : Int) by omega), nF, oS]
      · refine ⟨((lo : Int), (m : Int), ⟨h, h.length, h.length⟩), ?_, lo, m, rfl, q1, by omega, by omega, fun t ht hv => ?_, by omega⟩
        · simp only [g70_b1, fI', w1, fB, ltT (show ((lo + 1 : Nat) : Int) < (hi : Int) by omega), cT, cF, w2, w3, w4, mC, hl, pS, iS, w5, w6, ltT (show (n : Int) < ((A m + e * m : Nat) : Int) by omega), nT, oS]
        · rcases Nat.lt_or_ge t m with h | h
          · exact h
          · exfalso
            rcases Nat.eq_or_lt_of_le h with h2 | h2
            · rw [← h2] at hv; exact hx hv
            · have := mono ht h2; omega
    · refine .inr ⟨_, ?_, lo, rfl, fin q1 q2 q3 q4 (by omega)⟩
      simp only [g70_b1, fI', w1, fB, ltF (show ¬ ((lo + 1 : Nat) : Int) < (hi : Int) by omega), cF]
  · rintro s ⟨lo, hi, rfl, q1, q2, q3, q4, q5⟩
    have w1 : wr .i64 ((lo : Int) + 1) = ((lo + 1 : Nat) : Int) := by rw [wr_id' (by omega) (by omega)]; omega
    have e1 : (2 : Nat) ^ (61 - 61) = 1 := by decide
    rw [e1] at q5
    refine ⟨_, ?_, lo, rfl, fin q1 q2 q3 q4 (by omega)⟩
    simp only [g70_b1, fI', w1, fB, ltF (show ¬ ((lo + 1 : Nat) : Int) < (hi : Int) by omega), cF]
  obtain ⟨r, hl, lo, rfl, h1, h2⟩ := key
  exact ⟨lo, hl, h1, h2⟩
theorem partner70 {n : Nat} (hn : n ≤ big) : callX F1 ro 70 [.i .i64 (n : Int)] h = some (.i .i64 (P n : Int), h, h.length, h.length) := by
  have hbig : big = 1152921504606846976 := rfl
  have e1 : wr .i64 ((n : Int) + 1) = ((n + 1 : Nat) : Int) := by rw [wr_id' (by omega) (by omega)]; omega
  obtain ⟨lo0, s0, a0, b0⟩ := search70 (ro := ro) (h := h) (e := 0) hn (by omega)
  obtain ⟨lo1, s1, a1, b1⟩ := search70 (ro := ro) (h := h) (e := 1) hn (by omega)
  have hA0 := A_lt2 (k := lo0) (by omega)
  have hA1 := A_lt2 (k := lo1) (by omega)
  have c0 := cp0 (lower67 (ro := ro) (h := h) (show lo0 ≤ big by omega))
  have c1 := cp0 (lower67 (ro := ro) (h := h) (show lo1 ≤ big by omega))
  have z0 : ((0 : Nat) : Int) = 0 := rfl
  have z1 : ((1 : Nat) : Int) = 1 := rfl
  rw [z0] at s0
  rw [z1] at s1
  have w0 : wr .i64 ((A lo0 : Int) + (lo0 : Int)) = ((A lo0 + lo0 : Nat) : Int) := by rw [← Int.natCast_add, lt64 (by omega)]
  have w1 : wr .i64 ((A lo1 : Int) + (lo1 : Int)) = ((A lo1 + lo1 : Nat) : Int) := by rw [← Int.natCast_add, lt64 (by omega)]
  have d01 : eqI (0 : Int) 1 = false := eqI_ne (by decide)
  have d10 : eqI (1 : Int) 0 = false := eqI_ne (by decide)
  have x1 : wr .i64 ((0 : Int) + 1) = 1 := wr_id' (by omega) (by omega)
  have key : ∃ r, loopX (fun s : Int × Mm => g70_b0 (meansX F1 ro) ro (n : Int) s.1 s.2) (0, ⟨h, h.length, h.length⟩) = some r ∧ r = .inr ((P n : Int), (⟨h, h.length, h.length⟩ : Mm)) := by
    refine loop_exit 1 (fun j s => s = ((j : Int), (⟨h, h.length, h.length⟩ : Mm)) ∧ (j = 1 → ∀ t, t ≤ n → A t ≠ n)) _ ?_ ?_ 1 0 _ (by omega) ⟨rfl, fun h => by omega⟩
    · rintro j s hj ⟨rfl, -⟩
      have hj0 : j = 0 := by omega
      subst hj0
      by_cases e : A lo0 = n
      · refine .inr ⟨_, ?_, rfl⟩
        have hp := P_pair (k := lo0) (by omega) (by omega)
        rw [e] at hp
        have hp2 : ((A lo0 + lo0 : Nat) : Int) = (P n : Int) := by rw [hp, e]
        have ee : eqI (A lo0 : Int) (n : Int) = true := by rw [e]; exact eqI_self _
        simp only [z0, g70_b0, fB, ltT (show (0 : Int) < 2 by decide), cT, fI', e1, meansX_loop, s0, oS, mC, c0, pS, iS, eqI_self, ee, w0, hp2]
      · refine .inl ⟨_, ?_, rfl, fun _ t ht hv => ?_⟩
        · have ee : eqI (A lo0 : Int) (n : Int) = false := eqI_ne (by omega)
          simp only [z0, g70_b0, fB, ltT (show (0 : Int) < 2 by decide), cT, cF, fI', e1, meansX_loop, s0, oS, mC, c0, pS, iS, eqI_self, ee, d01, x1]
          rfl
        · have := b0 t ht (by rw [Nat.zero_mul]; exact hv)
          rw [this] at hv
          exact e hv
    · rintro s ⟨rfl, hno⟩
      refine ⟨_, ?_, rfl⟩
      obtain ⟨t, ht, hv | hv⟩ := cover hn
      · exact absurd hv (hno rfl t ht)
      have htl := b1 t ht (by rw [Nat.one_mul]; exact hv)
      rw [htl] at hv
      have hp := P_pair (k := lo1) (by omega) (by omega)
      rw [hv] at hp
      have hp2 := P_symm (a := A lo1) (by omega) hn hp
      have ee : eqI ((A lo1 + lo1 : Nat) : Int) (n : Int) = true := by rw [hv]; exact eqI_self _
      have hp3 : (A lo1 : Int) = (P n : Int) := by rw [hp2]
      rw [z1]
      simp only [g70_b0, fB, ltT (show (1 : Int) < 2 by decide), cT, cF, fI', e1, meansX_loop, s1, oS, mC, c1, pS, iS, eqI_self, d10, w1, ee]
      rw [hp3]
  obtain ⟨r, hl, rfl⟩ := key
  refine g70_ok (meansX_ok F1 ro) rfl ?_
  unfold g70
  simp only [meansX_loop, hl, oS, tA]
  exact fin_pure rfl
end
end Go.Proofs.Ytobmcofkcfifkaa.T

/- Pair, Lost, Move -/
open Go.Vm
set_option linter.unusedVariables false
namespace Go.Proofs.Ytobmcofkcfifkaa.T
open Go

section
variable {ro : List ABlk} {h H : Heap}
theorem pair34 {k : Int} : callX F1 ro 34 [.i .i64 k] h = some (ret3 (pairV k), h, h.length, h.length) := by
  refine g34_ok (meansX_ok F1 ro) rfl ?_
  unfold g34 pairV
  have hbig : big = 1152921504606846976 := rfl
  simp only [fB]
  rcases Int.lt_or_le k 0 with h1 | h1
  · simp only [ltT h1, cT, oS, if_pos (Or.inl h1 : k < 0 ∨ 288230376151711744 < k), tA3]
    exact fin_pure rfl
  rcases Int.lt_or_le 288230376151711744 k with h2 | h2
  · simp only [ltF (show ¬ k < 0 by omega), ltT h2, cF, cT, oS, if_pos (Or.inr h2 : k < 0 ∨ 288230376151711744 < k), tA3]
    exact fin_pure rfl
  obtain ⟨n, rfl⟩ := Int.eq_ofNat_of_zero_le h1
  have hA := A_small (k := n) (by omega)
  have e2 : wr .i64 ((A n : Int) + (n : Int)) = (A n : Int) + (n : Int) := wr_id' (by omega) (by omega)
  simp only [ltF (show ¬ (n : Int) < 0 by omega), ltF (show ¬ 288230376151711744 < (n : Int) by omega), cF, oS, if_neg (show ¬ ((n : Int) < 0 ∨ 288230376151711744 < (n : Int)) by omega), mC, cp0 (lower67 (ro := ro) (h := h) (show n ≤ big by omega)), pS, iS, fI', e2, tA3, Int.toNat_natCast]
  exact fin_pure rfl
theorem lost36 {a b : Int} : callX F1 ro 36 [.i .i64 a, .i .i64 b] h = some (retB (lostV a b), h, h.length, h.length) := by
  refine g36_ok (meansX_ok F1 ro) rfl ?_
  unfold g36 lostV
  simp only [mC, cp0 (inR53 (ro := ro) (h := h) (n := a)), cp0 (inR53 (ro := ro) (h := h) (n := b)), pS, bS, fB]
  by_cases ha : inR a
  rotate_left
  · rw [dF ha, if_pos (fun e => ha e.1)]
    simp only [nF, cT, oS, tA2]
    exact fin_pure rfl
  by_cases hb : inR b
  rotate_left
  · rw [dT ha, dF hb, if_pos (fun e => hb e.2)]
    simp only [nF, nT, cT, cF, oS, tA2]
    exact fin_pure rfl
  rw [dT ha, dT hb, if_neg (fun e => e ⟨ha, hb⟩)]
  obtain ⟨x, rfl, hx⟩ := inR_nat ha
  obtain ⟨y, rfl, hy⟩ := inR_nat hb
  simp only [nT, cF, oS, cp0 (lost69 (ro := ro) (h := h) hx hy), pS, bS, tA2, Int.toNat_natCast]
  exact fin_pure rfl
def moveVG (a b : Int) : Int × Int × Int := if ¬ (inR a ∧ inR b) then (0, 0, 4) else moveV a.toNat b.toNat
theorem move37g {a b : Int} : callX F1 ro 37 [.i .i64 a, .i .i64 b] h = some (ret3 (moveVG a b), h, h.length, h.length) := by
  unfold moveVG
  by_cases hr : inR a ∧ inR b
  · obtain ⟨x, rfl, hx⟩ := inR_nat hr.1
    obtain ⟨y, rfl, hy⟩ := inR_nat hr.2
    rw [if_neg (fun e => e hr), Int.toNat_natCast, Int.toNat_natCast]
    exact move37 hx hy
  · refine g37_ok (meansX_ok F1 ro) rfl ?_
    obtain ⟨v, H, s1, s2, kp⟩ := two51 (ro := ro) (h := h) (x := a) (y := b) (Nat.le_refl _) (Nat.le_refl _)
    unfold g37
    rw [if_pos hr]
    simp only [s1, pS, mC, s2, bS, fB, dF hr, nF, cT, tA3]
    exact fin_keep kp rfl
theorem move38 {a b : Int} : callX F1 ro 38 [.i .i64 a, .i .i64 b] h = some (ret3 (moveVG a b), h, h.length, h.length) := by
  refine g38_ok (meansX_ok F1 ro) rfl ?_
  have hbig : big = 1152921504606846976 := rfl
  have htm : tm = 1152921504606846977 := rfl
  unfold g38 moveVG
  simp only [mC, cp0 (inR53 (ro := ro) (h := h) (n := a)), cp0 (inR53 (ro := ro) (h := h) (n := b)), pS, bS, fB]
  by_cases ha : inR a
  rotate_left
  · rw [dF ha, if_pos (fun e => ha e.1)]
    simp only [nF, cT, oS, tA3]
    exact fin_pure rfl
  by_cases hb : inR b
  rotate_left
  · rw [dT ha, dF hb, if_pos (fun e => hb e.2)]
    simp only [nF, nT, cT, cF, oS, tA3]
    exact fin_pure rfl
  rw [dT ha, dT hb, if_neg (fun e => e ⟨ha, hb⟩)]
  obtain ⟨x, rfl, hx⟩ := inR_nat ha
  obtain ⟨y, rfl, hy⟩ := inR_nat hb
  rw [Int.toNat_natCast, Int.toNat_natCast]
  simp only [nT, cF, oS, cp0 (lost69 (ro := ro) (h := h) hx hy), pS, bS]
  unfold moveV
  by_cases hl : P x = y
  · rw [dT hl, if_pos hl]
    simp only [cT, tA3]
    exact fin_pure rfl
  rw [dF hl, if_neg hl]
  simp only [cF, cp0 (partner70 (ro := ro) (h := h) hx), pS, iS]
  have hPx : P x ≤ 2305843009213693952 := by
    obtain ⟨t, ht, hv | hv⟩ := cover hx
    · have := P_pair (k := t) (by omega) (by omega)
      rw [hv] at this; omega
    · have hp := P_pair (k := t) (by omega) (by omega)
      rw [hv] at hp
      have := P_symm (a := A t) (by omega) hx hp
      omega
  by_cases h2 : P x < y
  · have w1 : wr .i64 ((y : Int) - (P x : Int)) = (y : Int) - (P x : Int) := wr_id' (by omega) (by omega)
    rw [if_pos h2]
    simp only [ltT (show (P x : Int) < (y : Int) by omega), cT, fI', w1, tA3]
    exact fin_pure rfl
  rw [if_neg h2]
  have h3 : y < P x := by omega
  obtain ⟨d, hd⟩ : ∃ d, d = max x y - min x y := ⟨_, rfl⟩
  have w2 : wr .i64 (((max x y : Nat) : Int) - ((min x y : Nat) : Int)) = (d : Int) := by rw [wr_id' (by omega) (by omega)]; omega
  have hA := A_lt2 (k := d) (by omega)
  have w3 : wr .i64 (((min x y : Nat) : Int) - (A d : Int)) = ((min x y : Nat) : Int) - (A d : Int) := wr_id' (by omega) (by omega)
  rw [← hd]
  obtain ⟨s1, s2, s3⟩ := sm66_A (k := d)
  have hPy : P y ≠ x := fun e => hl (P_symm hy hx e)
  -- the two ways to say the same
  have hB : (0 < ((min x y : Nat) : Int) - (sm66 d : Int) ↔ 0 < ((min x y : Nat) : Int) - (A d : Int)) ∧ (0 < ((min x y : Nat) : Int) - (A d : Int) → sm66 d = A d) := by
    refine ⟨⟨fun e => ?_, fun e => ?_⟩, fun e => s2 (by omega)⟩
    · have := s3 (by omega); omega
    · have := s2 (by omega); omega
  have tail : ∀ O : Int, (P y < x → O = (x : Int) - (P y : Int)) → (¬ P y < x → O = -1) →
      (bindO (cond (ltI 0 (((min x y : Nat) : Int) - (A d : Int))) (bindO (cond (ltI O 0) (some true) (some (ltI (((min x y : Nat) : Int) - (A d : Int)) O))) fun c => some c) (some false)) fun c63 =>
        bindO (α := (Int × Int)) (cond c63 (some (((min x y : Nat) : Int) - (A d : Int), ((min x y : Nat) : Int) - (A d : Int))) (some (O, 0))) fun x => finM h.length (.tup [.i .i64 x.1, .i .i64 x.2, .i .i64 0]) ⟨h, h.length, h.length⟩) =
      some (ret3 (if 0 < ((min x y : Nat) : Int) - (sm66 d : Int) ∧ ((x : Int) - (pt y : Int) < 0 ∨ ((min x y : Nat) : Int) - (sm66 d : Int) < (x : Int) - (pt y : Int)) then (((min x y : Nat) : Int) - (sm66 d : Int), ((min x y : Nat) : Int) - (sm66 d : Int), 0) else ((x : Int) - (pt y : Int), 0, 0)), h, h.length, h.length) := by
    intro O o1 o2
    by_cases hp : P y < x
    · have hO := o1 hp
      have hpt : pt y = P y := Nat.min_eq_left (by omega)
      rw [hpt, ← hO]
      by_cases g1 : 0 < ((min x y : Nat) : Int) - (A d : Int)
      · rw [hB.2 g1]
        by_cases g2 : ((min x y : Nat) : Int) - (A d : Int) < O
        · rw [if_pos ⟨g1, .inr g2⟩]
          simp only [ltT g1, cT, ltF (show ¬ O < 0 by omega), cF, oS, ltT g2]
          exact fin_pure rfl
        · rw [if_neg (fun e => e.2.elim (by omega) g2)]
          simp only [ltT g1, cT, ltF (show ¬ O < 0 by omega), cF, oS, ltF g2]
          exact fin_pure rfl
      · rw [if_neg (fun e => g1 (hB.1.1 e.1))]
        simp only [ltF g1, cF, oS]
        exact fin_pure rfl
    · have hO := o2 hp
      have hpt : (x : Int) - (pt y : Int) < 0 := by unfold pt; omega
      have g1 : 0 < ((min x y : Nat) : Int) - (A d : Int) := by
        have key : A d < min x y := by
          rw [hd]
          rcases Nat.lt_trichotomy x y with hab | hab | hab
          · rw [Nat.max_eq_right (by omega), Nat.min_eq_left (by omega)]; exact both_ok hx hab h3
          · subst hab
            rw [Nat.max_self, Nat.min_self, Nat.sub_self]
            have e2 : A 0 = 0 := rfl
            rw [e2]
            rcases Nat.eq_zero_or_pos x with rfl | h0
            · have : P 0 = 0 := rfl
              omega
            · exact h0
          · rw [Nat.max_eq_left (by omega), Nat.min_eq_right (by omega)]; exact both_ok hy hab (by omega)
        omega
      rw [hB.2 g1, if_pos ⟨g1, .inl hpt⟩, hO]
      simp only [ltT g1, cT, ltT (show (-1 : Int) < 0 by decide), oS]
      exact fin_pure rfl
  simp only [ltF (show ¬ (P x : Int) < (y : Int) by omega), cF, cp0 (partner70 (ro := ro) (h := h) hy), pS, iS, fI', mxT, mxF, w2, cp0 (lower67 (ro := ro) (h := h) (show d ≤ big by omega)), w3]
  by_cases hp : P y < x
  · have w4 : wr .i64 ((x : Int) - (P y : Int)) = (x : Int) - (P y : Int) := wr_id' (by omega) (by omega)
    simp only [ltT (show (P y : Int) < (x : Int) by omega), cT, oS, w4, tA3]
    exact tail _ (fun _ => rfl) (fun e => absurd hp e)
  · simp only [ltF (show ¬ (P y : Int) < (x : Int) by omega), cF, oS, tA3]
    exact tail _ (fun e => absurd e hp) (fun _ => rfl)
theorem law7 {k a b : Int} : callX F1 ro 7 [.i .i64 k, .i .i64 a, .i .i64 b] h = some (.b true, h, h.length, h.length) := by
  refine g7_ok (meansX_ok F1 ro) rfl ?_
  unfold g7
  simp only [mC, cp0 (pair33 (ro := ro) (h := h)), cp0 (pair34 (ro := ro) (h := h)), cp0 (lost35 (ro := ro) (h := h)), cp0 (lost36 (ro := ro) (h := h)), cp0 (move37g (ro := ro) (h := h)), cp0 (move38 (ro := ro) (h := h)), pS, r30, r31, r32, rB0, rB1, oS, iS, bS, fB, eqI_self, BEq.refl, nT, cT, cF, alv (ro := ro) (Nat.le_refl h.length) (Nat.le_refl h.length), tA]
  exact fin_pure rfl
end
end Go.Proofs.Ytobmcofkcfifkaa.T

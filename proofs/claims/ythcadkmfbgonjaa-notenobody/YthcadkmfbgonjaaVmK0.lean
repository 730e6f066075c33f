/- Contracts of the functions: what each of them answers. -/
import Derived.Test.YthcadkmfbgonjaaVmGa0
import Derived.Test.YthcadkmfbgonjaaVmFO
import Derived.Test.YthcadkmfbgonjaaVmGt
import Derived.Test.YthcadkmfbgonjaaVmAE
import Derived.Test.YthcadkmfbgonjaaVmAF
import Derived.Test.YthcadkmfbgonjaaRows
import Derived.WalkKit
import Derived.ProofKit
import Derived.OpenShut
import Derived.Carry
import Derived.Deep.Slices
import Derived.ChangeMaps5
import Derived.Test.YthcadkmfbgonjaaVmAG
/- From the small machine to the statement: structs and lists of structs whose fields are numbers and truth values, in memory that is only read. -/
open Go.Vm
set_option linter.unusedVariables false
namespace Go.Proofs.Ythcadkmfbgonjaa.T
open Go Go.RowKit Go.Deep Go.WideShapes Go.ChangeShapes

instance : Inhabited AVal := ⟨und⟩
section
variable {H : Type} {enc : TypeId × Value → H} {W : World} {sp : Nat → Bool} {held : Bool} {base : Nat}
end

/-- a list of elements of es cells each, in memory -/
def IsL (ro : List ABlk) (h : Heap) (v : AVal) (es : Nat) (X : List (List AVal)) : Prop :=
  (∀ x ∈ X, x.length = es) ∧ ((v = .nsl ∧ X = []) ∨ (v = .esl ∧ X = []) ∨ ∃ q cap blk, v = .sl q X.length cap ∧ rdB ro h q = some blk ∧ q.off + X.length * es ≤ blk.n ∧
    ∀ j, j < X.length → ∀ i, i < es → blk.c.get (q.off + j * es + i) = (X.getD j []).getD i und)
theorem flat_get {es : Nat} : ∀ {X : List (List AVal)}, (∀ x ∈ X, x.length = es) → ∀ {i j : Nat}, i < X.length → j < es → X.flatten.getD (i * es + j) und = (X.getD i []).getD j und
  | [], _, i, j, hi, _ => by simp at hi
  | x :: X, h, 0, j, hi, hj => by
    have hx := h x (by simp)
    simp only [List.flatten_cons, Nat.zero_mul, Nat.zero_add]
    rw [List.getD_eq_getElem?_getD, List.getElem?_append_left (by omega), ← List.getD_eq_getElem?_getD]
    rfl
  | x :: X, h, i + 1, j, hi, hj => by
    have hx := h x (by simp)
    simp only [List.flatten_cons]
    rw [List.getD_eq_getElem?_getD, List.getElem?_append_right (by rw [hx, Nat.add_mul]; omega), ← List.getD_eq_getElem?_getD]
    have := flat_get (X := X) (fun y hy => h y (by simp [hy])) (i := i) (by simpa using hi) hj
    rw [show (i + 1) * es + j - x.length = i * es + j by rw [hx, Nat.add_mul]; omega, this]
    simp
theorem flat_len {es : Nat} {X : List (List AVal)} (h : ∀ x ∈ X, x.length = es) : X.flatten.length = X.length * es := by
  induction X with
  | nil => simp
  | cons x X ih =>
    rw [List.flatten_cons, List.length_append, ih fun y hy => h y (by simp [hy]), h x (by simp), List.length_cons, Nat.add_mul]; omega

theorem own : ownKnob Try.prog.godebug = none := by kernel_rfl
theorem env_ok {W : World} {ro : List ABlk} {rl : Rl} (h : ∀ (i : Nat) (b : ABlk), ro[i]? = some b → ∃ x, rl[i]? = some x ∧ ∀ j, j < b.n → x.block < W.heap.size ∧ ∃ v', W.cell? (x.add j) = some v' ∧ VR rl [] (b.c.get j) v') :
    (Env.mk Try.prog W.heap.size W ro rl).Ok := ⟨fun i b hb => h i b hb, Nat.le_refl _⟩
/-- what lies in the read-only blocks -/
def RoP (W : World) (ro : List ABlk) (rl : Rl) : Prop := ∀ (i : Nat) (b : ABlk), ro[i]? = some b → ∃ x, rl[i]? = some x ∧ ∀ j, j < b.n → x.block < W.heap.size ∧ ∃ v', W.cell? (x.add j) = some v' ∧ ∀ y, VR y [] (b.c.get j) v'
theorem RoP.nil (W : World) : RoP W [] [] := fun i b hb => by simp at hb
/-- a cell of a sheet -/
structure Cl where
  l : Int
  hd : Bool
  deriving DecidableEq
/-- a change -/
structure Ch where
  k : Int
  a : Int
  l : Int
  w : Int
  deriving DecidableEq
def Cl.vs (c : Cl) : List AVal := [.i .u8 c.l, .b c.hd]
def Ch.vs (c : Ch) : List AVal := [.i .i64 c.k, .i .i64 c.a, .i .u8 c.l, .i .i64 c.w]
def Cl.fits (c : Cl) : Prop := 0 ≤ c.l ∧ c.l < 256
def Ch.fits (c : Ch) : Prop := inI64 c.k ∧ inI64 c.a ∧ (0 ≤ c.l ∧ c.l < 256) ∧ inI64 c.w
end Go.Proofs.Ythcadkmfbgonjaa.T

/- Blocks that a function makes for itself; loops whose state is known. -/
open Go.Vm
set_option linter.unusedVariables false
namespace Go.Proofs.Ythcadkmfbgonjaa.T
open Go

/-- a block of the heap that holds these values -/
def Holds (hp : Heap) (b : Nat) (vs : List AVal) : Prop := ∃ blk : ABlk, lget hp b = some (some blk) ∧ blk.n = vs.length ∧ ∀ j, j < vs.length → blk.c.get j = vs.getD j und
/-- what was there is still there -/
def Keep (h hp : Heap) : Prop := h.length ≤ hp.length ∧ ∀ i, i < h.length → hp[i]? = h[i]?

section
variable {ro : List ABlk} {h hp hp' : Heap} {b k e n l p : Nat} {vs : List AVal}
theorem Keep.refl (h : Heap) : Keep h h := ⟨Nat.le_refl _, fun _ _ => rfl⟩
theorem Keep.trans {h1 : Heap} (a : Keep h h1) (c : Keep h1 hp) : Keep h hp := ⟨Nat.le_trans a.1 c.1, fun i hi => by rw [c.2 i (by have := a.1; omega), a.2 i hi]⟩
theorem Keep.app (x : Heap) : Keep h (h ++ x) := ⟨by simp, fun i hi => List.getElem?_append_left hi⟩
theorem Keep.set (a : Keep h hp) (hb : h.length ≤ b) (x : Option ABlk) : Keep h (hp.set b x) := ⟨by simpa using a.1, fun i hi => by rw [List.getElem?_set_ne (by omega)]; exact a.2 i hi⟩
theorem Keep.eq (a : Keep h hp) : hp.take h.length = h := by
  refine List.ext_getElem? fun i => ?_
  rcases Nat.lt_or_ge i h.length with hi | hi
  · rw [List.getElem?_take_of_lt hi, a.2 i hi]
  · rw [List.getElem?_eq_none (by simp; omega), List.getElem?_eq_none hi]
theorem fin_keep {v : AVal} (a : Keep h hp) (hv : v.bel h.length = true) : finM h.length v ⟨hp, h.length, h.length⟩ = some (v, h, h.length, h.length) := by
  rw [fin_take hv, a.eq]
theorem Holds.lt (a : Holds hp b vs) : b < hp.length := by obtain ⟨blk, h1, -⟩ := a; exact lget_lt h1
theorem Holds.new (hp : Heap) (e : Nat) (vs : List AVal) : Holds (hp ++ [some (blkOf e vs)]) hp.length vs := ⟨_, lget_last _ _, rfl, fun j _ => get_blk e vs j⟩
theorem Holds.keep (a : Holds hp b vs) (hk : hp'[b]? = hp[b]?) : Holds hp' b vs := by
  obtain ⟨blk, h1, h2⟩ := a
  exact ⟨blk, by rw [lget_of hk]; exact h1, h2⟩
theorem Holds.ext (a : Holds hp b vs) (x : Heap) : Holds (hp ++ x) b vs := a.keep (List.getElem?_append_left a.lt)
theorem Holds.by (a : Holds hp b vs) (k : Keep hp hp') : Holds hp' b vs := a.keep (k.2 b a.lt)
theorem Holds.one (a : Holds hp b vs) (hk : k < vs.length) : ldM ro ⟨hp, l, p⟩ true 1 (.p (some ⟨false, b, 0 + k⟩)) = some (vs.getD k und) := by
  obtain ⟨blk, h1, h2, h3⟩ := a
  rw [ld_heap rfl h1 (by omega), ← h3 k hk, Nat.zero_add]
theorem row_list {t : Tr} : ∀ (vs : List AVal) (i : Nat), (∀ j, j < vs.length → t.get (i + j) = vs.getD j und) → t.row i vs.length = vs
  | [], i, _ => rfl
  | v :: vs, i, h => by
    simp only [List.length_cons, Tr.row]
    rw [show t.get i = v by simpa using h 0 (by simp), row_list vs (i + 1) fun j hj => by have := h (j + 1) (by simp; omega); rw [show i + 1 + j = i + (j + 1) by omega, this]; simp]
theorem Holds.rd (a : Holds hp b vs) (hn : n = vs.length) : Go.Vm.rd ro hp false n ⟨false, b, 0⟩ = some (.agg vs) := by
  subst hn
  obtain ⟨blk, h1, h2, h3⟩ := a
  have hc : Nat.ble (0 + vs.length) blk.n = true := by rw [Nat.ble_eq]; omega
  simp only [Go.Vm.rd, rdB_heap h1, cond_false, hc, cond_true]
  rw [row_list vs 0 fun j hj => by rw [Nat.zero_add]; exact h3 j hj]
theorem Holds.all (a : Holds hp b vs) (hn : n = vs.length) : ldM ro ⟨hp, l, p⟩ false n (.p (some ⟨false, b, 0⟩)) = some (.agg vs) := by
  simp only [ldM, a.rd hn]
theorem Holds.allA (a : Holds hp b vs) (hn : n = vs.length) : ldA ro hp false n (.p (some ⟨false, b, 0⟩)) = some (.agg vs) := by
  have h1 : (false || Nat.blt b hp.length) = true := by
    have := a.lt
    simpa [Nat.blt_eq] using this
  simp only [ldA, h1, cond_true, a.rd hn]
theorem spliceGet (t : Tr) : ∀ (vs : List AVal) (i j : Nat), (t.splice i vs).get j = if i ≤ j ∧ j < i + vs.length then vs.getD (j - i) und else t.get j
  | [], i, j => by simp [Tr.splice]; intro h1 h2; omega
  | v :: vs, i, j => by
    rw [Tr.splice, spliceGet (t.set i v) vs (i + 1) j, get_set]
    by_cases e : i = j
    · subst e
      rw [if_neg (by omega), if_pos rfl, if_pos (by simp)]; simp
    · by_cases h2 : i ≤ j ∧ j < i + (v :: vs).length
      · have h3 : i + 1 ≤ j ∧ j < i + 1 + vs.length := by simp at h2; omega
        rw [if_pos h2, if_pos h3]
        obtain ⟨q, rfl⟩ : ∃ q, j = i + 1 + q := ⟨j - (i + 1), by omega⟩
        rw [show i + 1 + q - i = q + 1 by omega, show i + 1 + q - (i + 1) = q by omega]
        simp
      · have h3 : ¬ (i + 1 ≤ j ∧ j < i + 1 + vs.length) := by simp at h2; omega
        rw [if_neg h2, if_neg h3, if_neg e]
theorem wrH_all {blk : ABlk} (hb : lget hp b = some (some blk)) (hn : vs.length ≤ blk.n) (ho : ones vs = true) : wrH hp ⟨false, b, 0⟩ vs = some (hp.set b (some { blk with c := blk.c.splice 0 vs })) := by
  have : (Nat.ble (0 + vs.length) blk.n && ones vs) = true := by rw [ho, Bool.and_true, Nat.ble_eq]; omega
  simp only [wrH, cond_false, hb, this, cond_true, lset_eq]
/-- a block is written whole -/
theorem Holds.st {vs' : List AVal} {v : AVal} (a : Holds hp b vs) (hv : v.cells = vs') (hn : n = vs'.length) (hl : vs'.length = vs.length) (ho : ones vs' = true) (hL : h.length ≤ b) (kp : Keep h hp) :
    ∃ hp', stepM ro ⟨hp, h.length, h.length⟩ (.st n (.c (.p (some ⟨false, b, 0⟩))) (.c v)) = some (und, ⟨hp', h.length, h.length⟩) ∧ Holds hp' b vs' ∧ hp'.length = hp.length ∧ (∀ i, i ≠ b → hp'[i]? = hp[i]?) ∧ Keep h hp' := by
  obtain ⟨blk, h1, h2, h3⟩ := a
  subst hv hn
  have hw := wrH_all h1 (vs := v.cells) (by omega) ho
  refine ⟨hp.set b (some { blk with c := blk.c.splice 0 v.cells }), ?_, ⟨_, lget_set h1 _, by simpa using (h2.trans hl.symm), fun j hj => ?_⟩, by simp, fun i hi => List.getElem?_set_ne (Ne.symm hi), kp.set hL _⟩
  · have hbq : Nat.beq v.cells.length v.cells.length = true := Nat.beq_refl _
    have e : (cond (nonp v.cells) h.length h.length) = h.length := by cases nonp v.cells <;> rfl
    simp only [stepM, stepK, opd, st_st, hbq, cond_true, hw, St.mm, Nat.min_eq_left hL, e]
  · show (blk.c.splice 0 v.cells).get j = _
    rw [spliceGet, if_pos (by omega)]; simp
theorem bx_ok (e : Nat) (hn : vs.length = n) : stepM ro ⟨hp, l, p⟩ (.bx e n (.c (.agg vs))) = some (.p (some ⟨false, hp.length, 0⟩), ⟨hp ++ [some (blkOf e vs)], l, p⟩) := by
  subst hn
  have hbq : Nat.beq vs.length vs.length = true := Nat.beq_refl _
  simp only [stepM, stepK, opd, st_bx, AVal.cells, hbq, cond_true, newB, St.mm]
end

theorem ext0 (a : AVal) (l : List AVal) : evP .e (.ext 0 (.c (.tup (a :: l)))) = some a := rfl
theorem ext1 (a b : AVal) (l : List AVal) : evP .e (.ext 1 (.c (.tup (a :: b :: l)))) = some b := rfl
theorem ext2 (a b c : AVal) (l : List AVal) : evP .e (.ext 2 (.c (.tup (a :: b :: c :: l)))) = some c := rfl
section
variable {ro : List ABlk} {h : Heap} {v : AVal}
theorem row_by {hp : Heap} {z : List Int} (a : IsRow ro h v z) (k : Keep h hp) : IsRow ro hp v z := by
  rw [take_eq k.1 k.2]; exact a.ext _
end

/-- one cell of a block is written -/
theorem Holds.set {ro : List ABlk} {h hp : Heap} {b k : Nat} {vs : List AVal} {v : AVal} (a : Holds hp b vs) (hk : k < vs.length) (hv : v.one = true) (hc : v.cells = [v]) (hn : nonp [v] = true) (hL : h.length ≤ b) (kp : Keep h hp) :
    ∃ hp', stepM ro ⟨hp, h.length, h.length⟩ (.st 1 (.c (.p (some ⟨false, b, 0 + k * 1⟩))) (.c v)) = some (und, ⟨hp', h.length, h.length⟩) ∧ Holds hp' b (vs.set k v) ∧ hp'.length = hp.length ∧ (∀ i, i ≠ b → hp'[i]? = hp[i]?) ∧ Keep h hp' := by
  obtain ⟨blk, h1, h2, h3⟩ := a
  have e : 0 + k * 1 = k := by omega
  refine ⟨hp.set b (some { blk with c := blk.c.set k v }), ?_, ⟨_, lget_set h1 _, by simpa using h2, fun j hj => ?_⟩, by simp, fun i hi => List.getElem?_set_ne (Ne.symm hi), kp.set hL _⟩
  · rw [e, st_heap h1 (by omega) hv hc hn, Nat.min_eq_left hL]
  · show (blk.c.set k v).get j = _
    rw [get_set]
    simp only [List.length_set] at hj
    by_cases e : k = j
    · subst e; simp [List.getD, hj]
    · rw [if_neg e, h3 j hj]
      simp [List.getD, List.getElem?_set_ne e]


/-- a loop whose state is known for each round -/
theorem loop_st {S R : Type} {b : S → Option (S ⊕ R)} (st : Nat → S) (n : Nat) (step : Nat → Option R) (r0 : R) (hout : b (st n) = some (.inr r0)) (hin : ∀ i, i < n → b (st i) = some (match step i with | some r => .inr r | none => .inl (st (i + 1)))) :
    ∀ (k i : Nat), i + k = n → loopX b (st i) = some ((firstS step k i).getD r0)
  | 0, i, hi => by
    simp only [Nat.add_zero] at hi
    subst hi
    exact loopX_out hout
  | k + 1, i, hi => by
    have h1 := hin i (by omega)
    unfold firstS
    cases hs : step i with
    | some r => rw [hs] at h1; exact loopX_out h1
    | none =>
      rw [hs] at h1
      exact loopX_on h1 (loop_st st n step r0 hout hin k (i + 1) (by omega))
theorem dT {p : Prop} [Decidable p] (h : p) : decide p = true := decide_eq_true h
theorem dF {p : Prop} [Decidable p] (h : ¬ p) : decide p = false := decide_eq_false h
theorem at_rowK {ro : List ABlk} {h : Heap} {v : AVal} {z : List Int} (hr : IsRow ro h v z) {i : Nat} (hi : i < z.length) : ∃ p, evP .e (.ixS 1 (.c v) (.c (.i .i64 (i : Int)))) = some p ∧ ∀ {hp : Heap} {l q : Nat}, Keep h hp → ldM ro ⟨hp, l, q⟩ true 1 p = some (.i .i64 (z.getD i 0)) ∧ ldA ro hp true 1 p = some (.i .i64 (z.getD i 0)) := by
  obtain ⟨p, h1, -⟩ := at_row (m := ⟨h, 0, 0⟩) rfl hr hi
  refine ⟨p, h1, fun {hp l q} k => ?_⟩
  obtain ⟨p', g1, g2, g3⟩ := at_row (m := ⟨hp, l, q⟩) rfl (row_by hr k) hi
  rw [h1] at g1; cases g1
  exact ⟨g2, g3⟩
theorem cp {F : Tab} {ro : List ABlk} {h : Heap} {f : Nat} {a : List AVal} {v : AVal} {l p : Nat} (e : callX F ro f a h = some (v, h, h.length, h.length)) (hl : l ≤ h.length) (hp : p ≤ h.length) : callM (callX F ro) ⟨h, l, p⟩ f a = some (v, ⟨h, l, p⟩) :=
  callM_pure e hl hp
theorem cp0 {F : Tab} {ro : List ABlk} {h : Heap} {f : Nat} {a : List AVal} {v : AVal} (e : callX F ro f a h = some (v, h, h.length, h.length)) : callM (callX F ro) ⟨h, h.length, h.length⟩ f a = some (v, ⟨h, h.length, h.length⟩) :=
  callM_pure e (Nat.le_refl _) (Nat.le_refl _)

end Go.Proofs.Ythcadkmfbgonjaa.T

/- Calls with plain arguments that answer a plain value, known beforehand: letters, places, what fits, comparisons. -/
open Go.Vm
set_option linter.unusedVariables false
namespace Go.Proofs.Ythcadkmfbgonjaa.T
open Go

def fnB : AVal → Bool
  | .fn _ [] [] => true
  | v => v.scalar
def plainB : AVal → Bool
  | .agg cs => cs.all fnB
  | v => fnB v
theorem vr_fnB {rl : Rl} {m m' : M} {v : AVal} {v' : Value} (hs : fnB v = true) (h : VR rl m v v') : VR rl m' v v' := by
  by_cases hv : ∃ f, v = .fn f [] []
  · obtain ⟨f, rfl⟩ := hv
    obtain ⟨a', c', rfl, l1, l2, -, -⟩ := h.inv_fn
    exact .fn _ _ _ _ _ l1 l2 (by simp) (by simp)
  · refine vr_scalar ?_ h
    unfold fnB at hs
    split at hs
    · rename_i f; exact absurd ⟨f, rfl⟩ hv
    · exact hs
theorem vr_plain {rl : Rl} {m m' : M} {v : AVal} {v' : Value} (hs : plainB v = true) (h : VR rl m v v') : VR rl m' v v' := by
  by_cases hv : ∃ cs, v = .agg cs
  · obtain ⟨cs, rfl⟩ := hv
    obtain ⟨cs', rfl, hl, h1⟩ := h.inv_agg
    exact .agg _ _ hl fun i u hu => vr_fnB (List.all_eq_true.1 hs u (List.mem_of_getElem? hu)) (h1 i u hu)
  · refine vr_fnB ?_ h
    unfold plainB at hs
    split at hs
    · rename_i cs; exact absurd ⟨cs, rfl⟩ hv
    · exact hs

theorem knownP_ok {E : Env} {call : Caller} (hc : CallOk E.bare call) {K : Nat → List AVal → Option AVal}
    (hK : ∀ f a v, K f a = some v → (∀ x ∈ a, plainB x = true) ∧ plainB v = true ∧ ∃ h' lw lp, call f a [] = some (v, h', lw, lp)) : CallOk E (knownS K) := by
  intro f args h u h2 lw2 lp2 hcl
  unfold knownS at hcl
  split at hcl
  · rename_i v hv
    obtain ⟨hs, hvs, h', lw, lp, h1⟩ := hK _ _ _ hv
    simp only [Option.some.injEq, Prod.mk.injEq] at hcl
    obtain ⟨rfl, rfl, rfl, rfl⟩ := hcl
    obtain ⟨c1, c2⟩ := hc _ _ _ _ _ _ _ h1
    refine ⟨c1, fun m w args' hr hl => ?_⟩
    have hr0 : HR E.bare [] [] w := ⟨hr.below, rfl, by simp, fun i b r K hl => by simp [Live] at hl, fun i j b b' r K K' hl => by simp [Live] at hl⟩
    refine Calls.mono (c2 [] w args' hr0 ⟨hl.1, fun i x hx => vr_plain (hs x (List.mem_of_getElem? hx)) (hl.2 i x hx)⟩) fun e w' hq => ?_
    obtain ⟨v', rfl, m', hvr, T⟩ := hq
    refine ⟨v', rfl, m, vr_plain hvs hvr, ?_⟩
    have keep : ∀ r, r < w.heap.size → w'.heap[r]? = w.heap[r]? := fun r hlt => T.keepo r hlt fun i b K hl => by simp [Live] at hl
    have lt : ∀ i b r K, Live m h i b r K → r < w.heap.size := fun i b r K hl => by
      exact hr.lt hl
    refine ⟨⟨[], by simp⟩, ⟨T.hr.below, hr.len, hr.real, fun i b r K hl => ?_, hr.inj⟩, T.size, Nat.le_refl _, Nat.le_refl _, fun i _ _ => ⟨rfl, fun b r K hl => keep r (lt _ _ _ _ hl)⟩,
      fun i _ _ b' hb => ⟨b', hb, rfl, ⟨rfl, rfl⟩, fun _ _ => .inr rfl⟩, fun r hlt _ => keep r hlt, fun i b r K hl _ => ⟨i, b, K, hl⟩⟩
    obtain ⟨hB, hc⟩ := hr.blk i b r K hl
    exact ⟨hB, by rw [keep r (lt _ _ _ _ hl)]; exact hc⟩
  · cases hcl

def cmpI (a b : Int) : Int := if a < b then -1 else if b < a then 1 else 0
def K1 (f : Nat) (args : List AVal) : Option AVal :=
  cond (Nat.beq f 76) (match args with
    | [.i .u8 x] => some (.b (decide (97 ≤ x ∧ x ≤ 122)))
    | _ => none) <|
  cond (Nat.beq f 77) (match args with
    | [.i .i64 a, .i .i64 x, .i .i64 b] => some (.b (decide (a ≤ x ∧ x ≤ b)))
    | _ => none) <|
  cond (Nat.beq f 92) (match args with
    | [] => some (.agg [.fn 96 [] [], .fn 96 [] [], .fn 96 [] [], .fn 96 [] [], .fn 97 [] [], .fn 96 [] [], .fn 96 [] [], .fn 98 [] [], .fn 96 [] []])
    | _ => none) <|
  cond (Nat.beq f 100) (match args with
    | [.i .i64 a, .i .i64 b] => some (.i .i64 (cmpI a b))
    | _ => none) <|
  cond (Nat.beq f 101) (match args with
    | [.i .u8 a, .i .u8 b] => some (.i .i64 (cmpI a b))
    | _ => none) none
abbrev F0 : Tab := ⟨F, noCall⟩
theorem beqE {f k : Nat} (h : Nat.beq f k = true) : f = k := Nat.eq_of_beq_eq_true h

section
variable {ov : Caller} {ro : List ABlk} {h : Heap}
theorem letter0 (x : Int) (ho : ov 76 [.i .u8 x] h = none) : callX ⟨F, ov⟩ ro 76 [.i .u8 x] h = some (.b (decide (97 ≤ x ∧ x ≤ 122)), h, h.length, h.length) := by
  refine g76_ok (meansX_ok _ ro) ho ?_
  unfold g76
  simp only [forceB_eq, ltI_eq, tupA]
  have e : decide (97 ≤ x ∧ x ≤ 122) = (!decide (x < 97) && !decide (122 < x)) := by rw [Bool.eq_iff_iff]; simp
  rw [e]
  cases decide (x < 97) <;> cases decide (122 < x) <;> exact fin_pure rfl
theorem from0 (a x b : Int) (ho : ov 77 [.i .i64 a, .i .i64 x, .i .i64 b] h = none) : callX ⟨F, ov⟩ ro 77 [.i .i64 a, .i .i64 x, .i .i64 b] h = some (.b (decide (a ≤ x ∧ x ≤ b)), h, h.length, h.length) := by
  refine g77_ok (meansX_ok _ ro) ho ?_
  unfold g77
  simp only [forceB_eq, ltI_eq, tupA]
  have e : decide (a ≤ x ∧ x ≤ b) = (!decide (x < a) && !decide (b < x)) := by rw [Bool.eq_iff_iff]; simp
  rw [e]
  cases decide (x < a) <;> cases decide (b < x) <;> exact fin_pure rfl
theorem nan0 (x : Int) (ho : ov 102 [.i .i64 x] h = none) : callX ⟨F, ov⟩ ro 102 [.i .i64 x] h = some (.b false, h, h.length, h.length) := by
  refine g102_ok (meansX_ok _ ro) ho ?_
  unfold g102
  simp only [forceB_eq, eqI_eq, tupA, beq_self_eq_true, Bool.not_true]
  exact fin_pure rfl
theorem nanb0 (x : Int) (ho : ov 103 [.i .u8 x] h = none) : callX ⟨F, ov⟩ ro 103 [.i .u8 x] h = some (.b false, h, h.length, h.length) := by
  refine g103_ok (meansX_ok _ ro) ho ?_
  unfold g103
  simp only [forceB_eq, eqI_eq, tupA, beq_self_eq_true, Bool.not_true]
  exact fin_pure rfl
theorem cmp0 (a b : Int) (ho : ov 100 [.i .i64 a, .i .i64 b] h = none) (h1 : ∀ x, ov 102 [.i .i64 x] h = none) : callX ⟨F, ov⟩ ro 100 [.i .i64 a, .i .i64 b] h = some (.i .i64 (cmpI a b), h, h.length, h.length) := by
  refine g100_ok (meansX_ok _ ro) ho ?_
  unfold g100
  simp only [meansX_call, cp0 (nan0 (ro := ro) a (h1 a)), cp0 (nan0 (ro := ro) b (h1 b)), bindP_some, asB_b, cond_false, forceB_eq, ltI_eq, tupA]
  unfold cmpI
  by_cases c1 : a < b
  · simp only [c1, decide_true, cond_true, if_true]; exact fin_pure rfl
  · by_cases c2 : b < a
    · simp only [c1, c2, decide_true, decide_false, cond_true, cond_false, if_true, if_false]; exact fin_pure rfl
    · simp only [c1, c2, decide_false, cond_false, if_false]; exact fin_pure rfl
theorem cmpb0 (a b : Int) (ho : ov 101 [.i .u8 a, .i .u8 b] h = none) (h1 : ∀ x, ov 103 [.i .u8 x] h = none) : callX ⟨F, ov⟩ ro 101 [.i .u8 a, .i .u8 b] h = some (.i .i64 (cmpI a b), h, h.length, h.length) := by
  refine g101_ok (meansX_ok _ ro) ho ?_
  unfold g101
  simp only [meansX_call, cp0 (nanb0 (ro := ro) a (h1 a)), cp0 (nanb0 (ro := ro) b (h1 b)), bindP_some, asB_b, cond_false, forceB_eq, ltI_eq, tupA]
  unfold cmpI
  by_cases c1 : a < b
  · simp only [c1, decide_true, cond_true, if_true]; exact fin_pure rfl
  · by_cases c2 : b < a
    · simp only [c1, c2, decide_true, decide_false, cond_true, cond_false, if_true, if_false]; exact fin_pure rfl
    · simp only [c1, c2, decide_false, cond_false, if_false]; exact fin_pure rfl
end
def isA (o : Option (AVal × Heap × Nat × Nat)) : Bool := match o with
  | some (.agg [.fn 96 [] [], .fn 96 [] [], .fn 96 [] [], .fn 96 [] [], .fn 97 [] [], .fn 96 [] [], .fn 96 [] [], .fn 98 [] [], .fn 96 [] []], _) => true
  | _ => false
theorem tab0 : ∃ h lw lp, callX F0 [] 92 [] [] = some (.agg [.fn 96 [] [], .fn 96 [] [], .fn 96 [] [], .fn 96 [] [], .fn 97 [] [], .fn 96 [] [], .fn 96 [] [], .fn 98 [] [], .fn 96 [] []], h, lw, lp) := by
  have h : ∃ r, callA F0 [] (exec F0 [] 60) 92 [] [] = some r ∧ isA (some r) = true := by
    have h1 : isA (callA F0 [] (exec F0 [] 60) 92 [] []) = true := by decide +kernel
    cases hc : callA F0 [] (exec F0 [] 60) 92 [] [] with
    | none => rw [hc] at h1; cases h1
    | some r => rw [hc] at h1; exact ⟨r, rfl, h1⟩
  obtain ⟨⟨v, hp, lw, lp⟩, h1, h2⟩ := h
  unfold isA at h2
  split at h2
  · rename_i e
    cases e
    exact ⟨_, _, _, callX_some.2 ⟨60, h1⟩⟩
  · cases h2

theorem K1_ok : ∀ f a v, K1 f a = some v → (∀ x ∈ a, plainB x = true) ∧ plainB v = true ∧ ∃ h' lw lp, callX F0 [] f a [] = some (v, h', lw, lp) := by
  intro f a v hK
  unfold K1 at hK
  cases e1 : Nat.beq f 76
  · cases e2 : Nat.beq f 77
    · cases e3 : Nat.beq f 92
      · cases e4 : Nat.beq f 100
        · cases e5 : Nat.beq f 101
          · simp only [e1, e2, e3, e4, e5, cond_false] at hK; cases hK
          · simp only [e1, e2, e3, e4, e5, cond_false, cond_true] at hK
            obtain rfl := beqE e5
            split at hK
            · cases hK; exact ⟨by simp [plainB, fnB, AVal.scalar], rfl, _, _, _, cmpb0 _ _ rfl fun _ => rfl⟩
            · cases hK
        · simp only [e1, e2, e3, e4, cond_false, cond_true] at hK
          obtain rfl := beqE e4
          split at hK
          · cases hK; exact ⟨by simp [plainB, fnB, AVal.scalar], rfl, _, _, _, cmp0 _ _ rfl fun _ => rfl⟩
          · cases hK
      · simp only [e1, e2, e3, cond_false, cond_true] at hK
        obtain rfl := beqE e3
        split at hK
        · cases hK; exact ⟨by simp, by decide, tab0⟩
        · cases hK
    · simp only [e1, e2, cond_false, cond_true] at hK
      obtain rfl := beqE e2
      split at hK
      · cases hK; exact ⟨by simp [plainB, fnB, AVal.scalar], rfl, _, _, _, from0 _ _ _ rfl⟩
      · cases hK
  · simp only [e1, cond_true] at hK
    obtain rfl := beqE e1
    split at hK
    · cases hK; exact ⟨by simp [plainB, fnB, AVal.scalar], rfl, _, _, _, letter0 _ rfl⟩
    · cases hK
theorem O1_ok {E : Env} (hE : E.Ok) (hm : E.P.follows .mixedOrders = true) (hF : FOk E.P F) : CallOk E (knownS K1) :=
  knownP_ok (callX_sound (E := E.bare) (Env.bare_ok hE) hm (F := F0) hF noCall_ok) K1_ok

/-- or: the first that is not 0 -/
def orI (a b c : Int) : Int := if a ≠ 0 then a else if b ≠ 0 then b else c
theorem or0 {ov : Caller} {ro : List ABlk} {h : Heap} {v : AVal} {a b c : Int} (hr : IsRow ro h v [a, b, c]) (ho : ov 99 [v] h = none) : callX ⟨F, ov⟩ ro 99 [v] h = some (.i .i64 (orI a b c), h, h.length, h.length) := by
  refine g99_ok (meansX_ok _ ro) ho ?_
  unfold g99
  simp only [len_row hr, bindO_some, asI_i, meansX_loop]
  have at' : ∀ i : Nat, i < 3 → ∃ p, evP .e (.ixS 1 (.c v) (.c (.i .i64 (i : Int)))) = some p ∧ ldM ro ⟨h, h.length, h.length⟩ true 1 p = some (.i .i64 ([a, b, c].getD i 0)) := fun i hi => by
    obtain ⟨p, h1, h2⟩ := at_rowK hr (i := i) hi
    exact ⟨p, h1, (h2 (Keep.refl h)).1⟩
  have step : ∀ i : Nat, i < 3 → g99_b0 (meansX ⟨F, ov⟩ ro) ro v 3 ⟨h, h.length, h.length⟩ (i : Int) = some (match (if [a, b, c].getD i 0 ≠ 0 then some ([a, b, c].getD i 0) else none) with | some r => .inr (.inr r) | none => .inl ((i + 1 : Nat) : Int)) := fun i hi => by
    obtain ⟨p, h1, h2⟩ := at' i hi
    have e : decide ((i : Int) < 3) = true := by simp; omega
    simp only [g99_b0, forceB_eq, ltI_eq, e, cond_true, h1, bindO_some, h2, asI_i, eqI_eq, forceI_eq]
    by_cases hz : [a, b, c].getD i 0 = 0
    · rw [hz]; simp only [beq_self_eq_true, Bool.not_true, cond_false]
      rw [wr_id' (by omega) (by omega)]
      rfl
    · have : ([a, b, c].getD i 0 == 0) = false := by simpa using hz
      rw [this, if_pos hz]; rfl
  have out : g99_b0 (meansX ⟨F, ov⟩ ro) ro v 3 ⟨h, h.length, h.length⟩ ((3 : Nat) : Int) = some (.inr (.inl ())) := by
    simp only [g99_b0, forceB_eq, ltI_eq]; simp
  have hl := loop_st (b := fun s => g99_b0 (meansX ⟨F, ov⟩ ro) ro v 3 ⟨h, h.length, h.length⟩ s) (fun i => (i : Int)) 3 (fun i => if [a, b, c].getD i 0 ≠ 0 then some (.inr ([a, b, c].getD i 0)) else none) (.inl ()) out (fun i hi => by
    rw [step i hi]
    by_cases hz : [a, b, c].getD i 0 = 0
    · rw [if_neg (by simpa using hz), if_neg (by simpa using hz)]
    · rw [if_pos hz, if_pos hz]) 3 0 rfl
  have e0 : ((0 : Nat) : Int) = 0 := rfl
  have e3 : (([a, b, c].length : Nat) : Int) = 3 := rfl
  simp only [e0] at hl
  rw [e3, hl]
  simp only [firstS, Nat.reduceAdd, List.getD_cons_zero, List.getD_cons_succ]
  unfold orI
  by_cases ha : a = 0
  · by_cases hb : b = 0
    · by_cases hc : c = 0
      · simp [ha, hb, hc, bindO, tupA]; exact fin_pure rfl
      · simp [ha, hb, hc, bindO, tupA]; exact fin_pure rfl
    · simp [ha, hb, bindO, tupA]; exact fin_pure rfl
  · simp [ha, bindO, tupA]; exact fin_pure rfl
end Go.Proofs.Ythcadkmfbgonjaa.T

/- What fits, and changes turned one against the other, known beforehand: reckoned in empty memory. -/
open Go.Vm
set_option linter.unusedVariables false
namespace Go.Proofs.Ythcadkmfbgonjaa.T
open Go

abbrev Ch.v (c : Ch) : AVal := .agg c.vs
abbrev Fa : Tab := ⟨F, knownS K1⟩
theorem knownA {K : Nat → List AVal → Option AVal} {f : Nat} {a : List AVal} {v : AVal} (h : K f a = some v) (hp : Heap) : knownS K f a hp = some (v, hp, hp.length, hp.length) := by
  unfold knownS; rw [h]
theorem callA1 {ro : List ABlk} {hp : Heap} {f : Nat} {a : List AVal} {v : AVal} (h : K1 f a = some v) : callX Fa ro f a hp = some (v, hp, hp.length, hp.length) := callX_ov (knownA h hp)

theorem seq_ch (ng : Bool) (c d : Ch) : evP .e (.seq ng [(0, false), (1, false), (2, false), (3, false)] (.c c.v) (.c d.v)) = some (.b (if ng then !decide (c = d) else decide (c = d))) := by
  have e : decide (c = d) = (decide (c.k = d.k) && (decide (c.a = d.a) && (decide (c.l = d.l) && decide (c.w = d.w)))) := by
    cases c; cases d; simp only [Ch.mk.injEq, Bool.decide_and]
  have hb : ∀ a b : Int, eqI a b = decide (a = b) := fun a b => by rw [eqI_eq]; rfl
  have hk : ∀ k, kEq k k = true := fun k => (kEq_iff k k).2 rfl
  simp only [evP, ev_seq, opd, Ch.vs, seqA, lget, hb, hk, cond_true]
  rw [e]
  cases decide (c.k = d.k) <;> cases decide (c.a = d.a) <;> cases decide (c.l = d.l) <;> cases decide (c.w = d.w) <;> cases ng <;> rfl

def fitP (c : Ch) (n : Int) : Bool :=
  if c.k = 1 then (decide (0 ≤ c.a ∧ c.a ≤ n) && decide (97 ≤ c.l ∧ c.l ≤ 122)) && decide (0 ≤ c.w ∧ c.w ≤ 4)
  else if c.k = 2 then (decide (0 ≤ c.a ∧ c.a ≤ wr .i64 (n - 1)) && decide (c.l = 0)) && decide (c.w = 0)
  else decide (c = ⟨0, 0, 0, 0⟩)
def fitR (c : Ch) (n : Int) : Bool :=
  if c.k = 0 then decide (c = ⟨0, 0, 0, 0⟩)
  else if c.k = 1 then decide (0 ≤ c.a ∧ c.a ≤ n ∧ 97 ≤ c.l ∧ c.l ≤ 122 ∧ 0 ≤ c.w ∧ c.w < 5)
  else if c.k = 2 then decide (0 ≤ c.a ∧ c.a < n ∧ c.l = 0 ∧ c.w = 0) else false
/- reading boxed changes in concrete memory -/
section
variable {ro : List ABlk} {l p : Nat} {x : Heap} {c : Ch}
theorem rd_all {b : Nat} (h : lget x b = some (some (blkOf 24 c.vs))) : ldM ro ⟨x, l, p⟩ false 4 (.p (some ⟨false, b, 0⟩)) = some c.v := by
  simp only [ldM, rd, rdB, cond_false, h]; rfl
theorem rd_k {b : Nat} (h : lget x b = some (some (blkOf 24 c.vs))) : ldM ro ⟨x, l, p⟩ true 1 (.p (some ⟨false, b, 0⟩)) = some (.i .i64 c.k) := by
  simp only [ldM, rd, rdB, cond_false, h]; rfl
theorem rd_a {b : Nat} (h : lget x b = some (some (blkOf 24 c.vs))) : ldM ro ⟨x, l, p⟩ true 1 (.p (some ⟨false, b, 1⟩)) = some (.i .i64 c.a) := by
  simp only [ldM, rd, rdB, cond_false, h]; rfl
theorem rd_l {b : Nat} (h : lget x b = some (some (blkOf 24 c.vs))) : ldM ro ⟨x, l, p⟩ true 1 (.p (some ⟨false, b, 2⟩)) = some (.i .u8 c.l) := by
  simp only [ldM, rd, rdB, cond_false, h]; rfl
theorem rd_w {b : Nat} (h : lget x b = some (some (blkOf 24 c.vs))) : ldM ro ⟨x, l, p⟩ true 1 (.p (some ⟨false, b, 3⟩)) = some (.i .i64 c.w) := by
  simp only [ldM, rd, rdB, cond_false, h]; rfl
end
theorem fa (b k : Nat) : evP .e (.faddr k (.c (.p (some ⟨false, b, 0⟩)))) = some (.p (some ⟨false, b, 0 + k⟩)) := rfl

/- steps that the kernel sees as such -/
theorem bindP_of {β : Type} {o : Option (AVal × Mm)} {v : AVal} {m : Mm} {f : AVal → Mm → Option β} (h : o = some (v, m)) : bindP o f = f v m := by rw [h]; rfl
theorem bindO_of {α β : Type} {o : Option α} {v : α} {f : α → Option β} (h : o = some v) : bindO o f = f v := by rw [h]; rfl
theorem pS {β : Type} (v : AVal) (m : Mm) (f : AVal → Mm → Option β) : bindP (some (v, m)) f = f v m := bindP_of (Eq.trans rfl rfl)
theorem oS {α β : Type} (v : α) (f : α → Option β) : bindO (some v) f = f v := bindO_of (Eq.trans rfl rfl)
theorem fS (b k : Nat) : evP .e (.faddr k (.c (.p (some ⟨false, b, 0⟩)))) = some (.p (some ⟨false, b, k⟩)) := by rw [fa, Nat.zero_add]
theorem cT {α : Type} (a b : α) : cond true a b = a := by rw [cond_true]
theorem cF {α : Type} (a b : α) : cond false a b = b := by rw [cond_false]
theorem fits0 (c : Ch) (n : Int) : ∃ h lw lp, callX Fa [] 62 [c.v, .i .i64 n] [] = some (.b (fitP c n), h, lw, lp) := by
  suffices h : ∃ r : AVal × Heap × Nat × Nat, g62 (meansX Fa []) [] c.v n ⟨[], 0, 0⟩ = some r ∧ r.1 = .b (fitP c n) by
    obtain ⟨⟨v, hp, lw, lp⟩, h1, h2⟩ := h
    cases h2
    exact ⟨_, _, _, g62_ok (meansX_ok _ _) rfl h1⟩
  unfold g62
  have s1 : stepM [] ⟨[], 0, 0⟩ (.bx 24 4 (.c c.v)) = some (.p (some ⟨false, 0, 0⟩), ⟨[some (blkOf 24 c.vs)], 0, 0⟩) := rfl
  have hb : lget [some (blkOf 24 c.vs)] 0 = some (some (blkOf 24 c.vs)) := rfl
  have k77 : ∀ a x b, callM (callX Fa []) ⟨[some (blkOf 24 c.vs)], 0, 0⟩ 77 [.i .i64 a, .i .i64 x, .i .i64 b] = some (.b (decide (a ≤ x ∧ x ≤ b)), ⟨[some (blkOf 24 c.vs)], 0, 0⟩) := fun a x b => cp (callA1 rfl) (Nat.zero_le _) (Nat.zero_le _)
  have k76 : ∀ x, callM (callX Fa []) ⟨[some (blkOf 24 c.vs)], 0, 0⟩ 76 [.i .u8 x] = some (.b (decide (97 ≤ x ∧ x ≤ 122)), ⟨[some (blkOf 24 c.vs)], 0, 0⟩) := fun x => cp (callA1 rfl) (Nat.zero_le _) (Nat.zero_le _)
  have hz : (fillA [(AVal.i IntKind.i64 0), (AVal.i IntKind.i64 0), (AVal.i IntKind.u8 0), (AVal.i IntKind.i64 0)] [((0, 1), (.i .i64 0))]).map AVal.agg = some (Ch.v ⟨0, 0, 0, 0⟩) := rfl
  have sq : evP .e (.seq false [(0, false), (1, false), (2, false), (3, false)] (.c c.v) (.c (Ch.v ⟨0, 0, 0, 0⟩))) = some (.b (decide (c = ⟨0, 0, 0, 0⟩))) := seq_ch false c _
  simp only [s1, bindP_some, fa, bindO_some, Nat.zero_add, rd_k hb, rd_a hb, rd_l hb, rd_w hb, rd_all hb, asI_i, forceB_eq, forceI_eq, eqI_eq, meansX_call, k77, k76, asB_b, hz, sq, tupA]
  unfold fitP
  by_cases e1 : c.k = 1
  · rw [if_pos e1]
    have : (c.k == 1) = true := by simpa using e1
    simp only [this, cond_true]
    cases decide (0 ≤ c.a ∧ c.a ≤ n)
    · exact ⟨_, fin_keep (h := []) ⟨by simp, by simp⟩ rfl, rfl⟩
    · simp only [cond_true, bindO_some]
      cases decide (97 ≤ c.l ∧ c.l ≤ 122)
      · exact ⟨_, fin_keep (h := []) ⟨by simp, by simp⟩ rfl, rfl⟩
      · simp only [cond_true]
        exact ⟨_, fin_keep (h := []) ⟨by simp, by simp⟩ rfl, rfl⟩
  · rw [if_neg e1]
    have : (c.k == 1) = false := by simpa using e1
    simp only [this, cond_false]
    by_cases e2 : c.k = 2
    · rw [if_pos e2]
      have : (c.k == 2) = true := by simpa using e2
      simp only [this, cond_true]
      cases decide (0 ≤ c.a ∧ c.a ≤ wr .i64 (n - 1))
      · exact ⟨_, fin_keep (h := []) ⟨by simp, by simp⟩ rfl, rfl⟩
      · simp only [cond_true, bindO_some]
        have e3 : (c.l == 0) = decide (c.l = 0) := rfl
        have e4 : (c.w == 0) = decide (c.w = 0) := rfl
        rw [e3, e4]
        cases decide (c.l = 0)
        · exact ⟨_, fin_keep (h := []) ⟨by simp, by simp⟩ rfl, rfl⟩
        · exact ⟨_, fin_keep (h := []) ⟨by simp, by simp⟩ rfl, rfl⟩
    · rw [if_neg e2]
      have : (c.k == 2) = false := by simpa using e2
      simp only [this, cond_false]
      exact ⟨_, fin_keep (h := []) ⟨by simp, by simp⟩ rfl, rfl⟩
theorem fitsR0 (c : Ch) (n : Int) : ∃ h lw lp, callX Fa [] 59 [c.v, .i .i64 n] [] = some (.b (fitR c n), h, lw, lp) := by
  suffices h : ∃ r : AVal × Heap × Nat × Nat, g59 (meansX Fa []) [] c.v n ⟨[], 0, 0⟩ = some r ∧ r.1 = .b (fitR c n) by
    obtain ⟨⟨v, hp, lw, lp⟩, h1, h2⟩ := h
    cases h2
    exact ⟨_, _, _, g59_ok (meansX_ok _ _) rfl h1⟩
  unfold g59
  have s1 : stepM [] ⟨[], 0, 0⟩ (.bx 24 4 (.c c.v)) = some (.p (some ⟨false, 0, 0⟩), ⟨[some (blkOf 24 c.vs)], 0, 0⟩) := rfl
  have hb : lget [some (blkOf 24 c.vs)] 0 = some (some (blkOf 24 c.vs)) := rfl
  have hz : (fillA [(AVal.i IntKind.i64 0), (AVal.i IntKind.i64 0), (AVal.i IntKind.u8 0), (AVal.i IntKind.i64 0)] []).map AVal.agg = some (Ch.v ⟨0, 0, 0, 0⟩) := rfl
  have sq : evP .e (.seq false [(0, false), (1, false), (2, false), (3, false)] (.c c.v) (.c (Ch.v ⟨0, 0, 0, 0⟩))) = some (.b (decide (c = ⟨0, 0, 0, 0⟩))) := seq_ch false c _
  simp only [s1, bindP_some, fa, bindO_some, Nat.zero_add, rd_k hb, rd_a hb, rd_l hb, rd_w hb, rd_all hb, asI_i, forceB_eq, eqI_eq, ltI_eq, asB_b, hz, sq, tupA]
  have fin : ∀ b : Bool, finM ([] : Heap).length (.b b) ⟨[some (blkOf 24 c.vs)], 0, 0⟩ = some (.b b, [], 0, 0) := fun b => fin_keep (h := []) ⟨by simp, by simp⟩ rfl
  have hn : ([] : Heap).length = 0 := rfl
  rw [hn] at fin
  unfold fitR
  by_cases e0 : c.k = 0
  · rw [if_pos e0]
    have : (c.k == 0) = true := by simpa using e0
    simp only [this, cond_true]
    exact ⟨_, fin _, rfl⟩
  rw [if_neg e0]
  have : (c.k == 0) = false := by simpa using e0
  simp only [this, cond_false]
  by_cases e1 : c.k = 1
  · rw [if_pos e1]
    have : (c.k == 1) = true := by simpa using e1
    simp only [this, cond_true]
    have e : decide (0 ≤ c.a ∧ c.a ≤ n ∧ 97 ≤ c.l ∧ c.l ≤ 122 ∧ 0 ≤ c.w ∧ c.w < 5) = (!decide (c.a < 0) && (!decide (n < c.a) && (!decide (c.l < 97) && (!decide (122 < c.l) && (!decide (c.w < 0) && decide (c.w < 5)))))) := by rw [Bool.eq_iff_iff]; simp
    rw [e]
    cases decide (c.a < 0) <;> cases decide (n < c.a) <;> cases decide (c.l < 97) <;> cases decide (122 < c.l) <;> cases decide (c.w < 0) <;> exact ⟨_, fin _, rfl⟩
  · rw [if_neg e1]
    have : (c.k == 1) = false := by simpa using e1
    simp only [this, cond_false]
    by_cases e2 : c.k = 2
    · rw [if_pos e2]
      have : (c.k == 2) = true := by simpa using e2
      simp only [this, cond_true]
      have e : decide (0 ≤ c.a ∧ c.a < n ∧ c.l = 0 ∧ c.w = 0) = (!decide (c.a < 0) && (decide (c.a < n) && ((c.l == 0) && (c.w == 0)))) := by rw [Bool.eq_iff_iff]; simp
      rw [e]
      cases decide (c.a < 0) <;> cases decide (c.a < n) <;> cases (c.l == 0) <;> exact ⟨_, fin _, rfl⟩
    · rw [if_neg e2]
      have : (c.k == 2) = false := by simpa using e2
      simp only [this, cond_false]
      exact ⟨_, fin _, rfl⟩
end Go.Proofs.Ythcadkmfbgonjaa.T

/- One change turned against another, by the program and by the reference: the same. -/
open Go.Vm
set_option linter.unusedVariables false
namespace Go.Proofs.Ythcadkmfbgonjaa.T
open Go

def upC (c : Ch) : Ch := ⟨c.k, wr .i64 (c.a + 1), c.l, c.w⟩
def putP (c o : Ch) : Ch := if o.a < c.a ∨ (o.a = c.a ∧ (o.w < c.w ∨ (o.w = c.w ∧ o.l < c.l))) then upC c else c
def hideP (c o : Ch) : Ch := if o.a ≤ c.a then upC c else c
/-- a change turned against another one -/
def turnP (c o : Ch) : Ch := if o.k ≠ 1 ∨ c.k = 0 then c else if o.a < c.a ∨ (o.a = c.a ∧ (c.k = 2 ∨ o.w < c.w ∨ (o.w = c.w ∧ o.l < c.l))) then upC c else c

abbrev zC : List AVal := [(AVal.i IntKind.i64 0), (AVal.i IntKind.i64 0), (AVal.i IntKind.u8 0), (AVal.i IntKind.i64 0)]
abbrev X0 (c o : Ch) : Heap := [some (blkOf 24 c.vs), some (blkOf 24 o.vs), some (blkOf 24 zC)]
/-- the result written, and given -/
theorem out0 (a o r : Ch) : ∃ hp, stepM [] ⟨X0 a o, 0, 0⟩ (.st 4 (.c (.p (some ⟨false, 2, 0⟩))) (.c r.v)) = some (und, ⟨hp, 0, 0⟩) ∧ ldM [] ⟨hp, 0, 0⟩ false 4 (.p (some ⟨false, 2, 0⟩)) = some r.v := ⟨_, rfl, rfl⟩
theorem fin0 (r : Ch) (hp : Heap) : finM ([] : Heap).length r.v ⟨hp, 0, 0⟩ = some (r.v, [], 0, 0) := fin_keep (h := []) ⟨by simp, by simp⟩ rfl
abbrev Y0 (c o : Ch) (x : Int) : Heap := [some { blkOf 24 c.vs with c := (blkOf 24 c.vs).c.set 1 (.i .i64 x) }, some (blkOf 24 o.vs), some (blkOf 24 zC)]
theorem set0a (c o : Ch) (x : Int) : stepM [] ⟨X0 c o, 0, 0⟩ (.st 1 (.c (.p (some ⟨false, 0, 1⟩))) (.c (.i .i64 x))) = some (und, ⟨Y0 c o x, 0, 0⟩) := by
  have hb : lget (X0 c o) 0 = some (some (blkOf 24 c.vs)) := rfl
  rw [st_heap hb (show 1 < 4 by decide) rfl rfl rfl]
  rfl
theorem set0b (c o : Ch) (x : Int) : ldM [] ⟨Y0 c o x, 0, 0⟩ false 4 (.p (some ⟨false, 0, 0⟩)) = some (Ch.v ⟨c.k, x, c.l, c.w⟩) := by
  have hb : rdB [] (Y0 c o x) ⟨false, 0, 0⟩ = some { blkOf 24 c.vs with c := (blkOf 24 c.vs).c.set 1 (.i .i64 x) } := rfl
  simp only [ldM, rd, hb, cond_false]
  show (cond (Nat.ble (0 + 4) 4) (some (AVal.agg (((blkOf 24 c.vs).c.set 1 (.i .i64 x)).row 0 4))) none) = _
  simp only [Tr.row, get_set, get_blk, Ch.v, Ch.vs]
  rfl
theorem set0c (c o : Ch) (x : Int) (r : Ch) : ∃ hp, stepM [] ⟨Y0 c o x, 0, 0⟩ (.st 4 (.c (.p (some ⟨false, 2, 0⟩))) (.c r.v)) = some (und, ⟨hp, 0, 0⟩) ∧ ldM [] ⟨hp, 0, 0⟩ false 4 (.p (some ⟨false, 2, 0⟩)) = some r.v := by
  have hb : Holds (Y0 c o x) 2 zC := ⟨blkOf 24 zC, rfl, rfl, fun j _ => get_blk 24 zC j⟩
  obtain ⟨hp, h1, h2, -⟩ := hb.st (ro := []) (h := []) (v := r.v) (vs' := r.vs) (n := 4) rfl rfl rfl rfl (by simp) ⟨by simp, by simp⟩
  exact ⟨hp, h1, h2.all rfl⟩
theorem set0 (c o : Ch) (x : Int) : stepM [] ⟨X0 c o, 0, 0⟩ (.st 1 (.c (.p (some ⟨false, 0, 1⟩))) (.c (.i .i64 x))) = some (und, ⟨Y0 c o x, 0, 0⟩) ∧
    ldM [] ⟨Y0 c o x, 0, 0⟩ false 4 (.p (some ⟨false, 0, 0⟩)) = some (Ch.v ⟨c.k, x, c.l, c.w⟩) ∧
    ∀ r : Ch, ∃ hp, stepM [] ⟨Y0 c o x, 0, 0⟩ (.st 4 (.c (.p (some ⟨false, 2, 0⟩))) (.c r.v)) = some (und, ⟨hp, 0, 0⟩) ∧ ldM [] ⟨hp, 0, 0⟩ false 4 (.p (some ⟨false, 2, 0⟩)) = some r.v :=
  ⟨set0a c o x, set0b c o x, set0c c o x⟩

theorem turnR0 (c o : Ch) : ∃ h lw lp, callX Fa [] 67 [c.v, o.v] [] = some ((turnP c o).v, h, lw, lp) := by
  suffices h : ∃ r : AVal × Heap × Nat × Nat, g67 (meansX Fa []) [] c.v o.v ⟨[], 0, 0⟩ = some r ∧ r.1 = (turnP c o).v by
    obtain ⟨⟨v, hp, lw, lp⟩, h1, h2⟩ := h
    cases h2
    exact ⟨_, _, _, g67_ok (meansX_ok _ _) rfl h1⟩
  unfold g67
  have s1 : stepM [] ⟨[], 0, 0⟩ (.bx 24 4 (.c c.v)) = some (.p (some ⟨false, 0, 0⟩), ⟨[some (blkOf 24 c.vs)], 0, 0⟩) := rfl
  have s2 : stepM [] ⟨[some (blkOf 24 c.vs)], 0, 0⟩ (.bx 24 4 (.c o.v)) = some (.p (some ⟨false, 1, 0⟩), ⟨[some (blkOf 24 c.vs), some (blkOf 24 o.vs)], 0, 0⟩) := rfl
  have s3 : stepM [] ⟨[some (blkOf 24 c.vs), some (blkOf 24 o.vs)], 0, 0⟩ (.al 24 zC) = some (.p (some ⟨false, 2, 0⟩), ⟨X0 c o, 0, 0⟩) := rfl
  have hb : lget (X0 c o) 0 = some (some (blkOf 24 c.vs)) := rfl
  have hb1 : lget (X0 c o) 1 = some (some (blkOf 24 o.vs)) := rfl
  obtain ⟨hp1, o1, o2⟩ := out0 c o c
  simp only [s1, s2, s3, pS, fS, oS, rd_k hb, rd_a hb, rd_l hb, rd_w hb, rd_all hb, rd_k hb1, rd_a hb1, rd_l hb1, rd_w hb1, asI_i, forceB_eq, forceI_eq, eqI_eq, ltI_eq, tupA]
  have beq : ∀ a b : Int, (a == b) = decide (a = b) := fun _ _ => rfl
  simp only [beq]
  unfold turnP
  by_cases e1 : o.k ≠ 1 ∨ c.k = 0
  · rw [if_pos e1]
    have : (bindO (cond (!decide (o.k = 1)) (some true) (some (decide (c.k = 0)))) fun c13 : Bool => some c13) = some true := by
      rcases e1 with h | h
      · simp [h, bindO]
      · by_cases h2 : o.k = 1 <;> simp [h, h2, bindO]
    have e2 : (cond (!decide (o.k = 1)) (some true) (some (decide (c.k = 0)))) = some true := by
      rcases e1 with h | h
      · simp [h]
      · by_cases h2 : o.k = 1 <;> simp [h, h2]
    simp only [e2, bindO_some, cond_true]
    exact ⟨_, fin0 _ _, rfl⟩
  · rw [if_neg e1]
    have h1 : o.k = 1 := by
      by_cases h : o.k = 1
      · exact h
      · exact absurd (.inl h) e1
    have h2 : ¬ c.k = 0 := fun h => e1 (.inr h)
    simp only [h1, h2, decide_true, decide_false, Bool.not_true, cond_false, bindO_some]
    have hD : (if o.a < c.a ∨ (o.a = c.a ∧ (c.k = 2 ∨ o.w < c.w ∨ (o.w = c.w ∧ o.l < c.l))) then upC c else c) = cond (cond (decide (o.a = c.a)) (decide (c.k = 2) || (decide (o.w < c.w) || (decide (o.w = c.w) && decide (o.l < c.l)))) (decide (o.a < c.a))) (upC c) c := by
      by_cases ea : o.a = c.a
      · have hlt : ¬ (o.a < c.a) := by omega
        by_cases ek : c.k = 2
        · rw [if_pos (.inr ⟨ea, .inl ek⟩)]; simp [ea, ek]
        · by_cases ew : o.w < c.w
          · rw [if_pos (.inr ⟨ea, .inr (.inl ew)⟩)]; simp [ea, ew]
          · by_cases ew2 : o.w = c.w
            · by_cases el : o.l < c.l
              · rw [if_pos (.inr ⟨ea, .inr (.inr ⟨ew2, el⟩)⟩)]; simp [ea, ew2, el]
              · rw [if_neg (by omega)]; simp [ea, ek, ew2, el]
            · rw [if_neg (by omega)]; simp [ea, ek, ew, ew2]
      · by_cases el : o.a < c.a
        · rw [if_pos (.inl el)]; simp [ea, el]
        · rw [if_neg (by omega)]; simp [ea, el]
    rw [hD]
    obtain ⟨q1, q2, q3⟩ := set0 c o (wr .i64 (c.a + 1))
    obtain ⟨hp2, q4, q5⟩ := q3 (upC c)
    have e : Ch.v ⟨c.k, wr .i64 (c.a + 1), c.l, c.w⟩ = (upC c).v := rfl
    rw [e] at q2
    generalize decide (o.a = c.a) = b1
    generalize decide (c.k = 2) = b2
    generalize decide (o.w < c.w) = b3
    generalize decide (o.w = c.w) = b4
    generalize decide (o.l < c.l) = b5
    generalize decide (o.a < c.a) = b6
    have yes : ∃ r : AVal × Heap × Nat × Nat, (bindP (stepM [] ⟨X0 c o, 0, 0⟩ (.st 1 (.c (.p (some ⟨false, 0, 1⟩))) (.c (.i .i64 (wr .i64 (c.a + 1)))))) fun vn_1 m_6 =>
        bindO (ldM [] m_6 false 4 (.p (some ⟨false, 0, 0⟩))) fun v54 =>
        bindP (stepM [] m_6 (.st 4 (.c (.p (some ⟨false, 2, 0⟩))) (.c v54))) fun vn_2 m_7 =>
        bindO (ldM [] m_7 false 4 (.p (some ⟨false, 2, 0⟩))) fun vr_1 =>
        finM ([] : Heap).length vr_1 m_7) = some r ∧ r.1 = (upC c).v := by
      simp only [q1, bindP_some, q2, bindO_some, q4, q5]
      exact ⟨_, fin0 _ _, rfl⟩
    have no : ∃ r : AVal × Heap × Nat × Nat, (bindO (ldM [] ⟨X0 c o, 0, 0⟩ false 4 (.p (some ⟨false, 0, 0⟩))) fun v54 =>
        bindP (stepM [] ⟨X0 c o, 0, 0⟩ (.st 4 (.c (.p (some ⟨false, 2, 0⟩))) (.c v54))) fun vn_2 m_7 =>
        bindO (ldM [] m_7 false 4 (.p (some ⟨false, 2, 0⟩))) fun vr_1 =>
        finM ([] : Heap).length vr_1 m_7) = some r ∧ r.1 = c.v := by
      simp only [rd_all hb, bindO_some, o1, bindP_some, o2]
      exact ⟨_, fin0 _ _, rfl⟩
    simp only [q1, bindP_some, bindO_some, q2, q4, q5] at yes
    simp only [rd_all hb, bindP_some, bindO_some, o1, o2] at no
    cases b1
    · cases b6
      · simp only [cond_false, bindO_some, rd_all hb, o1, bindP_some, o2]; exact no
      · simp only [cond_false, cond_true, bindO_some, q1, bindP_some, q2, q4, q5]; exact yes
    · cases b2
      · cases b3
        · cases b4
          · simp only [cond_false, cond_true, bindO_some, rd_all hb, o1, bindP_some, o2, Bool.false_or, Bool.false_and]; exact no
          · cases b5
            · simp only [cond_false, cond_true, bindO_some, rd_all hb, o1, bindP_some, o2, Bool.false_or, Bool.true_and]; exact no
            · simp only [cond_false, cond_true, bindO_some, q1, bindP_some, q2, q4, q5, Bool.false_or, Bool.true_and]; exact yes
        · simp only [cond_false, cond_true, bindO_some, q1, bindP_some, q2, q4, q5, Bool.false_or, Bool.true_or]; exact yes
      · simp only [cond_true, bindO_some, q1, bindP_some, q2, q4, q5, Bool.true_or]; exact yes
theorem same0 (c o : Ch) : ∃ h lw lp, callX Fa [] 96 [c.v, o.v] [] = some (c.v, h, lw, lp) := by
  suffices h : ∃ r : AVal × Heap × Nat × Nat, g96 (meansX Fa []) [] c.v o.v ⟨[], 0, 0⟩ = some r ∧ r.1 = c.v by
    obtain ⟨⟨v, hp, lw, lp⟩, h1, h2⟩ := h
    cases h2
    exact ⟨_, _, _, g96_ok (meansX_ok _ _) rfl h1⟩
  unfold g96
  have s1 : stepM [] ⟨[], 0, 0⟩ (.bx 24 4 (.c c.v)) = some (.p (some ⟨false, 0, 0⟩), ⟨[some (blkOf 24 c.vs)], 0, 0⟩) := rfl
  have s2 : stepM [] ⟨[some (blkOf 24 c.vs)], 0, 0⟩ (.bx 24 4 (.c o.v)) = some (.p (some ⟨false, 1, 0⟩), ⟨[some (blkOf 24 c.vs), some (blkOf 24 o.vs)], 0, 0⟩) := rfl
  have s3 : stepM [] ⟨[some (blkOf 24 c.vs), some (blkOf 24 o.vs)], 0, 0⟩ (.al 24 zC) = some (.p (some ⟨false, 2, 0⟩), ⟨X0 c o, 0, 0⟩) := rfl
  have hb : lget (X0 c o) 0 = some (some (blkOf 24 c.vs)) := rfl
  obtain ⟨hp1, o1, o2⟩ := out0 c o c
  simp only [s1, s2, s3, bindP_some, bindO_some, rd_all hb, o1, o2, tupA]
  exact ⟨_, fin0 _ _, rfl⟩
theorem hide0 (c o : Ch) : ∃ h lw lp, callX Fa [] 98 [c.v, o.v] [] = some ((hideP c o).v, h, lw, lp) := by
  suffices h : ∃ r : AVal × Heap × Nat × Nat, g98 (meansX Fa []) [] c.v o.v ⟨[], 0, 0⟩ = some r ∧ r.1 = (hideP c o).v by
    obtain ⟨⟨v, hp, lw, lp⟩, h1, h2⟩ := h
    cases h2
    exact ⟨_, _, _, g98_ok (meansX_ok _ _) rfl h1⟩
  unfold g98
  have s1 : stepM [] ⟨[], 0, 0⟩ (.bx 24 4 (.c c.v)) = some (.p (some ⟨false, 0, 0⟩), ⟨[some (blkOf 24 c.vs)], 0, 0⟩) := rfl
  have s2 : stepM [] ⟨[some (blkOf 24 c.vs)], 0, 0⟩ (.bx 24 4 (.c o.v)) = some (.p (some ⟨false, 1, 0⟩), ⟨[some (blkOf 24 c.vs), some (blkOf 24 o.vs)], 0, 0⟩) := rfl
  have s3 : stepM [] ⟨[some (blkOf 24 c.vs), some (blkOf 24 o.vs)], 0, 0⟩ (.al 24 zC) = some (.p (some ⟨false, 2, 0⟩), ⟨X0 c o, 0, 0⟩) := rfl
  have hb : lget (X0 c o) 0 = some (some (blkOf 24 c.vs)) := rfl
  have hb1 : lget (X0 c o) 1 = some (some (blkOf 24 o.vs)) := rfl
  obtain ⟨hp1, o1, o2⟩ := out0 c o c
  simp only [s1, s2, s3, bindP_some, fa, bindO_some, Nat.zero_add, rd_a hb, rd_a hb1, asI_i, forceB_eq, forceI_eq, ltI_eq, tupA]
  unfold hideP
  by_cases e : o.a ≤ c.a
  · have e2 : (!decide (c.a < o.a)) = true := by simp; omega
    rw [if_pos e]
    obtain ⟨q1, q2, q3⟩ := set0 c o (wr .i64 (c.a + 1))
    obtain ⟨hp2, q4, q5⟩ := q3 (upC c)
    simp only [e2, cond_true, q1, bindP_some, bindO_some, q2]
    have e : Ch.v ⟨c.k, wr .i64 (c.a + 1), c.l, c.w⟩ = (upC c).v := rfl
    simp only [e, q4, bindP_some, q5, bindO_some]
    exact ⟨_, fin0 _ _, rfl⟩
  · have e2 : (!decide (c.a < o.a)) = false := by simp; omega
    rw [if_neg e]
    simp only [e2, cond_false, bindO_some, rd_all hb, o1, bindP_some, o2]
    exact ⟨_, fin0 _ _, rfl⟩
end Go.Proofs.Ythcadkmfbgonjaa.T

/- The program's turning, with its table of functions. -/
open Go.Vm
set_option linter.unusedVariables false
namespace Go.Proofs.Ythcadkmfbgonjaa.T
open Go

abbrev I3 (a b c : Int) : List AVal := [.i .i64 a, .i .i64 b, .i .i64 c]
abbrev X1 (c o : Ch) (a b d : Int) : Heap := [some (blkOf 24 c.vs), some (blkOf 24 o.vs), some (blkOf 24 zC), some (blkOf 3 (I3 a b d))]
abbrev Y1 (c o : Ch) (a b d x : Int) : Heap := [some { blkOf 24 c.vs with c := (blkOf 24 c.vs).c.set 1 (.i .i64 x) }, some (blkOf 24 o.vs), some (blkOf 24 zC), some (blkOf 3 (I3 a b d))]
theorem sl3 (c o : Ch) (a b d : Int) : stepM [] ⟨X0 c o, 3, 3⟩ (.bsl 3 1 [(AVal.i IntKind.i64 0)] 3 [((0, 1), .c (.i .i64 a)), ((1, 1), .c (.i .i64 b)), ((2, 1), .c (.i .i64 d))]) = some (.sl ⟨false, 3, 0⟩ 3 (.known 3), ⟨X1 c o a b d, 3, 3⟩) := by
  simp [stepM, stepK, st_bsl, rep, fillA, opd, AVal.cells, splice, newB, St.mm]
theorem row3 (c o : Ch) (a b d : Int) : IsRow [] (X1 c o a b d) (.sl ⟨false, 3, 0⟩ 3 (.known 3)) [a, b, d] := by
  refine .inr ⟨⟨false, 3, 0⟩, .known 3, blkOf 3 (I3 a b d), rfl, rfl, Nat.le_refl 3, fun j hj => ?_⟩
  rw [get_blk]
  match j, hj with
  | 0, _ => rfl
  | 1, _ => rfl
  | 2, _ => rfl
theorem outG {hp : Heap} (hb : Holds hp 2 zC) (r : Ch) : ∃ hp', stepM [] ⟨hp, 0, 0⟩ (.st 4 (.c (.p (some ⟨false, 2, 0⟩))) (.c r.v)) = some (und, ⟨hp', 0, 0⟩) ∧ ldM [] ⟨hp', 0, 0⟩ false 4 (.p (some ⟨false, 2, 0⟩)) = some r.v := by
  obtain ⟨hp', h1, h2, -⟩ := hb.st (ro := []) (h := []) (v := r.v) (vs' := r.vs) (n := 4) rfl rfl rfl rfl (by simp) ⟨by simp, by simp⟩
  exact ⟨hp', h1, h2.all rfl⟩
theorem set1a (c o : Ch) (a b d x : Int) : stepM [] ⟨X1 c o a b d, 0, 0⟩ (.st 1 (.c (.p (some ⟨false, 0, 1⟩))) (.c (.i .i64 x))) = some (und, ⟨Y1 c o a b d x, 0, 0⟩) := by
  have hb : lget (X1 c o a b d) 0 = some (some (blkOf 24 c.vs)) := rfl
  rw [st_heap hb (show 1 < 4 by decide) rfl rfl rfl]
  rfl
theorem set1b (c o : Ch) (a b d x : Int) : ldM [] ⟨Y1 c o a b d x, 0, 0⟩ false 4 (.p (some ⟨false, 0, 0⟩)) = some (Ch.v ⟨c.k, x, c.l, c.w⟩) := by
  have hb : rdB [] (Y1 c o a b d x) ⟨false, 0, 0⟩ = some { blkOf 24 c.vs with c := (blkOf 24 c.vs).c.set 1 (.i .i64 x) } := rfl
  simp only [ldM, rd, hb, cond_false]
  show (cond (Nat.ble (0 + 4) 4) (some (AVal.agg (((blkOf 24 c.vs).c.set 1 (.i .i64 x)).row 0 4))) none) = _
  simp only [Tr.row, get_set, get_blk, Ch.v, Ch.vs]
  rfl
theorem rdA_k {ro : List ABlk} {x : Heap} {c : Ch} {b : Nat} (h : lget x b = some (some (blkOf 24 c.vs))) : ldA ro x true 1 (.p (some ⟨false, b, 0⟩)) = some (.i .i64 c.k) := by rw [lda_heap h (show 0 < 4 by decide)]; rfl
theorem rdA_l {ro : List ABlk} {x : Heap} {c : Ch} {b : Nat} (h : lget x b = some (some (blkOf 24 c.vs))) : ldA ro x true 1 (.p (some ⟨false, b, 2⟩)) = some (.i .u8 c.l) := by rw [lda_heap h (show 2 < 4 by decide)]; rfl
theorem rdA_w {ro : List ABlk} {x : Heap} {c : Ch} {b : Nat} (h : lget x b = some (some (blkOf 24 c.vs))) : ldA ro x true 1 (.p (some ⟨false, b, 3⟩)) = some (.i .i64 c.w) := by rw [lda_heap h (show 3 < 4 by decide)]; rfl
theorem rdA_all {ro : List ABlk} {x : Heap} {c : Ch} {b : Nat} (h : lget x b = some (some (blkOf 24 c.vs))) : ldA ro x false 4 (.p (some ⟨false, b, 0⟩)) = some c.v := by
  have : Holds x b c.vs := ⟨blkOf 24 c.vs, h, rfl, fun j _ => get_blk 24 c.vs j⟩
  exact this.allA rfl

theorem or_cmp (c o : Ch) : (orI (cmpI o.a c.a) (cmpI o.w c.w) (cmpI o.l c.l) < 0) ↔ (o.a < c.a ∨ (o.a = c.a ∧ (o.w < c.w ∨ (o.w = c.w ∧ o.l < c.l)))) := by
  unfold orI cmpI
  by_cases a1 : o.a < c.a
  · simp [a1]
  · by_cases a2 : c.a < o.a
    · simp [a1, a2]; omega
    · have : o.a = c.a := by omega
      by_cases w1 : o.w < c.w
      · simp [this, w1]
      · by_cases w2 : c.w < o.w
        · simp [this, w1, w2]; omega
        · have hw : o.w = c.w := by omega
          by_cases l1 : o.l < c.l
          · simp [this, hw, l1]
          · by_cases l2 : c.l < o.l
            · simp [this, hw, l1, l2]
            · simp [this, hw, l1, l2]

theorem put0 (c o : Ch) : ∃ h lw lp, callX Fa [] 97 [c.v, o.v] [] = some ((putP c o).v, h, lw, lp) := by
  suffices h : ∃ r : AVal × Heap × Nat × Nat, g97 (meansX Fa []) [] c.v o.v ⟨[], 0, 0⟩ = some r ∧ r.1 = (putP c o).v by
    obtain ⟨⟨v, hp, lw, lp⟩, h1, h2⟩ := h
    cases h2
    exact ⟨_, _, _, g97_ok (meansX_ok _ _) rfl h1⟩
  unfold g97
  have s1 : stepM [] ⟨[], 0, 0⟩ (.bx 24 4 (.c c.v)) = some (.p (some ⟨false, 0, 0⟩), ⟨[some (blkOf 24 c.vs)], 0, 0⟩) := rfl
  have s2 : stepM [] ⟨[some (blkOf 24 c.vs)], 0, 0⟩ (.bx 24 4 (.c o.v)) = some (.p (some ⟨false, 1, 0⟩), ⟨[some (blkOf 24 c.vs), some (blkOf 24 o.vs)], 0, 0⟩) := rfl
  have s3 : stepM [] ⟨[some (blkOf 24 c.vs), some (blkOf 24 o.vs)], 0, 0⟩ (.al 24 zC) = some (.p (some ⟨false, 2, 0⟩), ⟨X0 c o, 0, 0⟩) := rfl
  have hb : lget (X0 c o) 0 = some (some (blkOf 24 c.vs)) := rfl
  have hb1 : lget (X0 c o) 1 = some (some (blkOf 24 o.vs)) := rfl
  have k100 : ∀ a b, callM (callX Fa []) ⟨X0 c o, 3, 3⟩ 100 [.i .i64 a, .i .i64 b] = some (.i .i64 (cmpI a b), ⟨X0 c o, 3, 3⟩) := fun a b => cp (callA1 rfl) (Nat.le_refl 3) (Nat.le_refl 3)
  have k101 : ∀ a b, callM (callX Fa []) ⟨X0 c o, 3, 3⟩ 101 [.i .u8 a, .i .u8 b] = some (.i .i64 (cmpI a b), ⟨X0 c o, 3, 3⟩) := fun a b => cp (callA1 rfl) (Nat.le_refl 3) (Nat.le_refl 3)
  have k99 : ∀ a b d, callM (callX Fa []) ⟨X1 c o a b d, 3, 3⟩ 99 [.sl ⟨false, 3, 0⟩ 3 (.known 3)] = some (.i .i64 (orI a b d), ⟨X1 c o a b d, 3, 3⟩) := fun a b d => cp (or0 (row3 c o a b d) rfl) (by simp) (by simp)
  have hbase : Mm.base ⟨X0 c o, 0, 0⟩ = ⟨X0 c o, 3, 3⟩ := rfl
  have hch : (!Nat.blt 3 (X0 c o).length) = true := rfl
  have hj : ∀ a b d, Mm.join ⟨X0 c o, 0, 0⟩ ⟨X1 c o a b d, 3, 3⟩ = ⟨X1 c o a b d, 0, 0⟩ := fun _ _ _ => rfl
  have cht : ∀ {β : Type} (f : Option β), chk true f = f := fun _ => rfl
  rw [bindP_of s1, bindP_of s2, bindP_of s3, hbase, oS]
  simp only [fS, oS, rd_a hb, rd_a hb1, asI_i, meansX_call]
  rw [bindP_of (k100 _ _)]
  simp only [asI_i, hch]
  rw [cht]
  simp only [rdA_w hb, rdA_w hb1, oS, asI_i]
  rw [bindP_of (k100 _ _)]
  simp only [asI_i, hch]
  rw [cht]
  simp only [rdA_l hb, rdA_l hb1, oS, asI_i]
  rw [bindP_of (k101 _ _)]
  simp only [asI_i]
  rw [bindP_of (sl3 c o _ _ _), bindP_of (k99 _ _ _)]
  simp only [asI_i, forceB_eq, ltI_eq, hj, tupA]
  have hx : lget (X1 c o (cmpI o.a c.a) (cmpI o.w c.w) (cmpI o.l c.l)) 0 = some (some (blkOf 24 c.vs)) := rfl
  unfold putP
  by_cases e : o.a < c.a ∨ (o.a = c.a ∧ (o.w < c.w ∨ (o.w = c.w ∧ o.l < c.l)))
  · rw [if_pos e, dT ((or_cmp c o).2 e)]
    have hs := set1a c o (cmpI o.a c.a) (cmpI o.w c.w) (cmpI o.l c.l) (wr .i64 (c.a + 1))
    have hr := set1b c o (cmpI o.a c.a) (cmpI o.w c.w) (cmpI o.l c.l) (wr .i64 (c.a + 1))
    obtain ⟨hp', q1, q2⟩ := outG (hp := Y1 c o (cmpI o.a c.a) (cmpI o.w c.w) (cmpI o.l c.l) (wr .i64 (c.a + 1))) ⟨blkOf 24 zC, rfl, rfl, fun j _ => get_blk 24 zC j⟩ (upC c)
    have ee : Ch.v ⟨c.k, wr .i64 (c.a + 1), c.l, c.w⟩ = (upC c).v := rfl
    rw [ee] at hr
    simp only [cT, rd_a hx, oS, asI_i, forceI_eq]
    simp only [bindP_of hs, oS]
    rw [bindO_of hr, bindP_of q1, bindO_of q2]
    exact ⟨_, fin0 _ _, rfl⟩
  · rw [if_neg e, dF (fun h => e ((or_cmp c o).1 h))]
    obtain ⟨hp', q1, q2⟩ := outG (hp := X1 c o (cmpI o.a c.a) (cmpI o.w c.w) (cmpI o.l c.l)) ⟨blkOf 24 zC, rfl, rfl, fun j _ => get_blk 24 zC j⟩ c
    simp only [cF, oS]
    rw [bindO_of (rd_all hx), bindP_of q1, bindO_of q2]
    exact ⟨_, fin0 _ _, rfl⟩

def asCh : AVal → Option Ch
  | .agg [.i .i64 k, .i .i64 a, .i .u8 l, .i .i64 w] => some ⟨k, a, l, w⟩
  | _ => none
theorem asCh_v {v : AVal} {c : Ch} (h : asCh v = some c) : v = c.v := by
  unfold asCh at h
  split at h
  · cases h; rfl
  · cases h
def two (f : Ch → Ch → Ch) (args : List AVal) : Option AVal :=
  match args with
  | [v, w] => match asCh v, asCh w with
    | some c, some o => some (f c o).v
    | _, _ => none
  | _ => none
def fitK (f : Ch → Int → Bool) (args : List AVal) : Option AVal :=
  match args with
  | [v, .i .i64 n] => (asCh v).map fun c => .b (f c n)
  | _ => none
theorem two_inv {f : Ch → Ch → Ch} {args : List AVal} {v : AVal} (h : two f args = some v) : ∃ c o : Ch, args = [c.v, o.v] ∧ v = (f c o).v := by
  unfold two at h
  split at h
  · split at h
    · rename_i c o h1 h2
      cases h
      exact ⟨c, o, by rw [asCh_v h1, asCh_v h2], rfl⟩
    · cases h
  · cases h
theorem fitK_inv {f : Ch → Int → Bool} {args : List AVal} {v : AVal} (h : fitK f args = some v) : ∃ (c : Ch) (n : Int), args = [c.v, .i .i64 n] ∧ v = .b (f c n) := by
  unfold fitK at h
  split at h
  · rw [Option.map_eq_some_iff] at h
    obtain ⟨c, h1, e⟩ := h
    exact ⟨c, _, by rw [asCh_v h1], e.symm⟩
  · cases h
def K2 (f : Nat) (args : List AVal) : Option AVal :=
  cond (Nat.beq f 59) (fitK fitR args) <| cond (Nat.beq f 62) (fitK fitP args) <| cond (Nat.beq f 67) (two turnP args) <|
  cond (Nat.beq f 96) (two (fun c _ => c) args) <| cond (Nat.beq f 97) (two putP args) <| cond (Nat.beq f 98) (two hideP args) none
theorem plain_v (c : Ch) : plainB c.v = true := rfl
theorem K2_ok : ∀ f a v, K2 f a = some v → (∀ x ∈ a, plainB x = true) ∧ plainB v = true ∧ ∃ h' lw lp, callX Fa [] f a [] = some (v, h', lw, lp) := by
  intro f a v hK
  unfold K2 at hK
  have t2 : ∀ {g : Ch → Ch → Ch} {k : Nat}, two g a = some v → (∀ c o : Ch, ∃ h lw lp, callX Fa [] k [c.v, o.v] [] = some ((g c o).v, h, lw, lp)) → (∀ x ∈ a, plainB x = true) ∧ plainB v = true ∧ ∃ h' lw lp, callX Fa [] k a [] = some (v, h', lw, lp) := fun h h2 => by
    obtain ⟨c, o, rfl, rfl⟩ := two_inv h
    exact ⟨by simp [plain_v], plain_v _, h2 c o⟩
  have t1 : ∀ {g : Ch → Int → Bool} {k : Nat}, fitK g a = some v → (∀ (c : Ch) (n : Int), ∃ h lw lp, callX Fa [] k [c.v, .i .i64 n] [] = some (.b (g c n), h, lw, lp)) → (∀ x ∈ a, plainB x = true) ∧ plainB v = true ∧ ∃ h' lw lp, callX Fa [] k a [] = some (v, h', lw, lp) := fun h h2 => by
    obtain ⟨c, n, rfl, rfl⟩ := fitK_inv h
    refine ⟨fun x hx => ?_, rfl, h2 c n⟩
    simp only [List.mem_cons, List.not_mem_nil, or_false] at hx
    rcases hx with rfl | rfl
    · exact plain_v c
    · rfl
  cases e1 : Nat.beq f 59
  · cases e2 : Nat.beq f 62
    · cases e3 : Nat.beq f 67
      · cases e4 : Nat.beq f 96
        · cases e5 : Nat.beq f 97
          · cases e6 : Nat.beq f 98
            · simp only [e1, e2, e3, e4, e5, e6, cond_false] at hK; cases hK
            · simp only [e1, e2, e3, e4, e5, e6, cond_false, cond_true] at hK
              obtain rfl := beqE e6
              exact t2 hK hide0
          · simp only [e1, e2, e3, e4, e5, cond_false, cond_true] at hK
            obtain rfl := beqE e5
            exact t2 hK put0
        · simp only [e1, e2, e3, e4, cond_false, cond_true] at hK
          obtain rfl := beqE e4
          exact t2 hK same0
      · simp only [e1, e2, e3, cond_false, cond_true] at hK
        obtain rfl := beqE e3
        exact t2 hK turnR0
    · simp only [e1, e2, cond_false, cond_true] at hK
      obtain rfl := beqE e2
      exact t1 hK fits0
  · simp only [e1, cond_true] at hK
    obtain rfl := beqE e1
    exact t1 hK fitsR0
abbrev Ob : Caller := orC (knownS K1) (knownS K2)
theorem O2_ok {E : Env} (hE : E.Ok) (hm : E.P.follows .mixedOrders = true) (hF : FOk E.P F) : CallOk E Ob :=
  or_ok (O1_ok hE hm hF) (knownP_ok (callX_sound (E := E.bare) (Env.bare_ok hE) hm (F := Fa) hF (O1_ok (Env.bare_ok hE) hm hF)) K2_ok)
end Go.Proofs.Ythcadkmfbgonjaa.T

/- The program's turning is the reference's; all that is known beforehand. -/
open Go.Vm
set_option linter.unusedVariables false
namespace Go.Proofs.Ythcadkmfbgonjaa.T
open Go Go.RowKit Go.Deep Go.WideShapes Go.ChangeShapes

abbrev Fb : Tab := ⟨F, Ob⟩
def kindOk (c : Ch) : Prop := c.k = 0 ∨ c.k = 1 ∨ c.k = 2
instance (c : Ch) : Decidable (kindOk c) := inferInstanceAs (Decidable (_ ∨ _ ∨ _))
theorem callB {ro : List ABlk} {hp : Heap} {f : Nat} {a : List AVal} {v : AVal} (h : K1 f a = some v) : callX Fb ro f a hp = some (v, hp, hp.length, hp.length) := callX_ov (by show orC (knownS K1) (knownS K2) f a hp = _; unfold orC; rw [knownA h hp])
theorem callB2 {ro : List ABlk} {hp : Heap} {f : Nat} {a : List AVal} {v : AVal} (h1 : K1 f a = none) (h : K2 f a = some v) : callX Fb ro f a hp = some (v, hp, hp.length, hp.length) := callX_ov (by
  have : knownS K1 f a hp = none := by unfold knownS; rw [h1]
  show orC (knownS K1) (knownS K2) f a hp = _; unfold orC; rw [this]; exact knownA h hp)
abbrev tabV : AVal := .agg [.fn 96 [] [], .fn 96 [] [], .fn 96 [] [], .fn 96 [] [], .fn 97 [] [], .fn 96 [] [], .fn 96 [] [], .fn 98 [] [], .fn 96 [] []]

theorem turn0 (c o : Ch) (hc : kindOk c) (ho : kindOk o) : ∃ h lw lp, callX Fb [] 66 [c.v, o.v] [] = some ((turnP c o).v, h, lw, lp) := by
  suffices h : ∃ r : AVal × Heap × Nat × Nat, g66 (meansX Fb []) [] c.v o.v ⟨[], 0, 0⟩ = some r ∧ r.1 = (turnP c o).v by
    obtain ⟨⟨v, hp, lw, lp⟩, h1, h2⟩ := h
    cases h2
    exact ⟨_, _, _, g66_ok (meansX_ok _ _) rfl h1⟩
  unfold g66
  have s1 : stepM [] ⟨[], 0, 0⟩ (.bx 24 4 (.c c.v)) = some (.p (some ⟨false, 0, 0⟩), ⟨[some (blkOf 24 c.vs)], 0, 0⟩) := rfl
  have s2 : stepM [] ⟨[some (blkOf 24 c.vs)], 0, 0⟩ (.bx 24 4 (.c o.v)) = some (.p (some ⟨false, 1, 0⟩), ⟨[some (blkOf 24 c.vs), some (blkOf 24 o.vs)], 0, 0⟩) := rfl
  have s3 : stepM [] ⟨[some (blkOf 24 c.vs), some (blkOf 24 o.vs)], 0, 0⟩ (.al 24 zC) = some (.p (some ⟨false, 2, 0⟩), ⟨X0 c o, 0, 0⟩) := rfl
  have hb : lget (X0 c o) 0 = some (some (blkOf 24 c.vs)) := rfl
  have hb1 : lget (X0 c o) 1 = some (some (blkOf 24 o.vs)) := rfl
  have hbase : Mm.base ⟨X0 c o, 0, 0⟩ = ⟨X0 c o, 3, 3⟩ := rfl
  have hch : (!Nat.blt 3 (X0 c o).length) = true := rfl
  have cht : ∀ {β : Type} (f : Option β), chk true f = f := fun _ => rfl
  have k92 : callM (callX Fb []) ⟨X0 c o, 3, 3⟩ 92 [] = some (tabV, ⟨X0 c o, 3, 3⟩) := cp (callB rfl) (Nat.le_refl 3) (Nat.le_refl 3)
  have k96 : callvM (callX Fb []) ⟨X0 c o, 3, 3⟩ (.fn 96 [] []) [c.v, o.v] = some (c.v, ⟨X0 c o, 3, 3⟩) := cp (ro := []) (h := X0 c o) (f := 96) (a := [c.v, o.v]) (callB2 rfl rfl) (Nat.le_refl 3) (Nat.le_refl 3)
  have k97 : callvM (callX Fb []) ⟨X0 c o, 3, 3⟩ (.fn 97 [] []) [c.v, o.v] = some ((putP c o).v, ⟨X0 c o, 3, 3⟩) := cp (ro := []) (h := X0 c o) (f := 97) (a := [c.v, o.v]) (callB2 rfl rfl) (Nat.le_refl 3) (Nat.le_refl 3)
  have k98 : callvM (callX Fb []) ⟨X0 c o, 3, 3⟩ (.fn 98 [] []) [c.v, o.v] = some ((hideP c o).v, ⟨X0 c o, 3, 3⟩) := cp (ro := []) (h := X0 c o) (f := 98) (a := [c.v, o.v]) (callB2 rfl rfl) (Nat.le_refl 3) (Nat.le_refl 3)
  have out : ∀ r : Ch, ∃ hp', stepM [] ⟨X0 c o, 3, 3⟩ (.st 4 (.c (.p (some ⟨false, 2, 0⟩))) (.c r.v)) = some (und, ⟨hp', 2, 3⟩) ∧ ldM [] ⟨hp', 0, 0⟩ false 4 (.p (some ⟨false, 2, 0⟩)) = some r.v := fun r => ⟨_, rfl, rfl⟩
  have hj : ∀ hp : Heap, Mm.join ⟨X0 c o, 0, 0⟩ ⟨hp, 2, 3⟩ = ⟨hp, 0, 0⟩ := fun _ => rfl
  -- the table's function, and what it answers
  have key : ∀ (f : Nat) (r : Ch), (∃ u, evP .e (.ixV 3 3 false (.c tabV) (.c (.i .i64 c.k))) = some u ∧ evP .e (.ixV 3 1 true (.c u) (.c (.i .i64 o.k))) = some (.fn f [] [])) → callvM (callX Fb []) ⟨X0 c o, 3, 3⟩ (.fn f [] []) [c.v, o.v] = some (r.v, ⟨X0 c o, 3, 3⟩) → turnP c o = r →
      ∃ r : AVal × Heap × Nat × Nat, g66 (meansX Fb []) [] c.v o.v ⟨[], 0, 0⟩ = some r ∧ r.1 = (turnP c o).v := by
    intro f r ⟨u, hu, hv⟩ hcall hr
    obtain ⟨hp', q1, q2⟩ := out r
    unfold g66
    rw [bindP_of s1, bindP_of s2, bindP_of s3, hbase, oS]
    simp only [meansX_call]
    rw [bindP_of k92]
    simp only [hch]
    rw [cht]
    simp only [fS, oS, rdA_k hb, rdA_k hb1, rdA_all hb, rdA_all hb1, asI_i]
    rw [bindO_of hu, bindO_of hv, bindP_of hcall, bindP_of q1, hj, bindO_of q2]
    simp only [tupA]
    exact ⟨_, fin0 _ _, by rw [hr]⟩
  unfold g66 at key
  rcases hc with hc | hc | hc
  · have ht : turnP c o = c := by unfold turnP; rw [if_pos (.inr hc)]
    refine key 96 c ?_ k96 ht
    rw [hc]
    rcases ho with ho | ho | ho <;> rw [ho] <;> exact ⟨_, rfl, rfl⟩
  · rcases ho with ho | ho | ho
    · exact key 96 c (by rw [hc, ho]; exact ⟨_, rfl, rfl⟩) k96 (by unfold turnP; rw [if_pos (.inl (by omega))])
    · refine key 97 (putP c o) (by rw [hc, ho]; exact ⟨_, rfl, rfl⟩) k97 ?_
      unfold turnP putP
      rw [if_neg (by omega)]
      by_cases h : o.a < c.a ∨ (o.a = c.a ∧ (o.w < c.w ∨ (o.w = c.w ∧ o.l < c.l)))
      · rw [if_pos h, if_pos (by omega)]
      · rw [if_neg h, if_neg (by omega)]
    · exact key 96 c (by rw [hc, ho]; exact ⟨_, rfl, rfl⟩) k96 (by unfold turnP; rw [if_pos (.inl (by omega))])
  · rcases ho with ho | ho | ho
    · exact key 96 c (by rw [hc, ho]; exact ⟨_, rfl, rfl⟩) k96 (by unfold turnP; rw [if_pos (.inl (by omega))])
    · refine key 98 (hideP c o) (by rw [hc, ho]; exact ⟨_, rfl, rfl⟩) k98 ?_
      unfold turnP hideP
      rw [if_neg (by omega)]
      by_cases h : o.a ≤ c.a
      · rw [if_pos h, if_pos (by omega)]
      · rw [if_neg h, if_neg (by omega)]
    · exact key 96 c (by rw [hc, ho]; exact ⟨_, rfl, rfl⟩) k96 (by unfold turnP; rw [if_pos (.inl (by omega))])

def turnK (args : List AVal) : Option AVal :=
  match args with
  | [v, w] => match asCh v, asCh w with
    | some c, some o => if kindOk c ∧ kindOk o then some (turnP c o).v else none
    | _, _ => none
  | _ => none
def K3 (f : Nat) (args : List AVal) : Option AVal := cond (Nat.beq f 66) (turnK args) none
theorem K3_ok : ∀ f a v, K3 f a = some v → (∀ x ∈ a, plainB x = true) ∧ plainB v = true ∧ ∃ h' lw lp, callX Fb [] f a [] = some (v, h', lw, lp) := by
  intro f a v hK
  unfold K3 at hK
  cases e1 : Nat.beq f 66
  · rw [e1] at hK; cases hK
  · rw [e1] at hK
    obtain rfl := beqE e1
    simp only [cond_true, turnK] at hK
    split at hK
    · split at hK
      · rename_i c o h1 h2
        split at hK
        · rename_i hk
          cases hK
          rw [asCh_v h1, asCh_v h2]
          exact ⟨by simp [plain_v], plain_v _, turn0 c o hk.1 hk.2⟩
        · cases hK
      · cases hK
    · cases hK
abbrev Oc : Caller := orC (known0 17 (.b true)) (orC Ob (knownS K3))
abbrev G1 : Tab := ⟨F, Oc⟩
/-- the call of the model: true, and below nothing has turned -/
theorem call_of1 {W : World} {ro : List ABlk} {rl : Rl} (hE : (Env.mk Try.prog W.heap.size W ro rl).Ok) {K : Nat} {vs : List AVal} {args : Array Value}
    (hv : LR rl [] vs args) {h' : Heap} {lw lp : Nat} (hc : callX G1 ro K vs [] = some (.b true, h', lw, lp)) : Calls Try.prog K args W fun e W' => e = .returned (.bool true) ∧ Below W.heap.size W W' := by
  have hm : (Env.mk Try.prog W.heap.size W ro rl).P.follows .mixedOrders = true := Try.checked.mixed
  have hO : CallOk (Env.mk Try.prog W.heap.size W ro rl) Oc := or_ok (known0_of hE hm fok alive0 rfl) (or_ok (O2_ok hE hm fok) (knownP_ok (callX_sound (Env.bare_ok hE) hm (F := Fb) fok (O2_ok (Env.bare_ok hE) hm fok)) K3_ok))
  obtain ⟨-, h2⟩ := callX_sound hE hm (F := G1) fok hO K vs [] _ _ _ _ hc
  refine Calls.mono (h2 [] W args ⟨Below.refl _ _, rfl, by simp, fun i b r K hl => by simp [Live] at hl, fun i j b b' r K K' hl => by simp [Live] at hl⟩ hv) fun e w' hq => ?_
  obtain ⟨v', rfl, m', hvr, T⟩ := hq
  exact ⟨by rw [hvr.inv_b], T.hr.below⟩

section
variable {ro : List ABlk} {h : Heap}
theorem Oc_none {f : Nat} {a : List AVal} (h0 : known0 17 (.b true) f a h = none) (h1 : K1 f a = none) (h2 : K2 f a = none) (h3 : K3 f a = none) : Oc f a h = none := by
  show orC _ (orC (orC (knownS K1) (knownS K2)) (knownS K3)) f a h = _
  simp only [h0, orC, knownS, h1, h2, h3]
theorem gAlive : callX G1 ro 17 [] h = some (.b true, h, h.length, h.length) := callX_ov rfl
theorem g1K {f : Nat} {a : List AVal} {v : AVal} (h0 : known0 17 (.b true) f a h = none) (h1 : K1 f a = some v) : callX G1 ro f a h = some (v, h, h.length, h.length) := callX_ov (by
  show orC _ (orC (orC (knownS K1) (knownS K2)) (knownS K3)) f a h = _
  unfold orC; rw [h0]; simp only [knownA h1 h])
theorem k76 (x : Int) : callX G1 ro 76 [.i .u8 x] h = some (.b (decide (97 ≤ x ∧ x ≤ 122)), h, h.length, h.length) := g1K rfl rfl
theorem k77 (a x b : Int) : callX G1 ro 77 [.i .i64 a, .i .i64 x, .i .i64 b] h = some (.b (decide (a ≤ x ∧ x ≤ b)), h, h.length, h.length) := g1K rfl rfl
end
end Go.Proofs.Ythcadkmfbgonjaa.T

/- Lists of changes: what they hold, whether all of them fit. -/
open Go.Vm
set_option linter.unusedVariables false
namespace Go.Proofs.Ythcadkmfbgonjaa.T
open Go

section
variable {ro : List ABlk} {h hp : Heap} {v : AVal} {es : Nat} {X : List (List AVal)}
theorem IsL.ext (x : Heap) (a : IsL ro h v es X) : IsL ro (h ++ x) v es X := by
  obtain ⟨h0, a | a | ⟨q, cap, blk, e, hb, h1, h2⟩⟩ := a
  · exact ⟨h0, .inl a⟩
  · exact ⟨h0, .inr (.inl a)⟩
  · exact ⟨h0, .inr (.inr ⟨q, cap, blk, e, rdB_ext x hb, h1, h2⟩)⟩
theorem IsL.by (a : IsL ro h v es X) (k : Keep h hp) : IsL ro hp v es X := by
  rw [take_eq k.1 k.2]; exact a.ext _
theorem IsL.bel (a : IsL ro h v es X) : v.bel h.length = true := by
  obtain ⟨h0, ⟨rfl, rfl⟩ | ⟨rfl, rfl⟩ | ⟨q, cap, blk, rfl, hb, h1, h2⟩⟩ := a
  · rfl
  · rfl
  · simpa [AVal.bel] using rdB_lt hb
end
abbrev Ch.z : Ch := ⟨0, 0, 0, 0⟩
section
variable {ro : List ABlk} {h : Heap}
theorem bxc {hp : Heap} {l p : Nat} (c : Ch) : stepM ro ⟨hp, l, p⟩ (.bx 24 4 (.c c.v)) = some (.p (some ⟨false, hp.length, 0⟩), ⟨hp ++ [some (blkOf 24 c.vs)], l, p⟩) := bx_ok 24 rfl
end
end Go.Proofs.Ythcadkmfbgonjaa.T

/- Three: by the program and by the reference. -/
open Go.Vm
set_option linter.unusedVariables false
namespace Go.Proofs.Ythcadkmfbgonjaa.T
open Go

section
variable {ro : List ABlk} {h hp : Heap} {l p : Nat}
end
end Go.Proofs.Ythcadkmfbgonjaa.T

/- Three by the reference; turned twice in either order is the same; the law NoteThree. -/
open Go.Vm
set_option linter.unusedVariables false
namespace Go.Proofs.Ythcadkmfbgonjaa.T
open Go

section
variable {ro : List ABlk} {h : Heap}
end
end Go.Proofs.Ythcadkmfbgonjaa.T

/- Lists that a function makes by append, of elements of several cells; slices of lists. -/
open Go.Vm
set_option linter.unusedVariables false
namespace Go.Proofs.Ythcadkmfbgonjaa.T
open Go

/-- a list made by append, in a block from L on -/
def GV (hp : Heap) (L e es : Nat) (v : AVal) (X : List (List AVal)) : Prop :=
  (∀ x ∈ X, x.length = es) ∧ ((v = .nsl ∧ X = []) ∨ ∃ b blk, v = .sl ⟨false, b, 0⟩ X.length .grow ∧ 0 < X.length ∧ L ≤ b ∧ lget hp b = some (some blk) ∧ blk.e = e ∧ X.length * es ≤ blk.n ∧ ∀ j, j < X.length → ∀ i, i < es → blk.c.get (j * es + i) = (X.getD j []).getD i und)
theorem GV.nil (hp : Heap) (L e es : Nat) : GV hp L e es .nsl [] := ⟨by simp, .inl ⟨rfl, rfl⟩⟩
theorem GV.by {hp hp' : Heap} {L e es : Nat} {v : AVal} {X : List (List AVal)} (g : GV hp L e es v X) (kp : Keep hp hp') : GV hp' L e es v X := by
  obtain ⟨h0, h | ⟨b, blk, h1, h2, h3, h4, h5⟩⟩ := g
  · exact ⟨h0, .inl h⟩
  · exact ⟨h0, .inr ⟨b, blk, h1, h2, h3, by rw [lget_of (kp.2 b (lget_lt h4))]; exact h4, h5⟩⟩
theorem flat_row {t : Tr} {off es : Nat} : ∀ {X : List (List AVal)}, (∀ x ∈ X, x.length = es) → (∀ j, j < X.length → ∀ i, i < es → t.get (off + j * es + i) = (X.getD j []).getD i und) → t.row off (X.length * es) = X.flatten := by
  intro X h h2
  have hl := flat_len h
  rw [← hl]
  refine row_list X.flatten off fun j hj => ?_
  rw [hl] at hj
  have hes : 0 < es := by
    rcases Nat.eq_zero_or_pos es with h | h
    · subst h; simp at hj
    · exact h
  have e : j = j / es * es + j % es := (Nat.div_add_mod' j es).symm
  have h3 : j / es < X.length := Nat.div_lt_of_lt_mul (by rw [Nat.mul_comm]; exact hj)
  have h4 : j % es < es := Nat.mod_lt _ hes
  have h5 := h2 _ h3 _ h4
  rw [show off + j / es * es + j % es = off + j by omega] at h5
  rw [h5]
  have := flat_get h h3 h4
  rw [← e] at this
  exact this.symm
theorem src_L {ro : List ABlk} {h : Heap} {v : AVal} {es : Nat} {X : List (List AVal)} (a : IsL ro h v es X) : app_src ro h es v = some (X.flatten, X.length) := by
  obtain ⟨h0, ⟨rfl, rfl⟩ | ⟨rfl, rfl⟩ | ⟨q, cap, blk, rfl, hb, hn, hc⟩⟩ := a
  · rfl
  · rfl
  · have hble : Nat.ble (q.off + X.length * es) blk.n = true := by rw [Nat.ble_eq]; exact hn
    simp only [app_src, hb, hble, cond_true]
    rw [flat_row h0 hc]
theorem ones_flat {X : List (List AVal)} (h : ∀ x ∈ X, ones x = true) : ones X.flatten = true := by
  have app : ∀ (a b : List AVal), ones a = true → ones b = true → ones (a ++ b) = true := by
    intro a b ha hb
    induction a with
    | nil => exact hb
    | cons v a ih =>
      simp only [ones, Bool.and_eq_true] at ha
      simp only [List.cons_append, ones, Bool.and_eq_true]
      exact ⟨ha.1, ih ha.2⟩
  induction X with
  | nil => rfl
  | cons x X ih => rw [List.flatten_cons]; exact app _ _ (h x (by simp)) (ih fun y hy => h y (by simp [hy]))
section
variable {ro : List ABlk} {hp : Heap} {L0 L e es bytes : Nat} {z : List AVal} {v w : AVal} {X Y : List (List AVal)}
/-- appended to a list that is nil, or whose room is used up: new memory -/
theorem app_full (a : IsL ro hp v es X) (hv : v = .nsl ∨ ∃ q, v = .sl q X.length (.known X.length)) (y : IsL ro hp w es Y) (hY : Y ≠ []) (hn : X.length + Y.length ≤ 1000000) (hb : bytes ≤ 1000) (hL : L ≤ hp.length) :
    ∃ u, stepM ro ⟨hp, L0, L0⟩ (.app e es bytes z (.c v) (.c w)) = some (u, ⟨hp ++ [some (blkOf e (X ++ Y).flatten)], L0, L0⟩) ∧ GV (hp ++ [some (blkOf e (X ++ Y).flatten)]) L e es u (X ++ Y) ∧ u = .sl ⟨false, hp.length, 0⟩ (X ++ Y).length .grow := by
  have hXY : ∀ x ∈ X ++ Y, x.length = es := fun x hx => by
    rcases List.mem_append.1 hx with h | h
    · exact a.1 x h
    · exact y.1 x h
  have hYl : 0 < Y.length := List.length_pos_iff.2 hY
  have hY0 : Nat.beq Y.length 0 = false := by
    cases h : Nat.beq Y.length 0
    · rfl
    · have := Nat.eq_of_beq_eq_true h; omega
  have g : GV (hp ++ [some (blkOf e (X ++ Y).flatten)]) L e es (.sl ⟨false, hp.length, 0⟩ (X ++ Y).length .grow) (X ++ Y) := by
    refine ⟨hXY, .inr ⟨hp.length, blkOf e (X ++ Y).flatten, rfl, by rw [List.length_append]; omega, hL, lget_last _ _, rfl, ?_, fun j hj i hi => ?_⟩⟩
    · show (X ++ Y).length * es ≤ (X ++ Y).flatten.length
      rw [flat_len hXY]; exact Nat.le_refl _
    · rw [get_blk, flat_get hXY hj hi]
  have hl : (X ++ Y).length = X.length + Y.length := List.length_append
  have hfl : (X ++ Y).flatten = X.flatten ++ Y.flatten := List.flatten_append
  refine ⟨_, ?_, g, rfl⟩
  rcases hv with rfl | ⟨q, rfl⟩
  · obtain ⟨h0, ⟨-, rfl⟩ | ⟨h, -⟩ | ⟨q, cap, blk, h, -⟩⟩ := a
    · simp only [stepM, stepK, opd, st_app, src_L y, hY0, cond_false, fits_small (by simp at hn; omega : Y.length ≤ 1000000) hb, cond_true, newB, St.mm, List.nil_append]
    · cases h
    · cases h
  · obtain ⟨h0, ⟨h, -⟩ | ⟨h, -⟩ | ⟨q', cap, blk, h, hbk, hn', hc⟩⟩ := a
    · cases h
    · cases h
    · cases h
      have h1 : Nat.ble (X.length + Y.length) X.length = false := by
        cases h : Nat.ble (X.length + Y.length) X.length
        · rfl
        · have := Nat.le_of_ble_eq_true h; omega
      have h2 : Nat.ble (q.off + X.length * es) blk.n = true := by rw [Nat.ble_eq]; exact hn'
      simp only [stepM, stepK, opd, st_app, src_L y, app_known, h1, cond_false, hbk, h2, fits_small hn hb, Bool.and_self, cond_true, newB, St.mm, flat_row h0 hc]
      rw [hl, hfl]
/-- appended to a list made by append -/
theorem GV.app (g : GV hp L e es v X) (hX : X ≠ []) (y : IsL ro hp w es Y) (hL0 : L0 ≤ L) (hL : L ≤ hp.length) (hn : X.length + Y.length ≤ 1000000) (hb : bytes ≤ 1000) (hes : 0 < es) (ho : ∀ x ∈ Y, ones x = true) :
    ∃ u hp', stepM ro ⟨hp, L0, L0⟩ (.app e es bytes z (.c v) (.c w)) = some (u, ⟨hp', L0, L0⟩) ∧ GV hp' L e es u (X ++ Y) ∧ hp.length ≤ hp'.length ∧ ∀ i, i < hp.length → (∀ b n c, v = .sl ⟨false, b, 0⟩ n c → b ≠ i) → hp'[i]? = hp[i]? := by
  obtain ⟨h0, ⟨-, rfl⟩ | ⟨b, blk, rfl, hpos, hLb, hbk, hbe, hbn, hrows⟩⟩ := g
  · exact absurd rfl hX
  have hXY : ∀ x ∈ X ++ Y, x.length = es := fun x hx => by
    rcases List.mem_append.1 hx with h | h
    · exact h0 x h
    · exact y.1 x h
  have hl : (X ++ Y).length = X.length + Y.length := List.length_append
  have hfl : (X ++ Y).flatten = X.flatten ++ Y.flatten := List.flatten_append
  cases hY0 : Nat.beq Y.length 0
  · have h1 : (Nat.beq blk.e e && Nat.ble (X.length * es) blk.n && fits (X.length + Y.length) bytes && ones Y.flatten) = true := by
      rw [hbe, fits_small hn hb, ones_flat ho]
      simp [Nat.ble_eq]; exact hbn
    have hYn : ¬ Y.length = 0 := fun h => by rw [h] at hY0; cases hY0
    have h2 : (false || !Nat.beq 0 0 || false) = false := rfl
    have h3 : Nat.blt 0 blk.n = true := by
      rw [Nat.blt_eq]
      have : 0 < X.length * es := Nat.mul_pos hpos hes
      omega
    have hrow : blk.c.row 0 (X.length * es) = X.flatten := flat_row h0 fun j hj i hi => by rw [Nat.zero_add]; exact hrows j hj i hi
    have hlt := lget_lt hbk
    refine ⟨.sl ⟨false, hp.length, 0⟩ (X.length + Y.length) .grow, lset none hp b ++ [some (blkOf e (X.flatten ++ Y.flatten))], ?_, ⟨hXY, .inr ⟨hp.length, blkOf e (X.flatten ++ Y.flatten), by rw [hl], by omega, hL, ?_, rfl, ?_, fun j hj i hi => ?_⟩⟩, by simp [lset_eq], fun i hi hne => ?_⟩
    · simp only [stepM, stepK, opd, st_app, src_L y, app_grow, hY0, h2, cond_false, hbk, h1, h3, Bool.and_self, cond_true, St.mm, hrow, Nat.min_eq_left (Nat.le_trans hL0 hLb)]
    · rw [lget_eq, lset_eq, List.getElem?_append_right (by simp)]; simp
    · show _ ≤ (X.flatten ++ Y.flatten).length
      rw [← hfl, flat_len hXY]; exact Nat.le_refl _
    · rw [get_blk, ← hfl, flat_get hXY hj hi]
    · rw [lset_eq, List.getElem?_append_left (by simpa using hi), List.getElem?_set_ne (hne b _ _ rfl)]
  · have : Y = [] := List.length_eq_zero_iff.1 (Nat.eq_of_beq_eq_true hY0)
    subst this
    refine ⟨.sl ⟨false, b, 0⟩ X.length .grow, hp, ?_, by rw [List.append_nil]; exact ⟨h0, .inr ⟨b, blk, rfl, hpos, hLb, hbk, hbe, hbn, hrows⟩⟩, Nat.le_refl _, fun _ _ _ => rfl⟩
    simp only [stepM, stepK, opd, st_app, src_L y, List.length_nil, (Nat.beq_refl 0), cond_true, St.mm]

end
end Go.Proofs.Ythcadkmfbgonjaa.T

/- Sheets: their errors, a copy of one, one change more. -/
open Go.Vm
set_option linter.unusedVariables false
namespace Go.Proofs.Ythcadkmfbgonjaa.T
open Go

abbrev Cl.v (c : Cl) : AVal := .agg c.vs
abbrev Cl.z : Cl := ⟨0, false⟩
section
variable {ro : List ABlk} {h hp : Heap} {v : AVal} {s : List Cl}
/-- a block that holds a sheet -/
def HS (hp : Heap) (b : Nat) (s : List Cl) : Prop := ∃ blk : ABlk, lget hp b = some (some blk) ∧ s.length * 2 ≤ blk.n ∧ ∀ j, j < s.length → ∀ i, i < 2 → blk.c.get (j * 2 + i) = (s.getD j Cl.z).vs.getD i und
theorem HS.by {b : Nat} {hp' : Heap} (a : HS hp b s) (k : Keep hp hp') : HS hp' b s := by
  obtain ⟨blk, h1, h2⟩ := a
  exact ⟨blk, by rw [lget_of (k.2 b (lget_lt h1))]; exact h1, h2⟩
end
end Go.Proofs.Ythcadkmfbgonjaa.T

/- One change made in a sheet, by the program and by the reference. -/
open Go.Vm
set_option linter.unusedVariables false
namespace Go.Proofs.Ythcadkmfbgonjaa.T
open Go

/-- a sheet in new memory -/
def NewS (hp : Heap) (L : Nat) (u : AVal) (s : List Cl) : Prop := (u = .nsl ∧ s = []) ∨ ∃ b c, u = .sl ⟨false, b, 0⟩ s.length c ∧ L ≤ b ∧ HS hp b s ∧ (c = .grow ∨ c = .known s.length)
section
variable {ro : List ABlk} {h hp hp' : Heap} {v w u : AVal} {s t : List Cl} {L L0 : Nat}
theorem NewS.by (a : NewS hp L u s) (k : Keep hp hp') : NewS hp' L u s := by
  rcases a with h | ⟨b, c, h1, h2, h3, h4⟩
  · exact .inl h
  · exact .inr ⟨b, c, h1, h2, h3.by k, h4⟩
/-- appended to a list made by append, or to nil -/
theorem GV.more {e es bytes : Nat} {z : List AVal} {X Y : List (List AVal)} (g : GV hp L e es v X) (y : IsL ro hp w es Y) (hL0 : L0 ≤ L) (hL : L ≤ hp.length) (hn : X.length + Y.length ≤ 1000000) (hb : bytes ≤ 1000) (hes : 0 < es) (ho : ∀ x ∈ Y, ones x = true) :
    ∃ u hp', stepM ro ⟨hp, L0, L0⟩ (.app e es bytes z (.c v) (.c w)) = some (u, ⟨hp', L0, L0⟩) ∧ GV hp' L e es u (X ++ Y) ∧ hp.length ≤ hp'.length ∧ ∀ i, i < hp.length → (∀ b n c, v = .sl ⟨false, b, 0⟩ n c → b ≠ i) → hp'[i]? = hp[i]? := by
  by_cases hX : X = []
  · subst hX
    obtain ⟨h0, ⟨rfl, -⟩ | ⟨b, blk, -, h2, -⟩⟩ := g
    · by_cases hY : Y = []
      · subst hY
        refine ⟨.nsl, hp, ?_, GV.nil _ _ _ _, Nat.le_refl _, fun _ _ _ => rfl⟩
        have hb0 : Nat.beq 0 0 = true := rfl
        simp only [stepM, stepK, opd, st_app, src_L y, List.length_nil, hb0, cond_true, St.mm]
      · obtain ⟨u, h1, h2, -⟩ := app_full (ro := ro) (L0 := L0) (e := e) (z := z) (X := []) (v := .nsl) ⟨by simp, .inl ⟨rfl, rfl⟩⟩ (.inl rfl) y hY hn hb hL
        exact ⟨u, _, h1, h2, by simp, fun i hi _ => List.getElem?_append_left hi⟩
    · simp at h2
  · exact g.app hX y hL0 hL hn hb hes ho
end
end Go.Proofs.Ythcadkmfbgonjaa.T

/- Two changes of one sheet: made one after the other, in either order, they come out the same. -/
open Go.Vm
set_option linter.unusedVariables false
namespace Go.Proofs.Ythcadkmfbgonjaa.T
open Go

end Go.Proofs.Ythcadkmfbgonjaa.T

/- Sheets compared; Turn, Apply and Cross. -/
open Go.Vm
set_option linter.unusedVariables false
namespace Go.Proofs.Ythcadkmfbgonjaa.T
open Go

section
variable {ro : List ABlk} {h hp : Heap} {v w : AVal} {s t : List Cl}
end
end Go.Proofs.Ythcadkmfbgonjaa.T

/- Cross, and the law NoteTwo. -/
open Go.Vm
set_option linter.unusedVariables false
namespace Go.Proofs.Ythcadkmfbgonjaa.T
open Go

section
variable {ro : List ABlk} {h hp : Heap} {v w : AVal} {s t : List Cl}
end
end Go.Proofs.Ythcadkmfbgonjaa.T

/- The law NoteTwo. -/
open Go.Vm
set_option linter.unusedVariables false
namespace Go.Proofs.Ythcadkmfbgonjaa.T
open Go

section
variable {ro : List ABlk} {h H : Heap} {v w : AVal} {s t : List Cl}
end
end Go.Proofs.Ythcadkmfbgonjaa.T

/- Cross by the reference, and the law NoteCrosses. -/
open Go.Vm
set_option linter.unusedVariables false
namespace Go.Proofs.Ythcadkmfbgonjaa.T
open Go

section
variable {ro : List ABlk} {h hp H : Heap} {v w u : AVal} {s t : List Cl}
end
end Go.Proofs.Ythcadkmfbgonjaa.T

/- Desks of nobody: the law NoteNobody. -/
open Go.Vm
set_option linter.unusedVariables false
namespace Go.Proofs.Ythcadkmfbgonjaa.T
open Go

/-- no desk, or one without writers -/
def Nob (H : Heap) (v : AVal) : Prop := v = .p none ∨ ∃ b, v = .p (some ⟨false, b, 0⟩) ∧ Holds H b [.nsl, .nsl]
section
variable {ro : List ABlk} {h hp H : Heap} {v : AVal} {x y : Int}
theorem Nob.by (a : Nob H v) (k : Keep H hp) : Nob hp v := by
  rcases a with h | ⟨b, h1, h2⟩
  · exact .inl h
  · exact .inr ⟨b, h1, h2.by k⟩
theorem n83 (a : Nob h v) : callX G1 ro 83 [v] h = some (.b true, h, h.length, h.length) := by
  refine g83_ok (meansX_ok _ ro) (Oc_none rfl rfl rfl rfl) ?_
  unfold g83
  rcases a with rfl | ⟨b, rfl, hb⟩
  · have e1 : evP .e (.nilp false (.c (.p none))) = some (.b true) := rfl
    simp only [e1, oS, asB_b, cT, tupA]
    exact fin_pure rfl
  · have e1 : evP .e (.nilp false (.c (.p (some ⟨false, b, 0⟩)))) = some (.b false) := rfl
    have e2 : ∀ T, evP .e (.nilm T (.c (.p (some ⟨false, b, 0⟩)))) = some (.p (some ⟨false, b, 0⟩)) := fun _ => rfl
    have e3 : evP .e (.faddr 1 (.c (.p (some ⟨false, b, 0⟩)))) = some (.p (some ⟨false, b, 0 + 1⟩)) := rfl
    have e4 : ldM ro ⟨h, h.length, h.length⟩ true 1 (.p (some ⟨false, b, 0 + 1⟩)) = some .nsl := hb.one (k := 1) (by show 1 < 2; omega)
    have e5 : evP .e (.len false (.c .nsl)) = some (.i .i64 0) := rfl
    have z0 : ((0 : Int) == 0) = true := rfl
    simp only [e1, oS, asB_b, cF, e2, e3, e4, e5, asI_i, forceB_eq, eqI_eq, z0, tupA]
    exact fin_pure rfl
theorem n84 (a : Nob h v) : callX G1 ro 84 [v, .i .i64 x] h = some (.tup [.p none, .i .i64 1], h, h.length, h.length) := by
  refine g84_ok (meansX_ok _ ro) (Oc_none rfl rfl rfl rfl) ?_
  unfold g84
  simp only [meansX_call]
  rw [bindP_of (cp0 (n83 a))]
  simp only [asB_b, cT, tupA]
  exact fin_pure rfl
theorem z1 : (!((1 : Int) == 0)) = true := rfl
theorem n46 (a : Nob h v) : callX G1 ro 46 [v, .i .i64 x] h = some (.tup [.i .i64 0, .i .i64 1], h, h.length, h.length) := by
  refine g46_ok (meansX_ok _ ro) (Oc_none rfl rfl rfl rfl) ?_
  unfold g46
  simp only [meansX_call]
  rw [bindP_of (cp0 (n84 a)), bindO_of (ext0 _ _), bindO_of (ext1 _ _ _)]
  simp only [asI_i, forceB_eq, eqI_eq, z1, cT, tupA]
  exact fin_pure rfl
theorem n47 (a : Nob h v) : callX G1 ro 47 [v, .i .i64 x] h = some (.tup [.i .i64 0, .i .i64 1], h, h.length, h.length) := by
  refine g47_ok (meansX_ok _ ro) (Oc_none rfl rfl rfl rfl) ?_
  unfold g47
  simp only [meansX_call]
  rw [bindP_of (cp0 (n84 a)), bindO_of (ext0 _ _), bindO_of (ext1 _ _ _)]
  simp only [asI_i, forceB_eq, eqI_eq, z1, cT, tupA]
  exact fin_pure rfl
theorem n48 (a : Nob h v) : callX G1 ro 48 [v, .i .i64 x] h = some (.tup [.nsl, .i .i64 1], h, h.length, h.length) := by
  refine g48_ok (meansX_ok _ ro) (Oc_none rfl rfl rfl rfl) ?_
  unfold g48
  simp only [meansX_call]
  rw [bindP_of (cp0 (n84 a)), bindO_of (ext0 _ _), bindO_of (ext1 _ _ _)]
  simp only [asI_i, forceB_eq, eqI_eq, z1, cT, tupA]
  exact fin_pure rfl
theorem n49 (a : Nob h v) : callX G1 ro 49 [v, .i .i64 x] h = some (.tup [.i .i64 0, .i .i64 0, .i .i64 1], h, h.length, h.length) := by
  refine g49_ok (meansX_ok _ ro) (Oc_none rfl rfl rfl rfl) ?_
  unfold g49
  simp only [meansX_call]
  rw [bindP_of (cp0 (n84 a)), bindO_of (ext0 _ _), bindO_of (ext1 _ _ _)]
  simp only [asI_i, forceB_eq, eqI_eq, z1, cT, tupA]
  exact fin_pure rfl
theorem n86 (a : Nob h v) (c : Ch) : callX G1 ro 86 [v, .i .i64 x, c.v] h = some (.i .i64 1, h, h.length, h.length) := by
  refine g86_ok (meansX_ok _ ro) (Oc_none rfl rfl rfl rfl) ?_
  unfold g86
  have k : Keep h (h ++ [some (blkOf 24 c.vs)]) := Keep.app _
  simp only [meansX_call]
  rw [bindP_of (bxc c), bindP_of (cp (n84 (a.by k)) k.1 k.1), bindO_of (ext0 _ _), bindO_of (ext1 _ _ _)]
  simp only [asI_i, forceB_eq, eqI_eq, z1, cT, tupA]
  exact fin_keep k rfl
theorem n50 (a : Nob h v) {q : Int} : callX G1 ro 50 [v, .i .i64 x, .i .i64 y, .i .u8 q] h = some (.i .i64 1, h, h.length, h.length) := by
  refine g50_ok (meansX_ok _ ro) (Oc_none rfl rfl rfl rfl) ?_
  unfold g50
  have hf : (fillA [(AVal.i IntKind.i64 0), (AVal.i IntKind.i64 0), (AVal.i IntKind.u8 0), (AVal.i IntKind.i64 0)] [((0, 1), (.i .i64 1)), ((1, 1), (.i .i64 y)), ((2, 1), (.i .u8 q)), ((3, 1), (.i .i64 x))]).map AVal.agg = some (Ch.v ⟨1, y, q, x⟩) := rfl
  simp only [meansX_call]
  rw [bindO_of hf, bindP_of (cp0 (n86 a _))]
  simp only [asI_i, tupA]
  exact fin_pure rfl
theorem n51 (a : Nob h v) : callX G1 ro 51 [v, .i .i64 x, .i .i64 y] h = some (.i .i64 1, h, h.length, h.length) := by
  refine g51_ok (meansX_ok _ ro) (Oc_none rfl rfl rfl rfl) ?_
  unfold g51
  have hf : (fillA [(AVal.i IntKind.i64 0), (AVal.i IntKind.i64 0), (AVal.i IntKind.u8 0), (AVal.i IntKind.i64 0)] [((0, 1), (.i .i64 2)), ((1, 1), (.i .i64 y))]).map AVal.agg = some (Ch.v ⟨2, y, 0, 0⟩) := rfl
  simp only [meansX_call]
  rw [bindO_of hf, bindP_of (cp0 (n86 a _))]
  simp only [asI_i, tupA]
  exact fin_pure rfl
theorem n52 (a : Nob h v) : callX G1 ro 52 [v] h = some (.i .i64 0, h, h.length, h.length) := by
  refine g52_ok (meansX_ok _ ro) (Oc_none rfl rfl rfl rfl) ?_
  unfold g52
  simp only [meansX_call]
  rw [bindP_of (cp0 (n83 a))]
  simp only [asB_b, cT, tupA]
  exact fin_pure rfl
theorem n44 (a : Nob h v) : callX G1 ro 44 [v] h = some (.p none, h, h.length, h.length) := by
  refine g44_ok (meansX_ok _ ro) (Oc_none rfl rfl rfl rfl) ?_
  unfold g44
  simp only [meansX_call]
  rw [bindP_of (cp0 (n83 a))]
  simp only [asB_b, cT, tupA]
  exact fin_pure rfl
theorem bind_nob {β : Type} {x : Option (AVal × Mm)} {f : AVal × Mm → Option β} {P : β → Prop} {G : AVal → Mm → Prop} (hx : ∃ v m, x = some (v, m) ∧ G v m) (hr : ∀ v m, G v m → ∃ r, f (v, m) = some r ∧ P r) : ∃ r, bindO x f = some r ∧ P r := by
  obtain ⟨v, m, rfl, g⟩ := hx
  exact hr v m g
theorem law10 {c : Bool} : ∃ h' lw lp, callX G1 ro 10 [.i .i64 x, .i .i64 y, .b c] h = some (.b true, h', lw, lp) := by
  suffices hh : ∃ r : AVal × Heap × Nat × Nat, g10 (meansX G1 ro) ro x y c ⟨h, h.length, h.length⟩ = some r ∧ r.1 = .b true by
    obtain ⟨⟨x, y, z, q⟩, h1, h2⟩ := hh
    cases h2
    exact ⟨_, _, _, g10_ok (meansX_ok _ ro) (Oc_none rfl rfl rfl rfl) h1⟩
  unfold g10
  refine bind_nob (G := fun v m => ∃ H, m = ⟨H, h.length, h.length⟩ ∧ Keep h H ∧ Nob H v) ?_ ?_
  · cases c
    · exact ⟨.p none, _, rfl, h, rfl, Keep.refl h, .inl rfl⟩
    · have hf : (fillA [AVal.nsl, AVal.nsl] []).map AVal.agg = some (.agg [.nsl, .nsl]) := rfl
      have hb : stepM ro ⟨h, h.length, h.length⟩ (.bx 70 2 (.c (.agg [.nsl, .nsl]))) = some (.p (some ⟨false, h.length, 0⟩), ⟨h ++ [some (blkOf 70 [.nsl, .nsl])], h.length, h.length⟩) := bx_ok 70 rfl
      refine ⟨.p (some ⟨false, h.length, 0⟩), ⟨h ++ [some (blkOf 70 [.nsl, .nsl])], h.length, h.length⟩, ?_, _, rfl, Keep.app _, .inr ⟨_, rfl, Holds.new _ _ _⟩⟩
      rw [cT, bindO_of hf, bindP_of hb]
  · rintro v m ⟨H, rfl, k, a⟩
    have l := k.1
    have e5 : evP .e (.len false (.c .nsl)) = some (.i .i64 0) := rfl
    have zz : (!((1 : Int) == 1)) = false := rfl
    have o1 : ((1 : Int) == 1) = true := rfl
    have o0 : ((0 : Int) == 0) = true := rfl
    have w0 : wr .i64 (0 + 0) = 0 := rfl
    have en : evP .e (.nilp false (.c (.p none))) = some (.b true) := rfl
    simp only [meansX_call]
    rw [bindP_of (cp (n46 a) l l), bindO_of (ext0 _ _)]
    simp only [asI_i]
    rw [bindO_of (ext1 _ _ _)]
    simp only [asI_i]
    rw [bindP_of (cp (n47 a) l l), bindO_of (ext0 _ _)]
    simp only [asI_i]
    rw [bindO_of (ext1 _ _ _)]
    simp only [asI_i]
    rw [bindP_of (cp (n48 a) l l), bindO_of (ext0 _ _), bindO_of (ext1 _ _ _)]
    simp only [asI_i]
    rw [bindP_of (cp (n49 a) l l), bindO_of (ext0 _ _)]
    simp only [asI_i]
    rw [bindO_of (ext1 _ _ _)]
    simp only [asI_i]
    rw [bindO_of (ext2 _ _ _ _)]
    simp only [asI_i, forceB_eq, eqI_eq, zz, o0, cF, oS, forceI_eq, w0, e5, Bool.not_true]
    rw [bindP_of (cp (n50 a) l l)]
    simp only [asI_i, o1, cT]
    rw [bindP_of (cp (n51 a) l l)]
    simp only [asI_i, o1, oS, cT]
    rw [bindP_of (cp (n52 a) l l)]
    simp only [asI_i, o0, oS, cT]
    rw [bindP_of (cp (n44 a) l l)]
    simp only [en, oS, asB_b, cT]
    rw [bindP_of (cp gAlive l l)]
    simp only [asB_b, oS, tupA]
    exact ⟨_, fin_keep k rfl, rfl⟩
end
end Go.Proofs.Ythcadkmfbgonjaa.T

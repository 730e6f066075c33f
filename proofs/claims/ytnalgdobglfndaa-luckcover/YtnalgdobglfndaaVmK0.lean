/- Contracts of the functions: what each of them answers. -/
import Derived.Test.YtnalgdobglfndaaVmFO
import Derived.Test.YtnalgdobglfndaaVmGt
import Derived.Test.YtnalgdobglfndaaVmAE
import Derived.Test.YtnalgdobglfndaaVmAF
import Derived.Test.YtnalgdobglfndaaRows
import Derived.WalkKit
import Derived.ProofKit
import Derived.OpenShut
import Derived.Carry
import Derived.Deep.Matrix
import Derived.Deep.Slices
/- From the small machine to the statement: lists of numbers and lists of such lists, in memory that is only read. -/
open Go.Vm
set_option linter.unusedVariables false
namespace Go.Proofs.Ytnalgdobglfndaa.T
open Go Go.RowKit Go.Deep Go.WideShapes Go.ChangeShapes

abbrev F1 : Tab := ⟨F, known0 16 (.b true)⟩
def IsRowK (k : IntKind) (ro : List ABlk) (h : Heap) (v : AVal) (z : List Int) : Prop :=
  (v = .nsl ∧ z = []) ∨ ∃ q cap blk, v = .sl q z.length cap ∧ rdB ro h q = some blk ∧ q.off + z.length ≤ blk.n ∧ ∀ j, j < z.length → blk.c.get (q.off + j) = .i k (z.getD j 0)

/-- what is read in the world of a list of numbers -/
structure OpenK (k : IntKind) (W : World) (v0 : Value) (z : List Int) : Prop where
  o : (v0 = .slice none 0 0 ∧ z = []) ∨ ∃ (a : Addr) (cap : Nat) (Z : List Int), v0 = .slice (some a) z.length cap ∧ z.length ≤ cap ∧ Z.length = cap ∧ z = Z.take z.length ∧ ∀ i, i < cap → a.block < W.heap.size ∧ W.cell? (a.add i) = some (.int k (Z.getD i 0))
  len_le : z.length ≤ 9223372036854775807
  z : ∀ n ∈ z, (Lit.int k n).wf = true

theorem cells3 : Try.prog.cellsOf 3 = 1 := by kernel_rfl
theorem laidOut : laidOutB Try.prog = true := by kernel_rfl
theorem own : ownKnob Try.prog.godebug = none := by kernel_rfl

section
variable {H : Type} {enc : TypeId × Value → H} {W : World} {v0 : Value} {d : DataW H} {p : List MemPlace}
theorem opened_ints (hs : ∃ a len cap, v0 = .slice a len cap) (h : DataW.Trod enc Try.prog W 0 (fun _ => true) true 23 v0 d p) : ∃ z, OpenK .i64 W v0 z := by
  obtain ⟨a0, len, cap, rfl⟩ := hs
  obtain ⟨fuel, hf⟩ := h
  have hml : maxLen = 9223372036854775807 := rfl
  rcases open_ints Try.underlying23 Try.underlying3 cells3 hf with ⟨hcs0, hx⟩ | ⟨a, len', cap', zs, hcs0, _, hl, hm, hz, hx, hcell, hw⟩
  · simp [Value.cells] at hcs0
    obtain ⟨rfl, rfl, rfl⟩ := hcs0
    exact ⟨[], .inl ⟨rfl, rfl⟩, by simp, by simp⟩
  · simp [Value.cells] at hcs0
    obtain ⟨rfl, rfl, rfl⟩ := hcs0
    simp only [if_true] at hz
    have hlen : (zs.take len).length = len := by simp; omega
    refine ⟨zs.take len, .inr ⟨a, cap, zs, by rw [hlen], by omega, by omega, by rw [hlen], fun i hi => ?_⟩, by omega, fun n hn => hw n (List.mem_of_mem_take hn)⟩
    have h1 := hcell i (by omega)
    exact ⟨World.block_lt_of_cell? _ _ h1 |> fun h => by simpa [addr_block] using h, h1⟩
end

/-- a slice's room is at least its length -/
def CapO (v : AVal) : Prop := ∀ q n c, v = .sl q n (.known c) → n ≤ c
theorem ro_flat {k : IntKind} {W : World} {v0 : Value} {z : List Int} (h : OpenK k W v0 z) (pre : List ABlk) (prl : Rl) (hp : pre.length = prl.length) : ∃ (ro : List ABlk) (rl : Rl) (v : AVal), ro.length = rl.length ∧ CapO v ∧
    (∀ x y h, IsRowK k (pre ++ ro ++ x) h v z ∧ VR (prl ++ rl ++ y) [] v v0) ∧
    ∀ (i : Nat) (b : ABlk), ro[i]? = some b → ∃ x, rl[i]? = some x ∧ ∀ j, j < b.n → x.block < W.heap.size ∧ ∃ v', W.cell? (x.add j) = some v' ∧ ∀ y, VR y [] (b.c.get j) v' := by
  rcases h.o with ⟨rfl, rfl⟩ | ⟨a, cap, Z, rfl, hcap, hlen, hz, hcell⟩
  · exact ⟨[], [], .nsl, rfl, (fun q n c e => by cases e), fun x y h => ⟨.inl ⟨rfl, rfl⟩, .nsl⟩, fun i b hb => by simp at hb⟩
  · have hget : ∀ j, j < cap → (Tr.mk (Z.map (AVal.i k))).get j = .i k (Z.getD j 0) := fun j hj => by
      rw [get_mk]; simp [List.getD, show j < Z.length by omega]
    refine ⟨[⟨0, cap, Tr.mk (Z.map (AVal.i k)), none⟩], [a], .sl ⟨true, pre.length, 0⟩ z.length (.known cap), rfl, (fun q n c e => by cases e; exact hcap), fun x y h => ⟨.inr ⟨⟨true, pre.length, 0⟩, .known cap, ⟨0, cap, Tr.mk (Z.map (AVal.i k)), none⟩, rfl, ?_, ?_, fun j hj => ?_⟩, ?_⟩, fun i b hb => ?_⟩
    · simp only [rdB, cond_true, lget_eq, List.append_assoc]
      rw [List.getElem?_append_right (Nat.le_refl _)]; simp
    · simpa using hcap
    · have e := hget j (by omega)
      have e2 : Z.getD j 0 = z.getD j 0 := by
        rw [hz, List.getD_eq_getElem?_getD, List.getD_eq_getElem?_getD, List.getElem?_take_of_lt hj]
      rw [e2] at e
      simpa using e
    · refine .slk _ _ _ _ ?_
      show (((prl ++ [a] ++ y)[pre.length]?).map fun x => x.add 0) = some a
      rw [List.append_assoc, List.getElem?_append_right (by omega), hp]; simp [Addr.add]
    · cases i with
      | zero =>
        simp at hb
        subst hb
        refine ⟨a, rfl, fun j hj => ?_⟩
        obtain ⟨h1, h2⟩ := hcell j hj
        refine ⟨h1, _, h2, fun y => ?_⟩
        have := hget j hj
        simp only [this]
        exact .i _ _
      | succ i => simp at hb

theorem env_ok {W : World} {ro : List ABlk} {rl : Rl} (h : ∀ (i : Nat) (b : ABlk), ro[i]? = some b → ∃ x, rl[i]? = some x ∧ ∀ j, j < b.n → x.block < W.heap.size ∧ ∃ v', W.cell? (x.add j) = some v' ∧ VR rl [] (b.c.get j) v') :
    (Env.mk Try.prog W.heap.size W ro rl).Ok := ⟨fun i b hb => h i b hb, Nat.le_refl _⟩
/-- what lies in the read-only blocks; more may come behind -/
def RoP (W : World) (ro : List ABlk) (rl : Rl) : Prop := ∀ (i : Nat) (b : ABlk), ro[i]? = some b → ∃ x, rl[i]? = some x ∧ ∀ j, j < b.n → x.block < W.heap.size ∧ ∃ v', W.cell? (x.add j) = some v' ∧ ∀ y, VR (rl ++ y) [] (b.c.get j) v'
theorem RoP.nil (W : World) : RoP W [] [] := fun i b hb => by simp at hb
theorem RoP.env {W : World} {ro : List ABlk} {rl : Rl} (h : RoP W ro rl) : (Env.mk Try.prog W.heap.size W ro rl).Ok := env_ok fun i b hb => by
  obtain ⟨y, h1, h2⟩ := h i b hb
  refine ⟨y, h1, fun j hj => ?_⟩
  obtain ⟨h3, v', h4, h5⟩ := h2 j hj
  exact ⟨h3, v', h4, by have := h5 []; simpa using this⟩
theorem RoP.snoc {W : World} {ro ro' : List ABlk} {rl rl' : Rl} (hl : ro.length = rl.length) (h : RoP W ro rl)
    (h' : ∀ (i : Nat) (b : ABlk), ro'[i]? = some b → ∃ x, rl'[i]? = some x ∧ ∀ j, j < b.n → x.block < W.heap.size ∧ ∃ v', W.cell? (x.add j) = some v' ∧ ∀ y, VR y [] (b.c.get j) v') : RoP W (ro ++ ro') (rl ++ rl') := by
  intro i b hb
  rcases Nat.lt_or_ge i ro.length with hi | hi
  · rw [List.getElem?_append_left hi] at hb
    obtain ⟨x, h1, h2⟩ := h i b hb
    refine ⟨x, by rw [List.getElem?_append_left (by omega)]; exact h1, fun j hj => ?_⟩
    obtain ⟨h3, v', h4, h5⟩ := h2 j hj
    exact ⟨h3, v', h4, fun y => by rw [List.append_assoc]; exact h5 _⟩
  · rw [List.getElem?_append_right hi] at hb
    obtain ⟨x, h1, h2⟩ := h' _ b hb
    refine ⟨x, by rw [List.getElem?_append_right (by omega), ← hl]; exact h1, fun j hj => ?_⟩
    obtain ⟨h3, v', h4, h5⟩ := h2 j hj
    exact ⟨h3, v', h4, fun y => h5 _⟩

/-- the call of the model: true, and below nothing has turned -/
theorem call_of {W : World} {ro : List ABlk} {rl : Rl} (hE : (Env.mk Try.prog W.heap.size W ro rl).Ok) {K : Nat} {vs : List AVal} {args : Array Value}
    (hv : LR rl [] vs args) {h' : Heap} {lw lp : Nat} (hc : callX F1 ro K vs [] = some (.b true, h', lw, lp)) : Calls Try.prog K args W fun e W' => e = .returned (.bool true) ∧ Below W.heap.size W W' := by
  have hm : (Env.mk Try.prog W.heap.size W ro rl).P.follows .mixedOrders = true := Try.checked.mixed
  have hO : CallOk (Env.mk Try.prog W.heap.size W ro rl) (known0 16 (.b true)) := known0_of hE hm fok alive0 rfl
  obtain ⟨-, h2⟩ := callX_sound hE hm (F := F1) fok hO K vs [] _ _ _ _ hc
  refine Calls.mono (h2 [] W args ⟨Below.refl _ _, rfl, by simp, fun i b r K hl => by simp [Live] at hl, fun i j b b' r K K' hl => by simp [Live] at hl⟩ hv) fun e w' hq => ?_
  obtain ⟨v', rfl, m', hvr, T⟩ := hq
  exact ⟨by rw [hvr.inv_b], T.hr.below⟩
theorem alive_pure {ro : List ABlk} {h : Heap} : callX F1 ro 16 [] h = some (.b true, h, h.length, h.length) := callX_ov rfl
end Go.Proofs.Ytnalgdobglfndaa.T

/- Blocks that a function makes for itself; loops whose state is known. -/
open Go.Vm
set_option linter.unusedVariables false
namespace Go.Proofs.Ytnalgdobglfndaa.T
open Go

/-- a block of the heap that holds these values -/
def Holds (hp : Heap) (b : Nat) (vs : List AVal) : Prop := ∃ blk : ABlk, lget hp b = some (some blk) ∧ blk.n = vs.length ∧ ∀ j, j < vs.length → blk.c.get j = vs.getD j und
/-- what was there is still there -/
def Keep (h hp : Heap) : Prop := h.length ≤ hp.length ∧ ∀ i, i < h.length → hp[i]? = h[i]?

section
variable {ro : List ABlk} {h hp hp' : Heap} {b k e n l p : Nat} {vs : List AVal}
theorem Keep.refl (h : Heap) : Keep h h := ⟨Nat.le_refl _, fun _ _ => rfl⟩
theorem Keep.trans {h1 : Heap} (a : Keep h h1) (c : Keep h1 hp) : Keep h hp := ⟨Nat.le_trans a.1 c.1, fun i hi => by rw [c.2 i (by have := a.1; omega), a.2 i hi]⟩
theorem Keep.app (x : Heap) : Keep h (h ++ x) := ⟨by simp, fun i hi => List.getElem?_append_left hi⟩
theorem Keep.set (a : Keep h hp) (hb : h.length ≤ b) (x : Option ABlk) : Keep h (hp.set b x) := ⟨by simpa using a.1, fun i hi => by rw [List.getElem?_set_ne (by omega)]; exact a.2 i hi⟩
theorem Keep.eq (a : Keep h hp) : hp.take h.length = h := by
  refine List.ext_getElem? fun i => ?_
  rcases Nat.lt_or_ge i h.length with hi | hi
  · rw [List.getElem?_take_of_lt hi, a.2 i hi]
  · rw [List.getElem?_eq_none (by simp; omega), List.getElem?_eq_none hi]
theorem fin_keep {v : AVal} (a : Keep h hp) (hv : v.bel h.length = true) : finM h.length v ⟨hp, h.length, h.length⟩ = some (v, h, h.length, h.length) := by
  rw [fin_take hv, a.eq]
theorem Holds.lt (a : Holds hp b vs) : b < hp.length := by obtain ⟨blk, h1, -⟩ := a; exact lget_lt h1
theorem Holds.new (hp : Heap) (e : Nat) (vs : List AVal) : Holds (hp ++ [some (blkOf e vs)]) hp.length vs := ⟨_, lget_last _ _, rfl, fun j _ => get_blk e vs j⟩
theorem Holds.keep (a : Holds hp b vs) (hk : hp'[b]? = hp[b]?) : Holds hp' b vs := by
  obtain ⟨blk, h1, h2⟩ := a
  exact ⟨blk, by rw [lget_of hk]; exact h1, h2⟩
theorem Holds.ext (a : Holds hp b vs) (x : Heap) : Holds (hp ++ x) b vs := a.keep (List.getElem?_append_left a.lt)
theorem Holds.by (a : Holds hp b vs) (k : Keep hp hp') : Holds hp' b vs := a.keep (k.2 b a.lt)
theorem Holds.one (a : Holds hp b vs) (hk : k < vs.length) : ldM ro ⟨hp, l, p⟩ true 1 (.p (some ⟨false, b, 0 + k⟩)) = some (vs.getD k und) := by
  obtain ⟨blk, h1, h2, h3⟩ := a
  rw [ld_heap rfl h1 (by omega), ← h3 k hk, Nat.zero_add]
theorem row_list {t : Tr} : ∀ (vs : List AVal) (i : Nat), (∀ j, j < vs.length → t.get (i + j) = vs.getD j und) → t.row i vs.length = vs
  | [], i, _ => rfl
  | v :: vs, i, h => by
    simp only [List.length_cons, Tr.row]
    rw [show t.get i = v by simpa using h 0 (by simp), row_list vs (i + 1) fun j hj => by have := h (j + 1) (by simp; omega); rw [show i + 1 + j = i + (j + 1) by omega, this]; simp]
theorem Holds.rd (a : Holds hp b vs) (hn : n = vs.length) : Go.Vm.rd ro hp false n ⟨false, b, 0⟩ = some (.agg vs) := by
  subst hn
  obtain ⟨blk, h1, h2, h3⟩ := a
  have hc : Nat.ble (0 + vs.length) blk.n = true := by rw [Nat.ble_eq]; omega
  simp only [Go.Vm.rd, rdB_heap h1, cond_false, hc, cond_true]
  rw [row_list vs 0 fun j hj => by rw [Nat.zero_add]; exact h3 j hj]
theorem Holds.all (a : Holds hp b vs) (hn : n = vs.length) : ldM ro ⟨hp, l, p⟩ false n (.p (some ⟨false, b, 0⟩)) = some (.agg vs) := by
  simp only [ldM, a.rd hn]
theorem spliceGet (t : Tr) : ∀ (vs : List AVal) (i j : Nat), (t.splice i vs).get j = if i ≤ j ∧ j < i + vs.length then vs.getD (j - i) und else t.get j
  | [], i, j => by simp [Tr.splice]; intro h1 h2; omega
  | v :: vs, i, j => by
    rw [Tr.splice, spliceGet (t.set i v) vs (i + 1) j, get_set]
    by_cases e : i = j
    · subst e
      rw [if_neg (by omega), if_pos rfl, if_pos (by simp)]; simp
    · by_cases h2 : i ≤ j ∧ j < i + (v :: vs).length
      · have h3 : i + 1 ≤ j ∧ j < i + 1 + vs.length := by simp at h2; omega
        rw [if_pos h2, if_pos h3]
        obtain ⟨q, rfl⟩ : ∃ q, j = i + 1 + q := ⟨j - (i + 1), by omega⟩
        rw [show i + 1 + q - i = q + 1 by omega, show i + 1 + q - (i + 1) = q by omega]
        simp
      · have h3 : ¬ (i + 1 ≤ j ∧ j < i + 1 + vs.length) := by simp at h2; omega
        rw [if_neg h2, if_neg h3, if_neg e]
theorem wrH_all {blk : ABlk} (hb : lget hp b = some (some blk)) (hn : vs.length ≤ blk.n) (ho : ones vs = true) : wrH hp ⟨false, b, 0⟩ vs = some (hp.set b (some { blk with c := blk.c.splice 0 vs })) := by
  have : (Nat.ble (0 + vs.length) blk.n && ones vs) = true := by rw [ho, Bool.and_true, Nat.ble_eq]; omega
  simp only [wrH, cond_false, hb, this, cond_true, lset_eq]
/-- a block is written whole -/
theorem Holds.st {vs' : List AVal} {v : AVal} (a : Holds hp b vs) (hv : v.cells = vs') (hn : n = vs'.length) (hl : vs'.length = vs.length) (ho : ones vs' = true) (hL : h.length ≤ b) (kp : Keep h hp) :
    ∃ hp', stepM ro ⟨hp, h.length, h.length⟩ (.st n (.c (.p (some ⟨false, b, 0⟩))) (.c v)) = some (und, ⟨hp', h.length, h.length⟩) ∧ Holds hp' b vs' ∧ hp'.length = hp.length ∧ (∀ i, i ≠ b → hp'[i]? = hp[i]?) ∧ Keep h hp' := by
  obtain ⟨blk, h1, h2, h3⟩ := a
  subst hv hn
  have hw := wrH_all h1 (vs := v.cells) (by omega) ho
  refine ⟨hp.set b (some { blk with c := blk.c.splice 0 v.cells }), ?_, ⟨_, lget_set h1 _, by simpa using (h2.trans hl.symm), fun j hj => ?_⟩, by simp, fun i hi => List.getElem?_set_ne (Ne.symm hi), kp.set hL _⟩
  · have hbq : Nat.beq v.cells.length v.cells.length = true := Nat.beq_refl _
    have e : (cond (nonp v.cells) h.length h.length) = h.length := by cases nonp v.cells <;> rfl
    simp only [stepM, stepK, opd, st_st, hbq, cond_true, hw, St.mm, Nat.min_eq_left hL, e]
  · show (blk.c.splice 0 v.cells).get j = _
    rw [spliceGet, if_pos (by omega)]; simp
theorem al_ok (e : Nat) (z : List AVal) : stepM ro ⟨hp, l, p⟩ (.al e z) = some (.p (some ⟨false, hp.length, 0⟩), ⟨hp ++ [some (blkOf e z)], l, p⟩) := rfl
end

theorem ext0 (a : AVal) (l : List AVal) : evP .e (.ext 0 (.c (.tup (a :: l)))) = some a := rfl
theorem ext1 (a b : AVal) (l : List AVal) : evP .e (.ext 1 (.c (.tup (a :: b :: l)))) = some b := rfl
section
variable {ro : List ABlk} {h : Heap} {v : AVal}
theorem row_by {hp : Heap} {z : List Int} (a : IsRow ro h v z) (k : Keep h hp) : IsRow ro hp v z := by
  rw [take_eq k.1 k.2]; exact a.ext _
end

/-- one cell of a block is written -/
theorem Holds.set {ro : List ABlk} {h hp : Heap} {b k : Nat} {vs : List AVal} {v : AVal} (a : Holds hp b vs) (hk : k < vs.length) (hv : v.one = true) (hc : v.cells = [v]) (hn : nonp [v] = true) (hL : h.length ≤ b) (kp : Keep h hp) :
    ∃ hp', stepM ro ⟨hp, h.length, h.length⟩ (.st 1 (.c (.p (some ⟨false, b, 0 + k * 1⟩))) (.c v)) = some (und, ⟨hp', h.length, h.length⟩) ∧ Holds hp' b (vs.set k v) ∧ hp'.length = hp.length ∧ (∀ i, i ≠ b → hp'[i]? = hp[i]?) ∧ Keep h hp' := by
  obtain ⟨blk, h1, h2, h3⟩ := a
  have e : 0 + k * 1 = k := by omega
  refine ⟨hp.set b (some { blk with c := blk.c.set k v }), ?_, ⟨_, lget_set h1 _, by simpa using h2, fun j hj => ?_⟩, by simp, fun i hi => List.getElem?_set_ne (Ne.symm hi), kp.set hL _⟩
  · rw [e, st_heap h1 (by omega) hv hc hn, Nat.min_eq_left hL]
  · show (blk.c.set k v).get j = _
    rw [get_set]
    simp only [List.length_set] at hj
    by_cases e : k = j
    · subst e; simp [List.getD, hj]
    · rw [if_neg e, h3 j hj]
      simp [List.getD, List.getElem?_set_ne e]


/-- a loop whose state is known for each round -/
theorem loop_st {S R : Type} {b : S → Option (S ⊕ R)} (st : Nat → S) (n : Nat) (step : Nat → Option R) (r0 : R) (hout : b (st n) = some (.inr r0)) (hin : ∀ i, i < n → b (st i) = some (match step i with | some r => .inr r | none => .inl (st (i + 1)))) :
    ∀ (k i : Nat), i + k = n → loopX b (st i) = some ((firstS step k i).getD r0)
  | 0, i, hi => by
    simp only [Nat.add_zero] at hi
    subst hi
    exact loopX_out hout
  | k + 1, i, hi => by
    have h1 := hin i (by omega)
    unfold firstS
    cases hs : step i with
    | some r => rw [hs] at h1; exact loopX_out h1
    | none =>
      rw [hs] at h1
      exact loopX_on h1 (loop_st st n step r0 hout hin k (i + 1) (by omega))
/-- one that runs to its end -/
theorem loop_run {S R : Type} {b : S → Option (S ⊕ R)} (st : Nat → S) (n : Nat) {r0 : R} (hout : b (st n) = some (.inr r0)) (hin : ∀ i, i < n → b (st i) = some (.inl (st (i + 1)))) : loopX b (st 0) = some r0 := by
  have := loop_st st n (fun _ => none) r0 hout hin n 0 (by omega)
  rw [firstS_none.2 fun _ _ _ => rfl] at this
  exact this
/-- one that looks for something -/
theorem loop_if {S R : Type} {b : S → Option (S ⊕ R)} (st : Nat → S) (n : Nat) (P : Nat → Prop) [DecidablePred P] (r0 r1 : R) (hout : b (st n) = some (.inr r0)) (hin : ∀ i, i < n → P i → b (st i) = some (.inl (st (i + 1)))) (hno : ∀ i, i < n → ¬ P i → b (st i) = some (.inr r1)) :
    loopX b (st 0) = some (if (∀ i, i < n → P i) then r0 else r1) := by
  have := loop_st st n (fun i => if P i then none else some r1) r0 hout (fun i hi => by
    by_cases hp : P i
    · rw [if_pos hp]; exact hin i hi hp
    · rw [if_neg hp]; exact hno i hi hp) n 0 (by omega)
  rw [this]
  by_cases hall : ∀ i, i < n → P i
  · rw [if_pos hall, firstS_none.2 fun j _ h2 => by rw [if_pos (hall j (by omega))]]; rfl
  · rw [if_neg hall]
    cases hf : firstS (fun i => if P i then none else some r1) n 0 with
    | none =>
      refine absurd (fun i hi => ?_) hall
      have := firstS_none.1 hf i (by omega) (by omega)
      simpa using this
    | some r =>
      obtain ⟨j, -, -, h3, -⟩ := firstS_some hf
      by_cases hc : P j
      · rw [if_pos hc] at h3; cases h3
      · rw [if_neg hc] at h3; cases h3; rfl

theorem dT {p : Prop} [Decidable p] (h : p) : decide p = true := decide_eq_true h
theorem dF {p : Prop} [Decidable p] (h : ¬ p) : decide p = false := decide_eq_false h
theorem row_bel {ro : List ABlk} {h : Heap} {v : AVal} {z : List Int} (a : IsRow ro h v z) : v.bel h.length = true := by
  rcases a with ⟨rfl, -⟩ | ⟨q, cap, blk, rfl, hb, -⟩
  · rfl
  · simpa [AVal.bel] using rdB_lt hb
theorem at_rowK {ro : List ABlk} {h : Heap} {v : AVal} {z : List Int} (hr : IsRow ro h v z) {i : Nat} (hi : i < z.length) : ∃ p, evP .e (.ixS 1 (.c v) (.c (.i .i64 (i : Int)))) = some p ∧ ∀ {hp : Heap} {l q : Nat}, Keep h hp → ldM ro ⟨hp, l, q⟩ true 1 p = some (.i .i64 (z.getD i 0)) ∧ ldA ro hp true 1 p = some (.i .i64 (z.getD i 0)) := by
  obtain ⟨p, h1, -⟩ := at_row (m := ⟨h, 0, 0⟩) rfl hr hi
  refine ⟨p, h1, fun {hp l q} k => ?_⟩
  obtain ⟨p', g1, g2, g3⟩ := at_row (m := ⟨hp, l, q⟩) rfl (row_by hr k) hi
  rw [h1] at g1; cases g1
  exact ⟨g2, g3⟩
abbrev nthR (x : List (List Int)) (i : Nat) : List Int := x.getD i []
theorem cp {F : Tab} {ro : List ABlk} {h : Heap} {f : Nat} {a : List AVal} {v : AVal} {l p : Nat} (e : callX F ro f a h = some (v, h, h.length, h.length)) (hl : l ≤ h.length) (hp : p ≤ h.length) : callM (callX F ro) ⟨h, l, p⟩ f a = some (v, ⟨h, l, p⟩) :=
  callM_pure e hl hp
theorem cp0 {F : Tab} {ro : List ABlk} {h : Heap} {f : Nat} {a : List AVal} {v : AVal} (e : callX F ro f a h = some (v, h, h.length, h.length)) : callM (callX F ro) ⟨h, h.length, h.length⟩ f a = some (v, ⟨h, h.length, h.length⟩) :=
  callM_pure e (Nat.le_refl _) (Nat.le_refl _)

/- the laws' own: few, same -/
def few (x : List (List Int)) (z : List Int) : Prop := (∀ i, i < x.length → i < 250 ∧ (nthR x i).length ≤ 40) ∧ z.length ≤ 1100
instance (x : List (List Int)) (z : List Int) : Decidable (few x z) := inferInstanceAs (Decidable ((∀ i, i < x.length → i < 250 ∧ (nthR x i).length ≤ 40) ∧ z.length ≤ 1100))
theorem few.len {x : List (List Int)} {z : List Int} (h : few x z) : x.length ≤ 250 := by
  by_cases h1 : x.length = 0
  · omega
  · have := (h.1 (x.length - 1) (by omega)).1
    omega
end Go.Proofs.Ytnalgdobglfndaa.T

/- Lists that a function makes by append. -/
open Go.Vm
set_option linter.unusedVariables false
namespace Go.Proofs.Ytnalgdobglfndaa.T
open Go

/-- a list made by append, in a block from L on -/
def GV (hp : Heap) (L e es : Nat) (v : AVal) (k : Nat) (cs : List AVal) : Prop :=
  (v = .nsl ∧ k = 0 ∧ cs = []) ∨ ∃ b blk, v = .sl ⟨false, b, 0⟩ k .grow ∧ 0 < k ∧ L ≤ b ∧ lget hp b = some (some blk) ∧ blk.e = e ∧ cs.length = k * es ∧ k * es ≤ blk.n ∧ ∀ j, j < k * es → blk.c.get j = cs.getD j und
theorem GV.nil (hp : Heap) (L e es : Nat) : GV hp L e es .nsl 0 [] := .inl ⟨rfl, rfl, rfl⟩
/-- blocks below L, and those above that are kept, hold the list as before -/
theorem GV.by {hp hp' : Heap} {L e es k : Nat} {v : AVal} {cs : List AVal} (g : GV hp L e es v k cs) (kp : Keep hp hp') : GV hp' L e es v k cs := by
  rcases g with h | ⟨b, blk, h1, h2, h3, h4, h5⟩
  · exact .inl h
  · exact .inr ⟨b, blk, h1, h2, h3, by rw [lget_of (kp.2 b (lget_lt h4))]; exact h4, h5⟩
theorem GV.row {ro : List ABlk} {hp : Heap} {L e : Nat} {v : AVal} {k : Nat} {z : List Int} (g : GV hp L e 1 v k (z.map (AVal.i .i64))) (hk : z.length = k) : IsRow ro hp v z := by
  subst hk
  rcases g with ⟨rfl, h2, -⟩ | ⟨b, blk, rfl, hpos, hLb, hbk, hbe, hcl, hbn, hrows⟩
  · exact .inl ⟨rfl, List.length_eq_zero_iff.1 h2⟩
  · refine .inr ⟨_, _, blk, rfl, rdB_heap hbk 0, by simpa using hbn, fun j hj => ?_⟩
    rw [Nat.zero_add, hrows j (by omega), map_getD hj]
end Go.Proofs.Ytnalgdobglfndaa.T

/- What a record is: the program's checks and the reference's. -/
open Go.Vm
set_option linter.unusedVariables false
namespace Go.Proofs.Ytnalgdobglfndaa.T
open Go

def bitP (x : Int) : Prop := x = 0 ∨ x = 1
instance (x : Int) : Decidable (bitP x) := inferInstanceAs (Decidable (_ ∨ _))
def bitsP (z : List Int) : Prop := ∀ j, j < z.length → bitP (z.getD j 0)
instance (z : List Int) : Decidable (bitsP z) := inferInstanceAs (Decidable (∀ j, j < z.length → bitP (z.getD j 0)))
/-- a row of so many numbers 0 or 1 -/
def rowP (z : List Int) (n : Int) : Prop := bitsP z ∧ (z.length : Int) = n
instance (z : List Int) (n : Int) : Decidable (rowP z n) := inferInstanceAs (Decidable (_ ∧ _))
def matP (x : List (List Int)) (k n : Int) : Prop := (∀ i, i < x.length → rowP (nthR x i) n) ∧ (x.length : Int) = k
instance (x : List (List Int)) (k n : Int) : Decidable (matP x k n) := inferInstanceAs (Decidable (_ ∧ _))

section
variable {ro : List ABlk} {h : Heap} {a b : AVal} {x : List (List Int)} {z : List Int}

end
end Go.Proofs.Ytnalgdobglfndaa.T

/- Ratios in lowest terms; what foretellers say; how many bits a number has. -/
open Go.Vm
set_option linter.unusedVariables false
namespace Go.Proofs.Ytnalgdobglfndaa.T
open Go

abbrev rV (a b : Int) : AVal := .agg [.i .i64 a, .i .i64 b]
/-- a ratio in lowest terms -/
def ratV (a b : Nat) : AVal := rV ((a / Nat.gcd a b : Nat) : Int) ((b / Nat.gcd a b : Nat) : Int)
def saidP (k n : Int) (x : List (List Int)) : Prop := 1 ≤ k ∧ k ≤ 10 ∧ 1 ≤ n ∧ n ≤ 20 ∧ matP x k n
instance (k n : Int) (x : List (List Int)) : Decidable (saidP k n x) := inferInstanceAs (Decidable (_ ∧ _))

section
variable {ro : List ABlk} {h hp : Heap} {a b : AVal} {x : List (List Int)} {z : List Int}

theorem fill2 (a b : Int) : (fillA [(AVal.i IntKind.i64 0), (AVal.i IntKind.i64 0)] [((0, 1), (.i .i64 a)), ((1, 1), (.i .i64 b))]).map AVal.agg = some (rV a b) := rfl
theorem fill0 : (fillA [(AVal.i IntKind.i64 0), (AVal.i IntKind.i64 0)] []).map AVal.agg = some (rV 0 0) := rfl
/-- a cell for a ratio is written whole -/
theorem put2 {q : Nat} {u : AVal} {v : List AVal} (a : Holds hp q v) (hv : v.length = 2) (hL : h.length ≤ q) (kp : Keep h hp) {x y : Int} (hu : u = rV x y) :
    ∃ hp', stepM ro ⟨hp, h.length, h.length⟩ (.st 2 (.c (.p (some ⟨false, q, 0⟩))) (.c u)) = some (und, ⟨hp', h.length, h.length⟩) ∧ ldM ro ⟨hp', h.length, h.length⟩ false 2 (.p (some ⟨false, q, 0⟩)) = some u ∧ hp'.length = hp.length ∧ (∀ i, i ≠ q → hp'[i]? = hp[i]?) ∧ Keep h hp' := by
  subst hu
  obtain ⟨hp', h1, h2, h3, h4, h5⟩ := a.st (ro := ro) (h := h) (vs' := [.i .i64 x, .i .i64 y]) (v := rV x y) (n := 2) rfl rfl (by rw [hv]; rfl) rfl hL kp
  exact ⟨hp', h1, h2.all rfl, h3, h4, h5⟩

theorem wr_nat {n : Nat} (hn : n ≤ 9223372036854775807) : wr .i64 (n : Int) = (n : Int) := wr_id' (by omega) (by omega)
theorem gcdLoop {b0 : Int × Int → Option ((Int × Int) ⊕ Int)} (hb : ∀ x y, b0 (x, y) = forceB (!eqI y 0) fun c => cond c (chk (!eqI y (.ofNat 0)) <| forceI (Int.tmod x y) fun r => some (.inl (y, r))) (some (.inr x))) (a b : Nat) : loopX b0 ((a : Int), (b : Int)) = some ((Nat.gcd a b : Nat) : Int) := by
  refine gcd_loop (fun a => ?_) (fun a b hb0 => ?_) (b + 1) a b (by omega)
  · rw [hb]; rfl
  · rw [hb]
    have e : (!eqI (b : Int) 0) = true := by rw [eqI_eq]; simp; omega
    have e2 : (!eqI (b : Int) (.ofNat 0)) = true := e
    simp only [e, e2, forceB_eq, cond_true, chk_true, forceI_eq, tmod_nat]

theorem lowest_ok {n d : Nat} (hd : 0 < d) (hn : n ≤ 1000000000) (hd2 : d ≤ 1000000000) : callX F1 ro 63 [.i .i64 (n : Int), .i .i64 (d : Int)] h = some (ratV n d, h, h.length, h.length) := by
  refine g63_ok (meansX_ok F1 ro) rfl ?_
  unfold g63
  rw [al_ok]
  simp only [bindP_some, meansX_loop]
  have hloop := gcdLoop (b0 := fun s => g63_b0 (meansX F1 ro) ro (n : Int) (d : Int) (.p (some ⟨false, h.length, 0⟩)) ⟨h ++ [some (blkOf 42 [(AVal.i IntKind.i64 0), (AVal.i IntKind.i64 0)])], h.length, h.length⟩ s.1 s.2) (fun x y => rfl) n d
  have hg : 0 < Nat.gcd n d := Nat.gcd_pos_of_pos_right n hd
  have e : (!eqI ((Nat.gcd n d : Nat) : Int) (.ofNat 0)) = true := by rw [eqI_eq]; simp; omega
  have w1 : wr .i64 (((n / Nat.gcd n d : Nat)) : Int) = _ := wr_nat (Nat.le_trans (Nat.div_le_self _ _) (by omega))
  have w2 : wr .i64 (((d / Nat.gcd n d : Nat)) : Int) = _ := wr_nat (Nat.le_trans (Nat.div_le_self _ _) (by omega))
  obtain ⟨hp', h1, h2, h3, h4, h5⟩ := put2 (ro := ro) (h := h) (Holds.new h 42 [(AVal.i IntKind.i64 0), (AVal.i IntKind.i64 0)]) rfl (Nat.le_refl _) (Keep.app _) (u := ratV n d) rfl
  simp only [hloop, bindO_some, e, chk_true, forceI_eq, tdiv_nat, w1, w2, fill2]
  have h1' : stepM ro ⟨h ++ [some (blkOf 42 [(AVal.i IntKind.i64 0), (AVal.i IntKind.i64 0)])], h.length, h.length⟩ (.st 2 (.c (.p (some ⟨false, h.length, 0⟩))) (.c (rV ((n / Nat.gcd n d : Nat) : Int) ((d / Nat.gcd n d : Nat) : Int)))) = _ := h1
  simp only [h1', bindP_some, h2, bindO_some, tupA]
  exact fin_keep h5 rfl

/- bits -/
end
end Go.Proofs.Ytnalgdobglfndaa.T

/- How often foretellers are wrong: by bits, and one by one. -/
open Go.Vm
set_option linter.unusedVariables false
namespace Go.Proofs.Ytnalgdobglfndaa.T
open Go

section
variable {ro : List ABlk} {h hp : Heap} {a b v : AVal} {x : List (List Int)} {z : List Int}

theorem shr_nat {n q : Nat} (hq : q ≤ 60) : shrV .i64 (n : Int) (q : Int) = ((n / 2 ^ q : Nat) : Int) := by
  unfold shrV
  have e : min ((q : Int)).toNat (IntKind.bits .i64) = q := by
    have : IntKind.bits .i64 = 64 := rfl
    omega
  rw [e]
  show Int.fdiv (n : Int) ((2 ^ q : Nat) : Int) = _
  rw [Int.fdiv_eq_ediv_of_nonneg _ (Int.natCast_nonneg _)]
  rfl
theorem shl_nat : ∀ k, k < 11 → shlV .i64 1 ((k : Nat) : Int) = ((2 ^ k : Nat) : Int) := by decide
end
end Go.Proofs.Ytnalgdobglfndaa.T

/- Regret: the program's and the reference's. -/
open Go.Vm
set_option linter.unusedVariables false
namespace Go.Proofs.Ytnalgdobglfndaa.T
open Go

section
variable {ro : List ABlk} {h hp : Heap} {a b v : AVal} {x : List (List Int)} {z : List Int}

end
end Go.Proofs.Ytnalgdobglfndaa.T

/- What points are: the program's checks and the reference's. -/
open Go.Vm
set_option linter.unusedVariables false
namespace Go.Proofs.Ytnalgdobglfndaa.T
open Go

def coordP (z : List Int) : Prop := ∀ j, j < z.length → -100 ≤ z.getD j 0 ∧ z.getD j 0 ≤ 100
instance (z : List Int) : Decidable (coordP z) := inferInstanceAs (Decidable (∀ j, j < z.length → -100 ≤ z.getD j 0 ∧ z.getD j 0 ≤ 100))
def pointP (z : List Int) : Prop := 1 ≤ z.length ∧ z.length ≤ 6 ∧ coordP z
instance (z : List Int) : Decidable (pointP z) := inferInstanceAs (Decidable (_ ∧ _))
def signP (n : Int) : Prop := n = 1 ∨ n = -1
instance (n : Int) : Decidable (signP n) := inferInstanceAs (Decidable (_ ∨ _))
def ptP (x : List (List Int)) (z : List Int) (i : Nat) : Prop := (nthR x i).length = (nthR x 0).length ∧ pointP (nthR x i) ∧ signP (z.getD i 0)
instance (x : List (List Int)) (z : List Int) (i : Nat) : Decidable (ptP x z i) := inferInstanceAs (Decidable (_ ∧ _))
def ptsP (x : List (List Int)) (z : List Int) : Prop := 0 < x.length ∧ z.length = x.length ∧ ∀ i, i < x.length → ptP x z i
instance (x : List (List Int)) (z : List Int) : Decidable (ptsP x z) := inferInstanceAs (Decidable (_ ∧ _ ∧ ∀ i, i < x.length → ptP x z i))
section
variable {ro : List ABlk} {h : Heap} {a b : AVal} {x : List (List Int)} {z : List Int}

end
end Go.Proofs.Ytnalgdobglfndaa.T

/- Perceptron: the program's and the reference's. -/
open Go.Vm
set_option linter.unusedVariables false
namespace Go.Proofs.Ytnalgdobglfndaa.T
open Go

def ints (w : List Int) : List AVal := w.map (AVal.i .i64)
/-- the sum of the coordinates times the weights -/
def dotN (p w : List Int) : Nat → Int
  | 0 => 0
  | k + 1 => wr .i64 (dotN p w k + wr .i64 (p.getD k 0 * w.getD k 0))
/-- is the point at which a round is, on its side? -/
def hitP (x : List (List Int)) (z : List Int) (i : Nat) (w : List Int) : Prop := 0 < wr .i64 (z.getD i 0 * dotN (nthR x i) w w.length)
instance (x : List (List Int)) (z : List Int) (i : Nat) (w : List Int) : Decidable (hitP x z i w) := inferInstanceAs (Decidable (_ < _))
section
variable {ro : List ABlk} {h hp : Heap} {a b v : AVal} {x : List (List Int)} {z : List Int}

theorem Holds.wr {b k : Nat} {vs : List AVal} {v : AVal} (a : Holds hp b vs) (hk : k < vs.length) (hv : v.one = true) (hc : v.cells = [v]) (hn : nonp [v] = true) (hL : h.length ≤ b) (kp : Keep h hp) :
    ∃ hp', writesM ro [] [(⟨false, b, 0 + k⟩, AVal.cells v)] ⟨hp, h.length, h.length⟩ = some ⟨hp', h.length, h.length⟩ ∧ Holds hp' b (vs.set k v) ∧ hp'.length = hp.length ∧ (∀ i, i ≠ b → hp'[i]? = hp[i]?) ∧ Keep h hp' := by
  obtain ⟨blk, h1, h2, h3⟩ := a
  refine ⟨hp.set b (some { blk with c := blk.c.set (0 + k) v }), ?_, ⟨_, lget_set h1 _, by simpa using h2, fun j hj => ?_⟩, by simp, fun i hi => List.getElem?_set_ne (Ne.symm hi), kp.set hL _⟩
  · rw [hc, wr_heap h1 (by omega) hv hn, Nat.min_eq_left hL]
  · show (blk.c.set (0 + k) v).get j = _
    rw [get_set]
    simp only [List.length_set] at hj
    by_cases e : 0 + k = j
    · have e' : k = j := by omega
      subst e'; simp [List.getD, hj]
    · rw [if_neg e, h3 j hj]
      simp [List.getD, List.getElem?_set_ne (show k ≠ j by omega)]
end
end Go.Proofs.Ytnalgdobglfndaa.T

/- Perceptron whole; the law that compares both. -/
open Go.Vm
set_option linter.unusedVariables false
namespace Go.Proofs.Ytnalgdobglfndaa.T
open Go

section
variable {ro : List ABlk} {h hp : Heap} {a b v : AVal} {x : List (List Int)} {z : List Int}

end
end Go.Proofs.Ytnalgdobglfndaa.T

/- Goals: what they are, their halves, room, guess. -/
open Go.Vm
set_option linter.unusedVariables false
namespace Go.Proofs.Ytnalgdobglfndaa.T
open Go

def goalP (k : Int) (z : List Int) : Prop := 1 ≤ k ∧ k ≤ 10 ∧ z.length = 2 ^ k.toNat ∧ ∀ j, j < z.length → 0 ≤ z.getD j 0 ∧ z.getD j 0 ≤ k * 60
instance (k : Int) (z : List Int) : Decidable (goalP k z) := inferInstanceAs (Decidable (_ ∧ _ ∧ _ ∧ ∀ j, j < z.length → 0 ≤ z.getD j 0 ∧ z.getD j 0 ≤ k * 60))
/-- part i of 2^j numbers each -/
def subL (z : List Int) (j i : Nat) : List Int := (List.range (2 ^ j)).map fun t => z.getD (i * 2 ^ j + t) 0
theorem subL_len (z : List Int) (j i : Nat) : (subL z j i).length = 2 ^ j := by simp [subL]
theorem subL_get {z : List Int} {j i t : Nat} (h : t < 2 ^ j) : (subL z j i).getD t 0 = z.getD (i * 2 ^ j + t) 0 := by simp [subL, List.getD, h]
theorem subL_all {z : List Int} {k : Nat} (h : z.length = 2 ^ k) : subL z k 0 = z := by
  refine List.ext_getElem (by rw [subL_len, h]) fun t h1 h2 => ?_
  simp [subL, List.getD, h2]
/-- how much may be lost before -/
def roomO (z : List Int) : Nat → Nat → Int
  | 0, i => z.getD i 0
  | j + 1, i => min (min (roomO z j (2 * i) + roomO z j (2 * i + 1) - 60 * 2 ^ j) (2 * roomO z j (2 * i))) (2 * roomO z j (2 * i + 1))
/-- the sum of the numbers t of a part -/
def sumT (z : List Int) (j i : Nat) : Nat → Int
  | 0 => 0
  | t + 1 => sumT z j i t + z.getD (i * 2 ^ j + t) 0
def sumO (z : List Int) (j i : Nat) : Int := sumT z j i (2 ^ j)
/-- the guess before the two halves of part i, in parts of which 60 * 2^(j+1) are a whole -/
def guessO (z : List Int) (j i : Nat) : Int := max 0 (min (60 * 2 ^ j + sumO z j (2 * i) - sumO z j (2 * i + 1)) (60 * 2 ^ (j + 1)))

/-- every number is small -/
def SmallG (z : List Int) : Prop := ∀ j, 0 ≤ z.getD j 0 ∧ z.getD j 0 ≤ 600
theorem small_of {k : Int} {z : List Int} (h : goalP k z) : SmallG z := fun j => by
  rcases Nat.lt_or_ge j z.length with hj | hj
  · have := h.2.2.2 j hj
    have := h.2.1
    omega
  · rw [List.getD_eq_getElem?_getD, List.getElem?_eq_none hj]; simp
theorem sumT_rng {z : List Int} (h : SmallG z) (j i : Nat) : ∀ t, 0 ≤ sumT z j i t ∧ sumT z j i t ≤ 600 * t
  | 0 => by simp [sumT]
  | t + 1 => by
    have h1 := sumT_rng h j i t
    have h2 := h (i * 2 ^ j + t)
    simp only [sumT]; omega
theorem pow_small {j : Nat} (hj : j ≤ 10) : (2 ^ j : Nat) ≤ 1024 := Nat.le_trans (Nat.pow_le_pow_right (by omega) hj) (by decide)
theorem sumO_rng {z : List Int} (h : SmallG z) {j : Nat} (hj : j ≤ 10) (i : Nat) : 0 ≤ sumO z j i ∧ sumO z j i ≤ 614400 := by
  have := sumT_rng h j i (2 ^ j)
  have := pow_small hj
  unfold sumO; omega
theorem roomO_rng {z : List Int} (h : SmallG z) : ∀ j, j ≤ 10 → ∀ i, -(1000 * 4 ^ j) ≤ roomO z j i ∧ roomO z j i ≤ 1000 * 4 ^ j
  | 0, _, i => by have := h i; simp only [roomO]; omega
  | j + 1, hj, i => by
    have h1 := roomO_rng h j (by omega) (2 * i)
    have h2 := roomO_rng h j (by omega) (2 * i + 1)
    have h3 : (2 : Int) ^ j ≤ 4 ^ j := by
      have : (2 ^ j : Nat) ≤ 4 ^ j := Nat.pow_le_pow_left (by omega) j
      have e1 : ((2 ^ j : Nat) : Int) = 2 ^ j := by simp
      have e2 : ((4 ^ j : Nat) : Int) = 4 ^ j := by simp
      omega
    have h4 : (0 : Int) ≤ 2 ^ j := Int.le_of_lt (Int.pow_pos (by decide))
    have h5 : (4 : Int) ^ (j + 1) = 4 * 4 ^ j := by rw [Int.pow_succ]; omega
    simp only [roomO]
    omega
theorem four10 {j : Nat} (hj : j ≤ 10) : (4 : Int) ^ j ≤ 1048576 := by
  have h : (4 ^ j : Nat) ≤ 4 ^ 10 := Nat.pow_le_pow_right (by omega) hj
  have e : ((4 ^ j : Nat) : Int) = 4 ^ j := by simp
  have : (4 ^ 10 : Nat) = 1048576 := by decide
  omega

section
variable {ro : List ABlk} {h hp : Heap} {a b v : AVal} {x : List (List Int)} {z : List Int}

theorem mxF_eq {a c : Int} : mxV false a c = min a c := by
  unfold mxV; simp only [Bool.false_eq_true, if_false]; split <;> omega
theorem mxT_eq {a c : Int} : mxV true a c = max a c := by
  unfold mxV; simp only [if_true]; split <;> omega

theorem isGoal_ok {k : Int} (hb : IsRow ro h b z) (hz : z.length ≤ 9223372036854775807) : callX F1 ro 58 [.i .i64 k, b] h = some (.b (decide (goalP k z)), h, h.length, h.length) := by
  refine g58_ok (meansX_ok F1 ro) rfl ?_
  unfold g58
  simp only [len_row hb, bindO_some, asI_i, forceB_eq, ltI_eq, meansX_loop, eqI_eq]
  by_cases h1 : k < 1
  · simp only [dT h1, cond_true, bindO_some, dF (show ¬ goalP k z from fun hh => by have := hh.1; omega), tupA]; exact fin_pure rfl
  by_cases h2 : 10 < k
  · simp only [dF h1, dT h2, cond_true, cond_false, bindO_some, dF (show ¬ goalP k z from fun hh => by have := hh.2.1; omega), tupA]; exact fin_pure rfl
  obtain ⟨K, rfl⟩ : ∃ K : Nat, k = (K : Int) := ⟨k.toNat, by omega⟩
  have hK : K ≤ 10 := by omega
  have hp2 := pow_small hK
  simp only [dF h1, dF h2, cond_false, bindO_some, nneg, chk_true, forceI_eq, shl_nat K (by omega)]
  by_cases h3 : z.length = 2 ^ K
  case neg =>
    have e3 : (!((z.length : Int) == ((2 ^ K : Nat) : Int))) = true := by
      have : ¬ (z.length : Int) = ((2 ^ K : Nat) : Int) := by omega
      simp only [Bool.not_eq_true', beq_eq_false_iff_ne]; exact this
    simp only [e3, cond_true, dF (show ¬ goalP (K : Int) z from fun hh => h3 (by have := hh.2.2.1; simpa using this)), tupA]; exact fin_pure rfl
  have e3 : (!((z.length : Int) == ((2 ^ K : Nat) : Int))) = false := by rw [h3]; simp
  simp only [e3, cond_false]
  have hloop := loop_if (b := fun s => g58_b2 (meansX F1 ro) ro (K : Int) b z.length ⟨h, h.length, h.length⟩ s) (fun i => (i : Int)) z.length (fun i => 0 ≤ z.getD i 0 ∧ z.getD i 0 ≤ (K : Int) * 60) (.inl ()) (.inr false) ?_ ?_ ?_
  · have e0 : ((0 : Nat) : Int) = 0 := rfl
    rw [e0] at hloop
    rw [hloop]
    by_cases hf : ∀ j, j < z.length → 0 ≤ z.getD j 0 ∧ z.getD j 0 ≤ (K : Int) * 60
    · rw [if_pos hf]
      simp only [bindO_some, dT (show goalP (K : Int) z from ⟨by omega, by omega, by simpa using h3, hf⟩), tupA]; exact fin_pure rfl
    · rw [if_neg hf]
      simp only [bindO_some, dF (show ¬ goalP (K : Int) z from fun hh => hf hh.2.2.2), tupA]; exact fin_pure rfl
  · simp only [g58_b2, forceB_eq, ltI_eq, lt_no, cond_false]
  all_goals
    intro i hi hp
    obtain ⟨p, h1, h2, h3⟩ := at_row (m := ⟨h, h.length, h.length⟩) rfl hb hi
    simp only [g58_b2, forceB_eq, ltI_eq, lt_yes hi, cond_true, h1, h2, bindO_some, asI_i, forceI_eq, wr_id' (show -9223372036854775808 ≤ (K : Int) * 60 by omega) (by omega)]
    by_cases h4 : z.getD i 0 < 0
    · first
      | (simp only [dT h4, cond_true, bindO_some]; done)
      | (exact absurd hp.1 (by omega))
    · by_cases h5 : (K : Int) * 60 < z.getD i 0
      · first
        | (simp only [dF h4, dT h5, cond_true, cond_false, bindO_some]; done)
        | (exact absurd hp.2 (by omega))
      · first
        | (simp only [dF h4, dF h5, cond_false, bindO_some]; rw [wr_next (by omega)]; done)
        | (exact absurd (⟨by omega, by omega⟩ : 0 ≤ z.getD i 0 ∧ z.getD i 0 ≤ (K : Int) * 60) hp)

theorem Goal_ok {k : Int} (hb : IsRow ro h b z) (hz : z.length ≤ 9223372036854775807) : callX F1 ro 44 [.i .i64 k, b] h = some (.b (decide (goalP k z)), h, h.length, h.length) := by
  refine g44_ok (meansX_ok F1 ro) rfl ?_
  unfold g44
  simp only [len_row hb, bindO_some, asI_i, forceB_eq, ltI_eq, meansX_loop, eqI_eq]
  by_cases h1 : k < 1
  · simp only [dT h1, cond_true, bindO_some, dF (show ¬ goalP k z from fun hh => by have := hh.1; omega), tupA]; exact fin_pure rfl
  by_cases h2 : 10 < k
  · simp only [dF h1, dT h2, cond_true, cond_false, bindO_some, dF (show ¬ goalP k z from fun hh => by have := hh.2.1; omega), tupA]; exact fin_pure rfl
  obtain ⟨K, rfl⟩ : ∃ K : Nat, k = (K : Int) := ⟨k.toNat, by omega⟩
  have hK : K ≤ 10 := by omega
  have hp2 := pow_small hK
  simp only [dF h1, dF h2, cond_false, bindO_some, nneg, chk_true, forceI_eq, shl_nat K (by omega)]
  by_cases h3 : z.length = 2 ^ K
  case neg =>
    have e3 : (!((z.length : Int) == ((2 ^ K : Nat) : Int))) = true := by
      have : ¬ (z.length : Int) = ((2 ^ K : Nat) : Int) := by omega
      simp only [Bool.not_eq_true', beq_eq_false_iff_ne]; exact this
    simp only [e3, cond_true, dF (show ¬ goalP (K : Int) z from fun hh => h3 (by have := hh.2.2.1; simpa using this)), tupA]; exact fin_pure rfl
  have e3 : (!((z.length : Int) == ((2 ^ K : Nat) : Int))) = false := by rw [h3]; simp
  simp only [e3, cond_false]
  have hloop := loop_if (b := fun s => g44_b2 (meansX F1 ro) ro (K : Int) b ⟨h, h.length, h.length⟩ s) (fun i => (i : Int)) z.length (fun i => 0 ≤ z.getD i 0 ∧ z.getD i 0 ≤ (K : Int) * 60) (.inl ()) (.inr false) ?_ ?_ ?_
  · have e0 : ((0 : Nat) : Int) = 0 := rfl
    rw [e0] at hloop
    rw [hloop]
    by_cases hf : ∀ j, j < z.length → 0 ≤ z.getD j 0 ∧ z.getD j 0 ≤ (K : Int) * 60
    · rw [if_pos hf]
      simp only [bindO_some, dT (show goalP (K : Int) z from ⟨by omega, by omega, by simpa using h3, hf⟩), tupA]; exact fin_pure rfl
    · rw [if_neg hf]
      simp only [bindO_some, dF (show ¬ goalP (K : Int) z from fun hh => hf hh.2.2.2), tupA]; exact fin_pure rfl
  · simp only [g44_b2, len_row hb, bindO_some, asI_i, forceB_eq, ltI_eq, lt_no, cond_false]
  all_goals
    intro i hi hp
    obtain ⟨p, h1, h2, h3⟩ := at_row (m := ⟨h, h.length, h.length⟩) rfl hb hi
    simp only [g44_b2, len_row hb, bindO_some, asI_i, forceB_eq, ltI_eq, lt_yes hi, cond_true, h1, h2, forceI_eq, wr_id' (show -9223372036854775808 ≤ (K : Int) * 60 by omega) (by omega)]
    by_cases h4 : z.getD i 0 < 0
    · first
      | (simp only [dT h4, cond_true, bindO_some]; done)
      | (exact absurd hp.1 (by omega))
    · by_cases h5 : (K : Int) * 60 < z.getD i 0
      · first
        | (simp only [dF h4, dT h5, cond_true, cond_false, bindO_some]; done)
        | (exact absurd hp.2 (by omega))
      · first
        | (simp only [dF h4, dF h5, cond_false, bindO_some]; rw [wr_next (by omega)]; done)
        | (exact absurd (⟨by omega, by omega⟩ : 0 ≤ z.getD i 0 ∧ z.getD i 0 ≤ (K : Int) * 60) hp)

/-- a part of a goal in memory -/
def IsSub (ro : List ABlk) (h : Heap) (v : AVal) (z : List Int) (j i : Nat) : Prop := IsRow ro h v (subL z j i) ∧ CapO v
theorem IsSub.bel {j i : Nat} (a : IsSub ro h v z j i) : v.bel h.length = true := row_bel a.1
theorem IsSub.len {j i : Nat} (a : IsSub ro h v z j i) : evP .e (.len false (.c v)) = some (.i .i64 ((2 ^ j : Nat) : Int)) := by
  have := len_row a.1
  rwa [subL_len] at this

theorem after_ok {j i n : Nat} (hj : j ≤ 10) (a : IsSub ro h v z (j + 1) i) (hn : n < 2) : ∃ u, callX F1 ro 62 [v, .i .i64 (n : Int)] h = some (u, h, h.length, h.length) ∧ IsSub ro h u z j (2 * i + n) := by
  obtain ⟨hr, hc⟩ := id a
  have hp := pow_small hj
  have hp0 := Nat.two_pow_pos j
  have hps : 2 ^ (j + 1) = 2 * 2 ^ j := by rw [Nat.pow_succ]; omega
  rcases hr with ⟨-, hnil⟩ | ⟨q, cap, blk, rfl, hb, hbn, hg⟩
  · have := subL_len z (j + 1) i; rw [hnil] at this; simp at this; omega
  rw [subL_len] at hbn hg hc
  have hlen := a.len
  have hw : Go.Vm.wr .i64 (Int.tdiv ((2 ^ (j + 1) : Nat) : Int) 2) = ((2 ^ j : Nat) : Int) := by
    have : Int.tdiv ((2 ^ (j + 1) : Nat) : Int) 2 = ((2 ^ (j + 1) / 2 : Nat) : Int) := tdiv_nat _ 2
    rw [this, show 2 ^ (j + 1) / 2 = 2 ^ j by omega, wr_nat (by omega)]
  have hnn : n = 0 ∨ n = 1 := by omega
  rcases hnn with rfl | rfl
  · refine ⟨.sl q (2 ^ j) cap, g62_ok (meansX_ok F1 ro) rfl ?_, .inr ⟨q, cap, blk, by rw [subL_len], hb, by rw [subL_len]; omega, fun t ht => ?_⟩, fun q' n' c' e => ?_⟩
    · unfold g62
      have e1 : evP .e (.slS 1 (.c (.sl q (subL z (j + 1) i).length cap)) none (some (.c (.i .i64 ((2 ^ j : Nat) : Int)))) none) = some (.sl q (2 ^ j) cap) := by
        have hcb : 2 ^ j ≤ capB cap (2 ^ (j + 1)) := by
          cases cap with
          | known c => have := hc q _ c rfl; show 2 ^ j ≤ c; omega
          | grow => show 2 ^ j ≤ 2 ^ (j + 1); omega
          | any => show 2 ^ j ≤ 2 ^ (j + 1); omega
        have hble : Nat.ble (2 ^ j) (capB cap (2 ^ (j + 1))) = true := by rw [Nat.ble_eq]; exact hcb
        rw [subL_len]
        have en : ((2 ^ j : Nat) : Int) = Int.ofNat (2 ^ j) := rfl
        simp only [evP, ev_slS, opd, sl_lh, Option.map_some, Option.map_none, sbound, en, hble, cond_true]
      have hlen' : evP .e (.len false (.c (.sl q (subL z (j + 1) i).length cap))) = _ := hlen
      simp only [hlen', bindO_some, asI_i, forceI_eq, hw, forceB_eq, eqI_eq, show (((0 : Nat) : Int) == 0) = true from rfl, cond_true, e1, tupA]
      exact fin_pure (by simpa [AVal.bel] using rdB_lt hb)
    · rw [subL_len] at ht
      rw [hg t (by omega), subL_get ht, subL_get (by omega), show 2 * i + 0 = 2 * i by omega, hps, show i * (2 * 2 ^ j) = 2 * i * 2 ^ j by rw [Nat.mul_left_comm, Nat.mul_assoc]]
    · cases e
      have := hc q _ c' rfl
      omega
  · have key : ∃ cap', evP .e (.slS 1 (.c (.sl q (subL z (j + 1) i).length cap)) (some (.c (.i .i64 ((2 ^ j : Nat) : Int)))) none none) = some (.sl ⟨q.ro, q.b, q.off + 2 ^ j⟩ (2 ^ j) cap') ∧ CapO (.sl ⟨q.ro, q.b, q.off + 2 ^ j⟩ (2 ^ j) cap') := by
      rw [subL_len]
      have hcb : 2 ^ (j + 1) ≤ capB cap (2 ^ (j + 1)) := by
        cases cap with
        | known c => have := hc q _ c rfl; exact this
        | grow => exact Nat.le_refl _
        | any => exact Nat.le_refl _
      have hble2 : Nat.ble (2 ^ j) (2 ^ (j + 1)) = true := by rw [Nat.ble_eq]; omega
      have en : ((2 ^ j : Nat) : Int) = Int.ofNat (2 ^ j) := rfl
      obtain ⟨m, hm⟩ : ∃ m, 2 ^ j = m + 1 := ⟨2 ^ j - 1, by omega⟩
      have hs : 2 ^ (j + 1) - (m + 1) = 2 ^ j := by omega
      cases cap with
      | known c =>
        have hcc := hc q _ c rfl
        have hblt : Nat.blt (m + 1) c = true := by rw [Nat.blt_eq]; omega
        refine ⟨.known (c - (m + 1)), ?_, fun q' n' c' e => by cases e; omega⟩
        rw [hm] at hble2 en
        simp only [evP, ev_slS, opd, sl_lh, Option.map_some, Option.map_none, sbound, hm, en, hble2, cond_true, hblt, Nat.mul_one]
        rw [show 2 ^ (j + 1) - (m + 1) = m + 1 by omega]
      | grow =>
        have hblt : Nat.blt (m + 1) (2 ^ (j + 1)) = true := by rw [Nat.blt_eq]; omega
        refine ⟨.any, ?_, fun q' n' c' e => by cases e⟩
        rw [hm] at hble2 en
        simp only [evP, ev_slS, opd, sl_lh, Option.map_some, Option.map_none, sbound, hm, en, hble2, cond_true, hblt, Nat.mul_one]
        rw [show 2 ^ (j + 1) - (m + 1) = m + 1 by omega]
      | any =>
        have hblt : Nat.blt (m + 1) (2 ^ (j + 1)) = true := by rw [Nat.blt_eq]; omega
        refine ⟨.any, ?_, fun q' n' c' e => by cases e⟩
        rw [hm] at hble2 en
        simp only [evP, ev_slS, opd, sl_lh, Option.map_some, Option.map_none, sbound, hm, en, hble2, cond_true, hblt, Nat.mul_one]
        rw [show 2 ^ (j + 1) - (m + 1) = m + 1 by omega]
    obtain ⟨cap', e1, e2⟩ := key
    have hb' : rdB ro h ⟨q.ro, q.b, q.off + 2 ^ j⟩ = some blk := hb
    refine ⟨.sl ⟨q.ro, q.b, q.off + 2 ^ j⟩ (2 ^ j) cap', g62_ok (meansX_ok F1 ro) rfl ?_, .inr ⟨⟨q.ro, q.b, q.off + 2 ^ j⟩, cap', blk, by rw [subL_len], hb', by rw [subL_len]; show q.off + 2 ^ j + 2 ^ j ≤ blk.n; omega, fun t ht => ?_⟩, e2⟩
    · unfold g62
      have hlen' : evP .e (.len false (.c (.sl q (subL z (j + 1) i).length cap))) = _ := hlen
      simp only [hlen', bindO_some, asI_i, forceI_eq, hw, forceB_eq, eqI_eq, show (((1 : Nat) : Int) == 0) = false from rfl, cond_false, e1, tupA]
      exact fin_pure (by simpa [AVal.bel] using rdB_lt hb)
    · rw [subL_len] at ht
      show blk.c.get (q.off + 2 ^ j + t) = _
      rw [Nat.add_assoc, hg (2 ^ j + t) (by omega), subL_get ht, subL_get (by omega), hps, Nat.add_mul, show i * (2 * 2 ^ j) = 2 * i * 2 ^ j by rw [Nat.mul_left_comm, Nat.mul_assoc], Nat.one_mul, Nat.add_assoc]

theorem room_ok (hs : SmallG z) : ∀ j, j ≤ 10 → ∀ (i : Nat) (v : AVal), IsSub ro h v z j i → callX F1 ro 59 [v] h = some (.i .i64 (roomO z j i), h, h.length, h.length)
  | 0, _, i, v, a => by
    refine g59_ok (meansX_ok F1 ro) rfl ?_
    unfold g59
    obtain ⟨p, h1, h2, h3⟩ := at_row (m := ⟨h, h.length, h.length⟩) rfl a.1 (i := 0) (by rw [subL_len]; decide)
    rw [subL_get (by decide)] at h2
    have e0 : ((0 : Nat) : Int) = 0 := rfl
    rw [e0] at h1
    simp only [a.len, bindO_some, asI_i, forceB_eq, eqI_eq, show (((2 ^ 0 : Nat) : Int) == 1) = true from rfl, cond_true, h1, h2, tupA]
    have : roomO z 0 i = z.getD (i * 2 ^ 0 + 0) 0 := by simp [roomO]
    rw [this]
    exact fin_pure rfl
  | j + 1, hj, i, v, a => by
    obtain ⟨u0, c0, s0⟩ := after_ok (n := 0) (by omega) a (by omega)
    obtain ⟨u1, c1, s1⟩ := after_ok (n := 1) (by omega) a (by omega)
    have r0 := room_ok hs j (by omega) _ u0 s0
    have r1 := room_ok hs j (by omega) _ u1 s1
    have b0 := roomO_rng hs j (by omega) (2 * i)
    have b1 := roomO_rng hs j (by omega) (2 * i + 1)
    have f := four10 (show j ≤ 10 by omega)
    have hp := pow_small (show j ≤ 10 by omega)
    have hp0 := Nat.two_pow_pos j
    have hps : 2 ^ (j + 1) = 2 * 2 ^ j := by rw [Nat.pow_succ]; omega
    refine g59_ok (meansX_ok F1 ro) rfl ?_
    unfold g59
    have e1 : (((2 ^ (j + 1) : Nat) : Int) == 1) = false := by rw [beq_eq_false_iff_ne]; omega
    have c0' : callX F1 ro 62 [v, .i .i64 0] h = _ := c0
    have c1' : callX F1 ro 62 [v, .i .i64 1] h = _ := c1
    rw [show 2 * i + 0 = 2 * i by omega] at r0
    have w1 : Go.Vm.wr .i64 (60 * ((2 ^ (j + 1) : Nat) : Int)) = ((60 * 2 ^ (j + 1) : Nat) : Int) := by rw [wr_id' (by omega) (by omega)]; omega
    have w2 : Go.Vm.wr .i64 (Int.tdiv ((60 * 2 ^ (j + 1) : Nat) : Int) 2) = ((60 * 2 ^ j : Nat) : Int) := by
      have : Int.tdiv ((60 * 2 ^ (j + 1) : Nat) : Int) 2 = ((60 * 2 ^ (j + 1) / 2 : Nat) : Int) := tdiv_nat _ 2
      rw [this, show 60 * 2 ^ (j + 1) / 2 = 60 * 2 ^ j by omega, wr_nat (by omega)]
    simp only [a.len, bindO_some, asI_i, forceB_eq, eqI_eq, e1, cond_false, meansX_call, cp0 c0', bindP_some, cp0 r0, cp0 c1', cp0 r1, forceI_eq, w1, w2, wr_id' (show -9223372036854775808 ≤ roomO z j (2 * i) + roomO z j (2 * i + 1) by omega) (by omega)]
    rw [wr_id' (by omega) (by omega), wr_id' (by omega) (by omega), wr_id' (by omega) (by omega), mxF_eq, mxF_eq]
    have : roomO z (j + 1) i = min (min (roomO z j (2 * i) + roomO z j (2 * i + 1) - ((60 * 2 ^ j : Nat) : Int)) (2 * roomO z j (2 * i))) (2 * roomO z j (2 * i + 1)) := by
      simp only [roomO]
      have : ((60 * 2 ^ j : Nat) : Int) = 60 * 2 ^ j := by simp
      rw [this]
    rw [← this]
    exact fin_pure rfl

theorem sum_ok {j i : Nat} (hs : SmallG z) (hj : j ≤ 10) (a : IsSub ro h v z j i) : callX F1 ro 76 [v] h = some (.i .i64 (sumO z j i), h, h.length, h.length) := by
  refine g76_ok (meansX_ok F1 ro) rfl ?_
  unfold g76
  have hp := pow_small hj
  have hloop := loop_run (b := fun s : Int × Int => g76_b0 (meansX F1 ro) ro v ((2 ^ j : Nat) : Int) ⟨h, h.length, h.length⟩ s.1 s.2) (fun t => (sumT z j i t, (t : Int))) (2 ^ j) (r0 := sumO z j i) ?_ ?_
  · have e0 : ((0 : Nat) : Int) = 0 := rfl
    have e1 : sumT z j i 0 = 0 := rfl
    rw [e0, e1] at hloop
    simp only [a.len, bindO_some, asI_i, meansX_loop, hloop, tupA]
    exact fin_pure rfl
  · simp only [g76_b0, forceB_eq, ltI_eq, lt_no, cond_false]; rfl
  · intro t ht
    obtain ⟨p, h1, h2, h3⟩ := at_row (m := ⟨h, h.length, h.length⟩) rfl a.1 (i := t) (by rw [subL_len]; exact ht)
    rw [subL_get ht] at h2
    have hb := sumT_rng hs j i t
    have hb2 := hs (i * 2 ^ j + t)
    simp only [g76_b0, forceB_eq, ltI_eq, lt_yes ht, cond_true, h1, h2, bindO_some, asI_i, forceI_eq]
    rw [wr_next (by omega), wr_id' (by omega) (by omega)]; rfl

theorem guess_ok {j i : Nat} (hs : SmallG z) (hj : j ≤ 9) (a : IsSub ro h v z (j + 1) i) : callX F1 ro 64 [v] h = some (.tup [.i .i64 (guessO z j i), .i .i64 ((60 * 2 ^ (j + 1) : Nat) : Int)], h, h.length, h.length) := by
  obtain ⟨u0, c0, s0⟩ := after_ok (n := 0) (by omega) a (by omega)
  obtain ⟨u1, c1, s1⟩ := after_ok (n := 1) (by omega) a (by omega)
  have r0 := sum_ok hs (by omega) s0
  have r1 := sum_ok hs (by omega) s1
  have b0 := sumO_rng hs (show j ≤ 10 by omega) (2 * i)
  have b1 := sumO_rng hs (show j ≤ 10 by omega) (2 * i + 1)
  have hp := pow_small (show j ≤ 10 by omega)
  have hps : 2 ^ (j + 1) = 2 * 2 ^ j := by rw [Nat.pow_succ]; omega
  refine g64_ok (meansX_ok F1 ro) rfl ?_
  unfold g64
  have c0' : callX F1 ro 62 [v, .i .i64 0] h = _ := c0
  have c1' : callX F1 ro 62 [v, .i .i64 1] h = _ := c1
  rw [show 2 * i + 0 = 2 * i by omega] at r0
  have w1 : Go.Vm.wr .i64 (60 * ((2 ^ (j + 1) : Nat) : Int)) = ((60 * 2 ^ (j + 1) : Nat) : Int) := by rw [wr_id' (by omega) (by omega)]; omega
  have w2 : Go.Vm.wr .i64 (Int.tdiv ((60 * 2 ^ (j + 1) : Nat) : Int) 2) = ((60 * 2 ^ j : Nat) : Int) := by
    have : Int.tdiv ((60 * 2 ^ (j + 1) : Nat) : Int) 2 = ((60 * 2 ^ (j + 1) / 2 : Nat) : Int) := tdiv_nat _ 2
    rw [this, show 60 * 2 ^ (j + 1) / 2 = 60 * 2 ^ j by omega, wr_nat (by omega)]
  have w3 : Go.Vm.wr .i64 (((60 * 2 ^ j : Nat) : Int) + sumO z j (2 * i)) = _ := wr_id' (by omega) (by omega)
  have w4 : Go.Vm.wr .i64 (((60 * 2 ^ j : Nat) : Int) + sumO z j (2 * i) - sumO z j (2 * i + 1)) = _ := wr_id' (by omega) (by omega)
  simp only [a.len, bindO_some, asI_i, forceI_eq, w1, w2, meansX_call, cp0 c0', bindP_some, cp0 r0, cp0 c1', cp0 r1, w3, w4, mxF_eq, mxT_eq]
  have : guessO z j i = max 0 (min (((60 * 2 ^ j : Nat) : Int) + sumO z j (2 * i) - sumO z j (2 * i + 1)) ((60 * 2 ^ (j + 1) : Nat) : Int)) := by
    have e1 : ((60 * 2 ^ j : Nat) : Int) = 60 * 2 ^ j := by simp
    have e2 : ((60 * 2 ^ (j + 1) : Nat) : Int) = 60 * 2 ^ (j + 1) := by simp
    rw [e1, e2]; rfl
  rw [← this]
  exact fin_pure rfl
end
end Go.Proofs.Ytnalgdobglfndaa.T

/- Can: the program's and the reference's. -/
open Go.Vm
set_option linter.unusedVariables false
namespace Go.Proofs.Ytnalgdobglfndaa.T
open Go

section
variable {ro : List ABlk} {h hp : Heap} {a b v : AVal} {x : List (List Int)} {z : List Int}

theorem GV.len {L k : Nat} {zs : List Int} (g : GV hp L 3 1 v k (ints zs)) : evP .e (.len false (.c v)) = some (.i .i64 (k : Int)) := by
  rcases g with ⟨rfl, rfl, -⟩ | ⟨b, blk, rfl, -⟩
  · rfl
  · simp [evP, ev_len, opd, mkI_eq]
end
end Go.Proofs.Ytnalgdobglfndaa.T

/- Can, Guess and Loss: the program's and the reference's. -/
open Go.Vm
set_option linter.unusedVariables false
namespace Go.Proofs.Ytnalgdobglfndaa.T
open Go

/-- what Can answers -/
def canR (k : Int) (z : List Int) : Int × Int := if goalP k z then (if 0 ≤ roomO z k.toNat 0 then (1, 0) else (0, 0)) else (0, 2)
/-- what is lost in the night t of a series, of 60 * 2^k parts -/
def loseO (z : List Int) (k s t : Nat) : Int := (if s / 2 ^ (k - 1 - t) % 2 = 1 then 60 * 2 ^ (k - t) - guessO z (k - 1 - t) (s / 2 ^ (k - t)) else guessO z (k - 1 - t) (s / 2 ^ (k - t))) * 2 ^ t
def lossO (z : List Int) (k s : Nat) : Nat → Int
  | 0 => 0
  | t + 1 => lossO z k s t + loseO z k s t
/-- what Loss answers -/
def lossR (k : Int) (z : List Int) (s : Int) : AVal :=
  if ¬ goalP k z then .tup [rV 0 0, .i .i64 2] else if s < 0 ∨ ¬ s < (2 ^ k.toNat : Nat) then .tup [rV 0 0, .i .i64 4] else if ¬ 0 ≤ roomO z k.toNat 0 then .tup [rV 0 0, .i .i64 10] else
  .tup [ratV (lossO z k.toNat s.toNat k.toNat).toNat (60 * 2 ^ k.toNat), .i .i64 0]

theorem guessO_rng (z : List Int) (j i : Nat) : 0 ≤ guessO z j i ∧ guessO z j i ≤ ((60 * 2 ^ (j + 1) : Nat) : Int) := by
  have e : ((60 * 2 ^ (j + 1) : Nat) : Int) = 60 * 2 ^ (j + 1) := by simp
  rw [e]
  have : (0 : Int) < 2 ^ (j + 1) := Int.pow_pos (by decide)
  unfold guessO; omega
theorem loseO_rng {z : List Int} {k s t : Nat} (ht : t < k) (hk : k ≤ 10) : 0 ≤ loseO z k s t ∧ loseO z k s t ≤ 61440 := by
  obtain ⟨g1, g2⟩ := guessO_rng z (k - 1 - t) (s / 2 ^ (k - t))
  rw [show k - 1 - t + 1 = k - t by omega] at g2
  have e : ((60 * 2 ^ (k - t) : Nat) : Int) = 60 * 2 ^ (k - t) := by simp
  rw [e] at g2
  have hp : 2 ^ (k - t) * 2 ^ t = 2 ^ k := by rw [← Nat.pow_add]; congr 1; omega
  have hk2 := pow_small hk
  have h0 : (0 : Int) ≤ 2 ^ t := Int.le_of_lt (Int.pow_pos (by decide))
  have key : ∀ x : Int, 0 ≤ x → x ≤ 60 * 2 ^ (k - t) → 0 ≤ x * 2 ^ t ∧ x * 2 ^ t ≤ 61440 := by
    intro x h1 h2
    refine ⟨Int.mul_nonneg h1 h0, ?_⟩
    have := Int.mul_le_mul_of_nonneg_right h2 h0
    have e2 : (60 * 2 ^ (k - t) : Int) * 2 ^ t = ((60 * (2 ^ (k - t) * 2 ^ t) : Nat) : Int) := by simp [Int.mul_assoc]
    rw [e2, hp] at this
    omega
  unfold loseO
  split
  · exact key _ (by omega) (by omega)
  · exact key _ (by omega) (by omega)
theorem lossO_rng {z : List Int} {k s : Nat} (hk : k ≤ 10) : ∀ t, t ≤ k → 0 ≤ lossO z k s t ∧ lossO z k s t ≤ 61440 * t
  | 0, _ => by simp [lossO]
  | t + 1, ht => by
    have h1 := lossO_rng (z := z) (s := s) hk t (by omega)
    have h2 := loseO_rng (z := z) (s := s) (show t < k by omega) hk
    simp only [lossO]; omega

section
variable {ro : List ABlk} {h hp : Heap} {a b c v : AVal} {x : List (List Int)} {z y : List Int}

theorem sub_all {k : Int} (hg : goalP k z) (hb : IsRow ro h b z) (hc : CapO b) : IsSub ro h b z k.toNat 0 := by
  refine ⟨?_, hc⟩
  rw [subL_all hg.2.2.1]; exact hb

theorem Can_ok {k : Int} (hb : IsRow ro h b z) (hc : CapO b) (hz : z.length ≤ 9223372036854775807) : callX F1 ro 29 [.i .i64 k, b] h = some (.tup [.i .i64 (canR k z).1, .i .i64 (canR k z).2], h, h.length, h.length) := by
  refine g29_ok (meansX_ok F1 ro) rfl ?_
  unfold g29
  simp only [meansX_call, cp0 (isGoal_ok (k := k) hb hz), bindP_some, asB_b, forceB_eq]
  by_cases hg : goalP k z
  · have hr := room_ok (ro := ro) (h := h) (small_of hg) k.toNat (by have := hg.2.1; omega) 0 b (sub_all hg hb hc)
    simp only [dT hg, Bool.not_true, cond_false, cp0 hr, bindP_some, asI_i, ltI_eq, canR, if_pos hg]
    by_cases h0 : 0 ≤ roomO z k.toNat 0
    · simp only [dF (show ¬ roomO z k.toNat 0 < 0 by omega), cond_false, if_pos h0, tupA]; exact fin_pure rfl
    · simp only [dT (show roomO z k.toNat 0 < 0 by omega), cond_true, if_neg h0, tupA]; exact fin_pure rfl
  · simp only [dF hg, Bool.not_false, cond_true, canR, if_neg hg, tupA]; exact fin_pure rfl
/-- the end of a call that answers a ratio, kept in a cell: h0 the heap, with the cell -/
theorem endR {h0 : Heap} (hc : Holds h0 h.length [(AVal.i IntKind.i64 0), (AVal.i IntKind.i64 0)]) (kp : Keep h h0) {u : AVal} {e n d : Int} (hu : u = rV n d) :
    (bindP (stepM ro ⟨h0, h.length, h.length⟩ (.st 2 (.c (.p (some ⟨false, h.length, 0⟩))) (.c u))) fun vn m_4 => bindO (ldM ro m_4 false 2 (.p (some ⟨false, h.length, 0⟩))) fun vr => finM h.length (tupA [vr, (.i .i64 e)]) m_4) = some (.tup [u, .i .i64 e], h, h.length, h.length) := by
  obtain ⟨hp', h1, h2, h3, h4, h5⟩ := put2 (ro := ro) (h := h) hc rfl (Nat.le_refl _) kp hu
  simp only [h1, bindP_some, h2, bindO_some, tupA]
  exact fin_keep h5 (by subst hu; rfl)
abbrev cell0 (h : Heap) : Heap := h ++ [some (blkOf 42 [(AVal.i IntKind.i64 0), (AVal.i IntKind.i64 0)])]
theorem cell0_keep (h : Heap) : Keep h (cell0 h) := Keep.app _
theorem cell0_holds (h : Heap) : Holds (cell0 h) h.length [(AVal.i IntKind.i64 0), (AVal.i IntKind.i64 0)] := Holds.new h 42 _
theorem cpc {f : Nat} {a : List AVal} {u : AVal} (e : callX F1 ro f a (cell0 h) = some (u, cell0 h, (cell0 h).length, (cell0 h).length)) : callM (callX F1 ro) ⟨cell0 h, h.length, h.length⟩ f a = some (u, ⟨cell0 h, h.length, h.length⟩) := cp e (by simp) (by simp)

theorem shr_div {s k t : Nat} (ht : t < k) (hk : k ≤ 10) : shrV .i64 (s : Int) ((k - 1 - t : Nat) : Int) = ((s / 2 ^ (k - 1 - t) : Nat) : Int) := shr_nat (by omega)
theorem and_one : ∀ n, n < 2048 → bitV .and .i64 ((n : Nat) : Int) 1 = ((n % 2 : Nat) : Int) := by decide +kernel
theorem half_idx {s k t : Nat} (ht : t < k) : 2 * (s / 2 ^ (k - t)) + s / 2 ^ (k - 1 - t) % 2 = s / 2 ^ (k - (t + 1)) := by
  rw [show k - t = (k - 1 - t) + 1 by omega, show k - (t + 1) = k - 1 - t by omega, Nat.pow_succ, ← Nat.div_div_eq_div_mul]; omega

theorem Loss_ok {k s : Int} (hb : IsRow ro h b z) (hc : CapO b) (hz : z.length ≤ 9223372036854775807) : callX F1 ro 33 [.i .i64 k, b, .i .i64 s] h = some (lossR k z s, h, h.length, h.length) := by
  refine g33_ok (meansX_ok F1 ro) rfl ?_
  unfold g33
  rw [al_ok]
  have hb1 := row_by hb (cell0_keep h)
  simp only [bindP_some, meansX_call, cpc (Can_ok (k := k) hb1 hc hz), ext0, ext1, bindO_some, asI_i, forceB_eq, eqI_eq]
  by_cases hg : goalP k z
  case neg =>
    have e2 : (canR k z).2 = 2 := by unfold canR; rw [if_neg hg]
    simp only [e2, show (!((2 : Int) == 0)) = true from rfl, cond_true, fill0, bindO_some, endR (cell0_holds h) (cell0_keep h) (u := rV 0 0) rfl]
    unfold lossR; rw [if_pos hg]
  have e : (!((canR k z).2 == 0)) = false := by unfold canR; rw [if_pos hg]; split <;> rfl
  simp only [e, cond_false, ltI_eq]
  have hzl : z.length = 2 ^ k.toNat := hg.2.2.1
  by_cases h1 : s < 0
  · simp only [dT h1, cond_true, bindO_some, fill0, endR (cell0_holds h) (cell0_keep h) (u := rV 0 0) rfl]
    unfold lossR; rw [if_neg (by simpa using hg), if_pos (.inl h1)]
  by_cases h2 : s < (z.length : Int)
  case neg =>
    simp only [dF h1, cond_false, len_row hb, bindO_some, asI_i, dF h2, Bool.not_false, cond_true, fill0, endR (cell0_holds h) (cell0_keep h) (u := rV 0 0) rfl]
    unfold lossR; rw [if_neg (by simpa using hg), if_pos (.inr (by rw [← hzl]; exact h2))]
  have hno : ¬ (s < 0 ∨ ¬ s < (2 ^ k.toNat : Nat)) := by rw [← hzl]; omega
  simp only [dF h1, cond_false, len_row hb, bindO_some, asI_i, dT h2, Bool.not_true]
  by_cases hr : 0 ≤ roomO z k.toNat 0
  case neg =>
    have e3 : ((canR k z).1 == 0) = true := by unfold canR; rw [if_pos hg, if_neg hr]; rfl
    simp only [e3, cond_true, fill0, bindO_some, endR (cell0_holds h) (cell0_keep h) (u := rV 0 0) rfl]
    unfold lossR; rw [if_neg (by simpa using hg), if_neg hno, if_pos (by simpa using hr)]
  have e3 : ((canR k z).1 == 0) = false := by unfold canR; rw [if_pos hg, if_pos hr]; rfl
  obtain ⟨K, rfl⟩ : ∃ K : Nat, k = (K : Int) := ⟨k.toNat, by have := hg.1; omega⟩
  obtain ⟨S, rfl⟩ : ∃ S : Nat, s = (S : Int) := ⟨s.toNat, by omega⟩
  have hK : K ≤ 10 := by have := hg.2.1; omega
  have hpk := pow_small hK
  rw [Int.toNat_natCast] at hzl
  have hs := small_of hg
  have w0 : Go.Vm.wr .i64 (60 * (z.length : Int)) = ((60 * 2 ^ K : Nat) : Int) := by rw [wr_id' (by omega) (by omega)]; omega
  obtain ⟨o, hrun, u', rfl⟩ : ∃ o, loopX (fun s1 : AVal × Int × Int × Mm => g33_b1 (meansX F1 ro) ro (K : Int) (S : Int) (.p (some ⟨false, h.length, 0⟩)) ((60 * 2 ^ K : Nat) : Int) s1.1 s1.2.1 s1.2.2.1 s1.2.2.2) (b, 0, 0, (⟨cell0 h, h.length, h.length⟩ : Mm)) = some o ∧ ∃ u : Unit, o = (lossO z K S K, (⟨cell0 h, h.length, h.length⟩ : Mm)) := by
    refine loopX_rule (b := fun s1 : AVal × Int × Int × Mm => g33_b1 (meansX F1 ro) ro (K : Int) (S : Int) (.p (some ⟨false, h.length, 0⟩)) ((60 * 2 ^ K : Nat) : Int) s1.1 s1.2.1 s1.2.2.1 s1.2.2.2)
      (fun s1 => ∃ (t : Nat) (u : AVal), t ≤ K ∧ s1 = (u, lossO z K S t, (t : Int), (⟨cell0 h, h.length, h.length⟩ : Mm)) ∧ IsSub ro (cell0 h) u z (K - t) (S / 2 ^ (K - t)))
      (fun o => ∃ u : Unit, o = (lossO z K S K, (⟨cell0 h, h.length, h.length⟩ : Mm))) (fun s1 => K - s1.2.2.1.toNat) ?_ _ ⟨0, b, by omega, rfl, by
        have := sub_all hg hb1 hc
        have e : S / 2 ^ (K - 0) = 0 := Nat.div_eq_of_lt (by rw [Nat.sub_zero]; omega)
        rw [e, Nat.sub_zero]; simpa using this⟩
    rintro s1 ⟨t, u, ht, rfl, hsub⟩
    by_cases htk : t = K
    · subst htk
      right
      exact ⟨_, by simp only [g33_b1, forceB_eq, ltI_eq, lt_no, cond_false], (), rfl⟩
    left
    have htK : t < K := by omega
    obtain ⟨j, hj⟩ : ∃ j, K - t = j + 1 := ⟨K - t - 1, by omega⟩
    have hj2 : K - 1 - t = j := by omega
    rw [hj] at hsub
    have hgu := guess_ok (ro := ro) hs (by omega) hsub
    obtain ⟨g1, g2⟩ := guessO_rng z j (S / 2 ^ (j + 1))
    have hpj := pow_small (show j + 1 ≤ 10 by omega)
    have hpt := pow_small (show t ≤ 10 by omega)
    have hpj0 := Nat.two_pow_pos (j + 1)
    have hpt0 := Nat.two_pow_pos t
    have hprod : 2 ^ K = 2 ^ (j + 1) * 2 ^ t := by rw [← Nat.pow_add]; congr 1; omega
    have w1 : Go.Vm.wr .i64 ((K : Int) - 1) = ((K - 1 : Nat) : Int) := by rw [wr_id' (by omega) (by omega)]; omega
    have w2 : Go.Vm.wr .i64 (((K - 1 : Nat) : Int) - (t : Int)) = ((K - 1 - t : Nat) : Int) := by rw [wr_id' (by omega) (by omega)]; omega
    have hsh := shr_div (s := S) htK hK
    have hdiv : S / 2 ^ (K - 1 - t) < 2048 := Nat.lt_of_le_of_lt (Nat.div_le_self _ _) (by omega)
    have w3 : Go.Vm.wr .i64 (((60 * 2 ^ (j + 1) : Nat) : Int) - guessO z j (S / 2 ^ (j + 1))) = _ := wr_id' (by omega) (by omega)
    have hq : Int.tdiv ((60 * 2 ^ K : Nat) : Int) ((60 * 2 ^ (j + 1) : Nat) : Int) = ((2 ^ t : Nat) : Int) := by
      rw [tdiv_nat, hprod, ← Nat.mul_assoc, Nat.mul_div_cancel_left _ (by omega)]
    have e4 : (!(((60 * 2 ^ (j + 1) : Nat) : Int) == Int.ofNat 0)) = true := by simp only [Bool.not_eq_true', beq_eq_false_iff_ne]; show ¬ _ = (0 : Int); omega
    have hb2 : S / 2 ^ (K - 1 - t) % 2 < 2 := Nat.mod_lt _ (by decide)
    obtain ⟨u2, c1, s2⟩ := after_ok (n := S / 2 ^ (K - 1 - t) % 2) (by omega) hsub hb2
    rw [← hj, half_idx htK] at s2
    have hl := loseO_rng (z := z) (s := S) htK hK
    have hl2 := lossO_rng (z := z) (s := S) hK t (by omega)
    have hlo : loseO z K S t = (if S / 2 ^ (K - 1 - t) % 2 = 1 then ((60 * 2 ^ (j + 1) : Nat) : Int) - guessO z j (S / 2 ^ (j + 1)) else guessO z j (S / 2 ^ (j + 1))) * ((2 ^ t : Nat) : Int) := by
      unfold loseO; rw [hj2, hj]
      have e1 : ((60 * 2 ^ (j + 1) : Nat) : Int) = 60 * 2 ^ (j + 1) := by simp
      have e2 : ((2 ^ t : Nat) : Int) = 2 ^ t := by simp
      rw [e1, e2]
    refine ⟨(u2, lossO z K S (t + 1), ((t + 1 : Nat) : Int), ⟨cell0 h, h.length, h.length⟩), ?_, ⟨t + 1, u2, by omega, rfl, by rw [show K - (t + 1) = j by omega]; rw [show K - (t + 1) = j by omega] at s2; exact s2⟩, by simp only [Int.toNat_natCast]; omega⟩
    have w5 : Go.Vm.wr .i64 ((2 ^ t : Nat) : Int) = ((2 ^ t : Nat) : Int) := wr_nat (by omega)
    simp only [g33_b1, forceB_eq, ltI_eq, lt_yes htK, cond_true, meansX_call, cpc hgu, bindP_some, ext0, ext1, bindO_some, asI_i, forceI_eq, w1, w2, nneg, chk_true, hsh, and_one _ hdiv, eqI_eq, w3, e4, hq, w5, cpc c1]
    by_cases hbt : S / 2 ^ (K - 1 - t) % 2 = 1
    · rw [if_pos hbt] at hlo
      have e5 : (((S / 2 ^ (K - 1 - t) % 2 : Nat) : Int) == 1) = true := by rw [hbt]; rfl
      simp only [e5, cond_true, bindO_some]
      rw [← hlo, wr_id' (x := loseO z K S t) (by omega) (by omega), wr_id' (by omega) (by omega), wr_next (by omega)]
      rfl
    · rw [if_neg hbt] at hlo
      have e5 : (((S / 2 ^ (K - 1 - t) % 2 : Nat) : Int) == 1) = false := by rw [beq_eq_false_iff_ne]; omega
      simp only [e5, cond_false, bindO_some]
      rw [← hlo, wr_id' (x := loseO z K S t) (by omega) (by omega), wr_id' (by omega) (by omega), wr_next (by omega)]
      rfl
  have hl2 := lossO_rng (z := z) (s := S) hK K (by omega)
  have hlow := lowest_ok (ro := ro) (h := cell0 h) (n := (lossO z K S K).toNat) (d := 60 * 2 ^ K) (by have := Nat.two_pow_pos K; omega) (by omega) (by omega)
  rw [Int.toNat_of_nonneg hl2.1] at hlow
  simp only [e3, cond_false, forceI_eq, w0, meansX_loop, hrun, bindO_some, cpc hlow, bindP_some, endR (cell0_holds h) (cell0_keep h) (u := ratV (lossO z K S K).toNat (60 * 2 ^ K)) rfl]
  unfold lossR
  rw [if_neg (by simpa using hg), if_neg hno, if_neg (by simpa using hr)]
  rfl

end
end Go.Proofs.Ytnalgdobglfndaa.T

/- The law that compares Can, Guess and Loss. -/
open Go.Vm
set_option linter.unusedVariables false
namespace Go.Proofs.Ytnalgdobglfndaa.T
open Go

section
variable {ro : List ABlk} {h hp : Heap} {a b c v : AVal} {x : List (List Int)} {z y : List Int}

theorem skipA : (bindP (callM (callX F1 ro) ⟨[], 0, 0⟩ 16 []) fun v24 m_1 => asB v24 fun c24 => finM ([] : Heap).length (tupA [(.b c24)]) m_1) = some (.b true, [], 0, 0) := by
  have hal := cp0 (F := F1) (alive_pure (ro := ro) (h := []))
  simp only [List.length_nil] at hal
  simp only [hal, bindP_some, asB_b, tupA]
  exact fin_pure (h := []) rfl

end
end Go.Proofs.Ytnalgdobglfndaa.T

/- Goals whose means are near: room, guess and loss are known; the law about Cover's theorem. -/
open Go.Vm
set_option linter.unusedVariables false
namespace Go.Proofs.Ytnalgdobglfndaa.T
open Go

def nearJ (z : List Int) (j i : Nat) : Prop := sumO z j (2 * i) - sumO z j (2 * i + 1) ≤ 60 * 2 ^ j ∧ sumO z j (2 * i + 1) - sumO z j (2 * i) ≤ 60 * 2 ^ j
instance (z : List Int) (j i : Nat) : Decidable (nearJ z j i) := inferInstanceAs (Decidable (_ ∧ _))
def nearL (z : List Int) (k j : Nat) : Prop := ∀ i, i < 2 ^ (k - 1 - j) → nearJ z j i
instance (z : List Int) (k j : Nat) : Decidable (nearL z k j) := inferInstanceAs (Decidable (∀ i, i < 2 ^ (k - 1 - j) → nearJ z j i))
def nearP (z : List Int) (k : Nat) : Prop := ∀ j, j < k → nearL z k j
instance (z : List Int) (k : Nat) : Decidable (nearP z k) := inferInstanceAs (Decidable (∀ j, j < k → nearL z k j))

theorem sumT_half (z : List Int) (j i : Nat) : ∀ t, sumT z (j + 1) i t = sumT z j (2 * i) t
  | 0 => rfl
  | t + 1 => by
    simp only [sumT, sumT_half z j i t]
    rw [Nat.pow_succ, show i * (2 ^ j * 2) = 2 * i * 2 ^ j by rw [Nat.mul_comm (2 ^ j) 2, ← Nat.mul_assoc, Nat.mul_comm i 2]]
theorem sumT_half2 (z : List Int) (j i : Nat) : ∀ t, sumT z (j + 1) i (2 ^ j + t) = sumT z j (2 * i) (2 ^ j) + sumT z j (2 * i + 1) t
  | 0 => by rw [Nat.add_zero, sumT_half]; simp [sumT]
  | t + 1 => by
    rw [← Nat.add_assoc]
    simp only [sumT, sumT_half2 z j i t]
    have : i * 2 ^ (j + 1) + (2 ^ j + t) = (2 * i + 1) * 2 ^ j + t := by
      rw [Nat.pow_succ, Nat.add_mul, Nat.one_mul, show i * (2 ^ j * 2) = 2 * i * 2 ^ j by rw [Nat.mul_comm (2 ^ j) 2, ← Nat.mul_assoc, Nat.mul_comm i 2]]; omega
    rw [this]; omega
/-- a part's sum is that of its halves -/
theorem sumO_split (z : List Int) (j i : Nat) : sumO z (j + 1) i = sumO z j (2 * i) + sumO z j (2 * i + 1) := by
  unfold sumO
  rw [show 2 ^ (j + 1) = 2 ^ j + 2 ^ j by rw [Nat.pow_succ]; omega, sumT_half2]
theorem pow_s (j : Nat) : (2 : Int) ^ (j + 1) = 2 * 2 ^ j := by rw [Int.pow_succ]; omega
theorem jp (j : Nat) : (30 * ((j + 1 : Nat) : Int)) * 2 ^ (j + 1) = 2 * (30 * (j : Int) * 2 ^ j) + 60 * 2 ^ j := by
  rw [pow_s]
  have : ((j + 1 : Nat) : Int) = (j : Int) + 1 := by omega
  rw [this, Int.mul_add, Int.add_mul]
  have e1 : (30 * (j : Int)) * (2 * 2 ^ j) = 2 * (30 * (j : Int) * 2 ^ j) := Int.mul_left_comm _ _ _
  rw [e1]
  have e2 : (30 * 1 : Int) * (2 * 2 ^ j) = 60 * 2 ^ j := by omega
  rw [e2]
theorem room_le (z : List Int) : ∀ j i, roomO z j i ≤ sumO z j i - 30 * (j : Int) * 2 ^ j
  | 0, i => by
    have : sumO z 0 i = z.getD i 0 := by simp [sumO, sumT]
    rw [this]; simp [roomO]
  | j + 1, i => by
    have h1 := room_le z j (2 * i)
    have h2 := room_le z j (2 * i + 1)
    have h3 := jp j
    have h4 := sumO_split z j i
    simp only [roomO]
    omega
theorem room_near {z : List Int} {k : Nat} (hn : nearP z k) : ∀ j, j ≤ k → ∀ i, i < 2 ^ (k - j) → roomO z j i = sumO z j i - 30 * (j : Int) * 2 ^ j
  | 0, _, i, _ => by
    have : sumO z 0 i = z.getD i 0 := by simp [sumO, sumT]
    rw [this]; simp [roomO]
  | j + 1, hj, i, hi => by
    have hp : 2 ^ (k - j) = 2 * 2 ^ (k - (j + 1)) := by rw [← Nat.pow_succ']; congr 1; omega
    have h1 := room_near hn j (by omega) (2 * i) (by omega)
    have h2 := room_near hn j (by omega) (2 * i + 1) (by omega)
    have h3 := jp j
    have h4 := sumO_split z j i
    have h5 := hn j (by omega) i (by rw [show k - 1 - j = k - (j + 1) by omega]; exact hi)
    unfold nearJ at h5
    simp only [roomO]
    omega
/-- where all means are near, what is lost is the mean that is gained -/
theorem loss_near {z : List Int} {k s : Nat} (hn : nearP z k) (hs : s < 2 ^ k) : ∀ t, t ≤ k → lossO z k s t = 30 * 2 ^ k * (t : Int) + sumO z (k - t) (s / 2 ^ (k - t)) * 2 ^ t - sumO z k 0
  | 0, _ => by
    have e : s / 2 ^ (k - 0) = 0 := Nat.div_eq_of_lt (by simpa using hs)
    rw [e]; simp [lossO]
  | t + 1, ht => by
    have ih := loss_near hn hs t (by omega)
    obtain ⟨j, hj⟩ : ∃ j, k - t = j + 1 := ⟨k - t - 1, by omega⟩
    have hj1 : k - (t + 1) = j := by omega
    have hj2 : k - 1 - t = j := by omega
    have hprod : (2 : Int) ^ j * 2 ^ t * 2 = 2 ^ k := by
      rw [Int.mul_assoc, ← Int.pow_succ, ← Int.pow_add]; congr 1; omega
    have hidx : s / 2 ^ (j + 1) < 2 ^ (k - 1 - j) := by
      have : 2 ^ k = 2 ^ (j + 1) * 2 ^ (k - 1 - j) := by rw [← Nat.pow_add]; congr 1; omega
      rw [Nat.div_lt_iff_lt_mul (Nat.two_pow_pos _), Nat.mul_comm, ← this]; exact hs
    have hnj := hn j (by omega) _ hidx
    unfold nearJ at hnj
    have hsp := sumO_split z j (s / 2 ^ (j + 1))
    have hh := half_idx (s := s) (show t < k by omega)
    rw [hj, hj1, hj2] at hh
    have h60 : (60 : Int) * 2 ^ (j + 1) = 2 * (60 * 2 ^ j) := by rw [pow_s]; omega
    rw [hj] at ih
    rw [hj1]
    simp only [lossO, ih, loseO, hj2, hj]
    have hmod := Nat.mod_lt (s / 2 ^ j) (show 0 < 2 by decide)
    generalize hA : sumO z j (2 * (s / 2 ^ (j + 1))) = A at *
    generalize hB : sumO z j (2 * (s / 2 ^ (j + 1)) + 1) = B at *
    have hg : guessO z j (s / 2 ^ (j + 1)) = 60 * 2 ^ j + A - B := by
      unfold guessO; rw [hA, hB]; omega
    have h2t : (2 : Int) ^ (t + 1) = 2 * 2 ^ t := pow_s t
    have h30 : 30 * 2 ^ k * ((t + 1 : Nat) : Int) = 30 * 2 ^ k * (t : Int) + 60 * (2 ^ j * 2 ^ t) := by
      rw [show ((t + 1 : Nat) : Int) = (t : Int) + 1 by omega, Int.mul_add, ← hprod]; omega
    rw [h30, hg, hsp, h2t]
    by_cases hb : s / 2 ^ j % 2 = 1
    · rw [if_pos hb]
      have : s / 2 ^ j = 2 * (s / 2 ^ (j + 1)) + 1 := by omega
      rw [this, hB, h60]
      have e1 : (2 * (60 * 2 ^ j) - (60 * 2 ^ j + A - B)) * 2 ^ t = 60 * (2 ^ j * 2 ^ t) - A * 2 ^ t + B * 2 ^ t := by
        rw [show (2 * (60 * (2 : Int) ^ j) - (60 * 2 ^ j + A - B)) = 60 * 2 ^ j - A + B by omega, Int.add_mul, Int.sub_mul, Int.mul_assoc]
      rw [e1, Int.add_mul, Int.mul_left_comm B 2]
      omega
    · rw [if_neg hb]
      have : s / 2 ^ j = 2 * (s / 2 ^ (j + 1)) := by omega
      rw [this, hA]
      have e1 : (60 * 2 ^ j + A - B) * 2 ^ t = 60 * (2 ^ j * 2 ^ t) + A * 2 ^ t - B * 2 ^ t := by
        rw [Int.sub_mul, Int.add_mul, Int.mul_assoc]
      rw [e1, Int.add_mul, Int.mul_left_comm A 2]
      omega

section
variable {ro : List ABlk} {h hp : Heap} {a b c v : AVal} {x : List (List Int)} {z y : List Int}

theorem near_ok {k : Nat} (hg : goalP k z) (hb : IsRow ro h b z) : callX F1 ro 45 [.i .i64 (k : Int), b] h = some (.b (decide (nearP z k)), h, h.length, h.length) := by
  have hs := small_of hg
  have hk : k ≤ 10 := by have := hg.2.1; omega
  have hz : z.length = 2 ^ k := by have := hg.2.2.1; simpa using this
  have hpk := pow_small hk
  refine g45_ok (meansX_ok F1 ro) rfl ?_
  unfold g45
  have hloop := loop_if (b := fun s : Int => g45_b0 (meansX F1 ro) ro (k : Int) b ⟨h, h.length, h.length⟩ s) (fun j => ((2 ^ j : Nat) : Int)) k (nearL z k) (.inl ()) (.inr false) ?_ ?_ ?_
  · have e0 : ((2 ^ 0 : Nat) : Int) = 1 := rfl
    rw [e0] at hloop
    simp only [meansX_loop, hloop, bindO_some]
    by_cases hn : nearP z k
    · rw [if_pos (show ∀ j, j < k → nearL z k j from hn)]
      simp only [dT hn, tupA]; exact fin_pure rfl
    · rw [if_neg (show ¬ ∀ j, j < k → nearL z k j from hn)]
      simp only [dF hn, tupA]; exact fin_pure rfl
  · simp only [g45_b0, ltI_eq, nneg, chk_true, forceI_eq, shl_nat k (by omega), forceB_eq, lt_no, cond_false]
  all_goals
    intro j hj hp
    have hpj := pow_small (show j ≤ 10 by omega)
    have hpj0 := Nat.two_pow_pos j
    have hlt : 2 ^ j < 2 ^ k := Nat.pow_lt_pow_right (by decide) hj
    have hkk : 2 ^ k = 2 ^ (k - 1 - j) * (2 * 2 ^ j) := by rw [← Nat.pow_succ', ← Nat.pow_add]; congr 1; omega
    have hstep : ∀ i, i < 2 ^ (k - 1 - j) → g45_b1 (meansX F1 ro) ro (k : Int) b ((2 ^ j : Nat) : Int) ⟨h, h.length, h.length⟩ ((i * (2 * 2 ^ j) : Nat) : Int) = some (if nearJ z j i then .inl (((i + 1) * (2 * 2 ^ j) : Nat) : Int) else .inr (.inr false)) := by
      intro i hi
      have hub : (i + 1) * (2 * 2 ^ j) ≤ 2 ^ k := by rw [hkk]; exact Nat.mul_le_mul_right _ hi
      have hi1 : (i + 1) * (2 * 2 ^ j) = i * (2 * 2 ^ j) + 2 * 2 ^ j := Nat.succ_mul _ _
      have q0 : 2 * i * 2 ^ j = i * (2 * 2 ^ j) := by rw [Nat.mul_comm 2 i, Nat.mul_assoc]
      have q1 : (2 * i + 1) * 2 ^ j = i * (2 * 2 ^ j) + 2 ^ j := by rw [Nat.add_mul, q0, Nat.one_mul]
      have hin := loop_run (b := fun s : Int × Int × Int => g45_b2 (meansX F1 ro) ro (k : Int) b ((2 ^ j : Nat) : Int) ((i * (2 * 2 ^ j) : Nat) : Int) ⟨h, h.length, h.length⟩ s.1 s.2.1 s.2.2) (fun t => (sumT z j (2 * i) t, sumT z j (2 * i + 1) t, (t : Int))) (2 ^ j) (r0 := (sumO z j (2 * i), sumO z j (2 * i + 1)))
        (by simp only [g45_b2, forceB_eq, ltI_eq, lt_no, cond_false]; rfl)
        (fun t ht => by
          obtain ⟨p1, a1, a2, -⟩ := at_row (m := ⟨h, h.length, h.length⟩) rfl hb (show 2 * i * 2 ^ j + t < z.length by rw [hz, q0]; omega)
          obtain ⟨p2, b1, b2, -⟩ := at_row (m := ⟨h, h.length, h.length⟩) rfl hb (show (2 * i + 1) * 2 ^ j + t < z.length by rw [hz, q1]; omega)
          have c1 := sumT_rng hs j (2 * i) t
          have c2 := sumT_rng hs j (2 * i + 1) t
          have d1 := hs (2 * i * 2 ^ j + t)
          have d2 := hs ((2 * i + 1) * 2 ^ j + t)
          have w1 : Go.Vm.wr .i64 (((i * (2 * 2 ^ j) : Nat) : Int) + (t : Int)) = ((2 * i * 2 ^ j + t : Nat) : Int) := by rw [q0, wr_id' (by omega) (by omega)]; omega
          have w2 : Go.Vm.wr .i64 (((i * (2 * 2 ^ j) : Nat) : Int) + ((2 ^ j : Nat) : Int)) = (((2 * i + 1) * 2 ^ j : Nat) : Int) := by rw [q1, wr_id' (by omega) (by omega)]; omega
          have w3 : Go.Vm.wr .i64 ((((2 * i + 1) * 2 ^ j : Nat) : Int) + (t : Int)) = (((2 * i + 1) * 2 ^ j + t : Nat) : Int) := by rw [wr_id' (by omega) (by omega)]; omega
          have w6 : Go.Vm.wr .i64 (sumT z j (2 * i) t + z.getD (2 * i * 2 ^ j + t) 0) = sumT z j (2 * i) (t + 1) := wr_id' (by omega) (by omega)
          have w7 : Go.Vm.wr .i64 (sumT z j (2 * i + 1) t + z.getD ((2 * i + 1) * 2 ^ j + t) 0) = sumT z j (2 * i + 1) (t + 1) := wr_id' (by omega) (by omega)
          simp only [g45_b2, forceB_eq, ltI_eq, lt_yes ht, cond_true, forceI_eq, w1, w2, w3, a1, a2, bindO_some, asI_i, b1, b2, w6, w7]
          rw [wr_next (by omega)])
      have e0 : ((0 : Nat) : Int) = 0 := rfl
      have e1 : ∀ i, sumT z j i 0 = 0 := fun _ => rfl
      rw [e0, e1, e1] at hin
      have r0 := sumO_rng hs (show j ≤ 10 by omega) (2 * i)
      have r1 := sumO_rng hs (show j ≤ 10 by omega) (2 * i + 1)
      have hlt2 : decide (((i * (2 * 2 ^ j) : Nat) : Int) < ((2 ^ k : Nat) : Int)) = true := dT (by omega)
      have w1 : Go.Vm.wr .i64 (sumO z j (2 * i) - sumO z j (2 * i + 1)) = _ := wr_id' (by omega) (by omega)
      have w2 : Go.Vm.wr .i64 (sumO z j (2 * i + 1) - sumO z j (2 * i)) = _ := wr_id' (by omega) (by omega)
      have w3 : Go.Vm.wr .i64 (60 * ((2 ^ j : Nat) : Int)) = ((60 * 2 ^ j : Nat) : Int) := by rw [wr_id' (by omega) (by omega)]; omega
      have w4 : Go.Vm.wr .i64 (2 * ((2 ^ j : Nat) : Int)) = ((2 * 2 ^ j : Nat) : Int) := by rw [wr_id' (by omega) (by omega)]; omega
      have w5 : Go.Vm.wr .i64 (((i * (2 * 2 ^ j) : Nat) : Int) + ((2 * 2 ^ j : Nat) : Int)) = (((i + 1) * (2 * 2 ^ j) : Nat) : Int) := by rw [hi1, wr_id' (by omega) (by omega)]; omega
      have e60 : ((60 * 2 ^ j : Nat) : Int) = 60 * 2 ^ j := by simp
      simp only [g45_b1, ltI_eq, nneg, chk_true, forceI_eq, shl_nat k (by omega), forceB_eq, hlt2, cond_true, meansX_loop, hin, bindO_some, w1, w2, mxT_eq, w3, w4, w5]
      by_cases hn : nearJ z j i
      · have hd : decide (((60 * 2 ^ j : Nat) : Int) < max (sumO z j (2 * i) - sumO z j (2 * i + 1)) (sumO z j (2 * i + 1) - sumO z j (2 * i))) = false := dF (by rw [e60]; have := hn.1; have := hn.2; omega)
        rw [if_pos hn, hd]; rfl
      · have hd : decide (((60 * 2 ^ j : Nat) : Int) < max (sumO z j (2 * i) - sumO z j (2 * i + 1)) (sumO z j (2 * i + 1) - sumO z j (2 * i))) = true := dT (by
          rw [e60]
          by_cases h1 : sumO z j (2 * i) - sumO z j (2 * i + 1) ≤ 60 * 2 ^ j
          · have : ¬ sumO z j (2 * i + 1) - sumO z j (2 * i) ≤ 60 * 2 ^ j := fun hh => hn ⟨h1, hh⟩
            omega
          · omega)
        rw [if_neg hn, hd]; rfl
    have hl2 := loop_if (b := fun s : Int => g45_b1 (meansX F1 ro) ro (k : Int) b ((2 ^ j : Nat) : Int) ⟨h, h.length, h.length⟩ s) (fun i => ((i * (2 * 2 ^ j) : Nat) : Int)) (2 ^ (k - 1 - j)) (nearJ z j) (.inl ()) (.inr false)
      (by rw [← hkk]; simp only [g45_b1, ltI_eq, nneg, chk_true, forceI_eq, shl_nat k (by omega), forceB_eq, lt_no, cond_false])
      (fun i hi hp => by rw [hstep i hi, if_pos hp]) (fun i hi hp => by rw [hstep i hi, if_neg hp])
    have e00 : ((0 * (2 * 2 ^ j) : Nat) : Int) = 0 := by simp
    rw [e00] at hl2
    have hlt3 : decide (((2 ^ j : Nat) : Int) < ((2 ^ k : Nat) : Int)) = true := dT (by omega)
    simp only [g45_b0, ltI_eq, nneg, chk_true, forceI_eq, shl_nat k (by omega), forceB_eq, hlt3, cond_true, meansX_loop, hl2, bindO_some]
    first
    | (rw [if_pos (show ∀ i, i < 2 ^ (k - 1 - j) → nearJ z j i from hp)]
       have w1 : Go.Vm.wr .i64 (((2 ^ j : Nat) : Int) * 2) = ((2 ^ (j + 1) : Nat) : Int) := by rw [wr_id' (by omega) (by omega), Nat.pow_succ]; omega
       simp only [w1]
       done)
    | (rw [if_neg (show ¬ ∀ i, i < 2 ^ (k - 1 - j) → nearJ z j i from hp)]
       done)

theorem ratV_le {N k : Nat} {w : Int} (hN : (N : Int) ≤ w * 2 ^ k) : 60 * (((N / Nat.gcd N (60 * 2 ^ k) : Nat)) : Int) ≤ w * (((60 * 2 ^ k) / Nat.gcd N (60 * 2 ^ k) : Nat) : Int) := by
  obtain ⟨g, hg⟩ : ∃ g, g = Nat.gcd N (60 * 2 ^ k) := ⟨_, rfl⟩
  have hpos : 0 < 60 * 2 ^ k := by have := Nat.two_pow_pos k; omega
  have hg0 : 0 < g := by rw [hg]; exact Nat.gcd_pos_of_pos_right _ hpos
  have h1 : g * (N / g) = N := Nat.mul_div_cancel' (by rw [hg]; exact Nat.gcd_dvd_left _ _)
  have h2 : g * (60 * 2 ^ k / g) = 60 * 2 ^ k := Nat.mul_div_cancel' (by rw [hg]; exact Nat.gcd_dvd_right _ _)
  rw [← hg]
  refine Int.le_of_mul_le_mul_left (a := (g : Int)) ?_ (by omega)
  have e1 : (g : Int) * (60 * ((N / g : Nat) : Int)) = 60 * (N : Int) := by rw [Int.mul_left_comm, ← Int.natCast_mul, h1]
  have e2 : (g : Int) * (w * ((60 * 2 ^ k / g : Nat) : Int)) = w * ((60 * 2 ^ k : Nat) : Int) := by rw [Int.mul_left_comm, ← Int.natCast_mul, h2]
  rw [e1, e2]
  have e3 : ((60 * 2 ^ k : Nat) : Int) = 60 * 2 ^ k := by simp
  rw [e3, Int.mul_left_comm]
  omega

theorem law12 {k s : Int} (hb : IsRow ro [] b z) (hc : CapO b) (hzl : z.length ≤ 9223372036854775807) (hs0 : 0 ≤ s) (hs1 : s < 65536) : ∃ h' lw lp, callX F1 ro 12 [.i .i64 k, b, .i .u16 s] [] = some (.b true, h', lw, lp) := by
  by_cases h1 : 1100 < z.length
  · refine ⟨[], 0, 0, g12_ok (meansX_ok F1 ro) rfl ?_⟩
    unfold g12
    simp only [len_row hb, bindO_some, asI_i, forceB_eq, ltI_eq, dT (show (1100 : Int) < (z.length : Int) by omega), cond_true, meansX_call, List.length_nil]
    exact skipA
  have cCan := cp0 (F := F1) (Can_ok (ro := ro) (k := k) hb hc hzl)
  have cGo := cp0 (F := F1) (Goal_ok (ro := ro) (k := k) hb hzl)
  have hal0 := cp0 (F := F1) (alive_pure (ro := ro) (h := []))
  simp only [List.length_nil] at cCan cGo hal0
  by_cases hg : goalP k z
  case neg =>
    have e2 : canR k z = (0, 2) := by unfold canR; rw [if_neg hg]
    rw [e2] at cCan
    refine ⟨[], 0, 0, g12_ok (meansX_ok F1 ro) rfl ?_⟩
    unfold g12
    simp only [List.length_nil, len_row hb, bindO_some, asI_i, forceB_eq, ltI_eq, dF (show ¬ (1100 : Int) < (z.length : Int) by omega), cond_false, meansX_call, cCan, bindP_some, ext0, ext1, cGo, asB_b, dF hg, Bool.not_false, cond_true, eqI_eq, beq_self_eq_true, hal0, tupA]
    exact fin_pure (h := []) rfl
  obtain ⟨K, rfl⟩ : ∃ K : Nat, k = (K : Int) := ⟨k.toNat, by have := hg.1; omega⟩
  have hK : K ≤ 10 := by have := hg.2.1; omega
  have hK1 : 1 ≤ K := by have := hg.1; omega
  have hz : z.length = 2 ^ K := by have := hg.2.2.1; simpa using this
  have hpk := pow_small hK
  have hpk0 := Nat.two_pow_pos K
  have hsm := small_of hg
  have hS := sumO_rng hsm hK 0
  have hsum := loop_run (b := fun s1 : Int × Int => g12_b2 (meansX F1 ro) ro (K : Int) b s (canR (K : Int) z).1 (canR (K : Int) z).2 ⟨[], 0, 0⟩ s1.1 s1.2) (fun t => (sumT z K 0 t, (t : Int))) z.length (r0 := sumO z K 0)
    (by simp only [g12_b2, len_row hb, bindO_some, asI_i, forceB_eq, ltI_eq, lt_no, cond_false, hz]; rfl)
    (fun t ht => by
      obtain ⟨p1, a1, a2, -⟩ := at_row (m := ⟨[], 0, 0⟩) rfl hb ht
      have c1 := sumT_rng hsm K 0 t
      have d1 := hsm t
      have e : sumT z K 0 (t + 1) = sumT z K 0 t + z.getD t 0 := by simp only [sumT]; rw [Nat.zero_mul, Nat.zero_add]
      simp only [g12_b2, len_row hb, bindO_some, asI_i, forceB_eq, ltI_eq, lt_yes ht, cond_true, a1, a2, forceI_eq]
      rw [wr_next (by omega), e, wr_id' (by omega) (by omega)])
  have e0 : ((0 : Nat) : Int) = 0 := rfl
  have e1 : sumT z K 0 0 = 0 := rfl
  rw [e0, e1] at hsum
  obtain ⟨T, hT⟩ : ∃ T, T = s.toNat % 2 ^ K := ⟨_, rfl⟩
  have hTlt : T < 2 ^ K := by rw [hT]; exact Nat.mod_lt _ hpk0
  have w1 : Go.Vm.wr .i64 (30 * (K : Int)) = ((30 * K : Nat) : Int) := by rw [wr_id' (by omega) (by omega)]; omega
  have hK30 : 30 * K * 2 ^ K ≤ 300 * 1024 := Nat.mul_le_mul (by omega) hpk
  have w2 : Go.Vm.wr .i64 (((30 * K : Nat) : Int) * (z.length : Int)) = ((30 * K * 2 ^ K : Nat) : Int) := by
    rw [hz, ← Int.natCast_mul, wr_nat (by omega)]
  have w3 : Go.Vm.wr .i64 s = s := wr_id' (by omega) (by omega)
  have w4 : Int.tmod s (z.length : Int) = (T : Int) := by
    obtain ⟨S, rfl⟩ : ∃ S : Nat, s = (S : Int) := ⟨s.toNat, by omega⟩
    rw [hz, tmod_nat, hT, Int.toNat_natCast]
  have e4 : (!((z.length : Int) == Int.ofNat 0)) = true := by simp only [Bool.not_eq_true', beq_eq_false_iff_ne]; show ¬ _ = (0 : Int); omega
  have cLo := cp0 (F := F1) (Loss_ok (ro := ro) (k := (K : Int)) (s := (T : Int)) hb hc hzl)
  simp only [List.length_nil] at cLo
  have hrl := room_le z K 0
  have e30 : 30 * (K : Int) * 2 ^ K = ((30 * K * 2 ^ K : Nat) : Int) := by simp
  rw [e30] at hrl
  have hTno : ¬ ((T : Int) < 0 ∨ ¬ (T : Int) < (2 ^ (K : Int).toNat : Nat)) := by rw [Int.toNat_natCast]; omega
  by_cases hr : 0 ≤ roomO z K 0
  · -- it can be kept
    have eC : canR (K : Int) z = (1, 0) := by unfold canR; rw [if_pos hg, Int.toNat_natCast, if_pos hr]
    rw [eC] at cCan hsum
    have eL : lossR (K : Int) z (T : Int) = .tup [ratV (lossO z K T K).toNat (60 * 2 ^ K), .i .i64 0] := by
      unfold lossR
      rw [if_neg (by simpa using hg), if_neg hTno, if_neg (by simpa using hr)]; rfl
    rw [eL] at cLo
    have hl2 := lossO_rng (z := z) (s := T) hK K (Nat.le_refl _)
    obtain ⟨N, hN⟩ : ∃ N : Nat, (lossO z K T K).toNat = N := ⟨_, rfl⟩
    rw [hN] at cLo
    have kc : Keep [] (([] : Heap) ++ [some (blkOf 42 [(AVal.i IntKind.i64 0), (AVal.i IntKind.i64 0)])]) := Keep.app _
    obtain ⟨hp1, t1, h2', h3', -, k1⟩ := (Holds.new [] 42 [(AVal.i IntKind.i64 0), (AVal.i IntKind.i64 0)]).st (ro := ro) (h := []) (vs' := [.i .i64 ((N / Nat.gcd N (60 * 2 ^ K) : Nat) : Int), .i .i64 ((60 * 2 ^ K / Nat.gcd N (60 * 2 ^ K) : Nat) : Int)]) (v := ratV N (60 * 2 ^ K)) (n := 2) rfl rfl rfl rfl (Nat.zero_le _) kc
    have hnum := h2'.one (ro := ro) (l := 0) (p := 0) (k := 0) (by simp)
    have hden := h2'.one (ro := ro) (l := 0) (p := 0) (k := 1) (by simp)
    simp only [List.length_nil] at t1 hnum hden
    have hD : 0 < 60 * 2 ^ K := by omega
    have hg0 : 0 < Nat.gcd N (60 * 2 ^ K) := Nat.gcd_pos_of_pos_right _ hD
    have hDen1 : 1 ≤ 60 * 2 ^ K / Nat.gcd N (60 * 2 ^ K) := Nat.div_pos (Nat.le_of_dvd hD (Nat.gcd_dvd_right _ _)) hg0
    have hDen2 : 60 * 2 ^ K / Nat.gcd N (60 * 2 ^ K) ≤ 61440 := Nat.le_trans (Nat.div_le_self _ _) (by omega)
    have hNum2 : N / Nat.gcd N (60 * 2 ^ K) ≤ 614400 := Nat.le_trans (Nat.div_le_self _ _) (by omega)
    have cNe := cp (F := F1) (l := 0) (p := 0) (near_ok (ro := ro) (h := hp1) hg (row_by hb k1)) (Nat.zero_le _) (Nat.zero_le _)
    have hal1 := cp (F := F1) (l := 0) (p := 0) (alive_pure (ro := ro) (h := hp1)) (Nat.zero_le _) (Nat.zero_le _)
    have en : decide (sumO z K 0 < ((30 * K * 2 ^ K : Nat) : Int)) = false := dF (by omega)
    have hNn : (0 : Int) ≤ ((N / Nat.gcd N (60 * 2 ^ K) : Nat) : Int) := Int.natCast_nonneg _
    have wN : Go.Vm.wr .i64 (60 * ((N / Nat.gcd N (60 * 2 ^ K) : Nat) : Int)) = _ := wr_id' (by omega) (by omega)
    have hzT := hsm T
    have wD : Go.Vm.wr .i64 (z.getD T 0 * ((60 * 2 ^ K / Nat.gcd N (60 * 2 ^ K) : Nat) : Int)) = z.getD T 0 * ((60 * 2 ^ K / Nat.gcd N (60 * 2 ^ K) : Nat) : Int) := by
      have h1 := Int.mul_nonneg hzT.1 (show (0 : Int) ≤ ((60 * 2 ^ K / Nat.gcd N (60 * 2 ^ K) : Nat) : Int) by omega)
      have h2 := Int.mul_le_mul hzT.2 (show ((60 * 2 ^ K / Nat.gcd N (60 * 2 ^ K) : Nat) : Int) ≤ 61440 by omega) (by omega) (by omega)
      exact wr_id' (by omega) (by omega)
    obtain ⟨pT, aT1, aTld⟩ := at_rowK hb (show T < z.length by omega)
    have aT2 := (aTld (l := 0) (q := 0) k1).1
    obtain ⟨hpb, hb1, hb2⟩ : ∃ mb, (some (Mm.base ⟨hp1, 0, 0⟩)) = some mb ∧ mb = (⟨hp1, hp1.length, hp1.length⟩ : Mm) := ⟨_, rfl, rfl⟩
    have cNe' := cp (F := F1) (l := hp1.length) (p := hp1.length) (near_ok (ro := ro) (h := hp1) hg (row_by hb k1)) (Nat.le_refl _) (Nat.le_refl _)
    have hal' := cp (F := F1) (l := hp1.length) (p := hp1.length) (alive_pure (ro := ro) (h := hp1)) (Nat.le_refl _) (Nat.le_refl _)
    have hnum' := h2'.one (ro := ro) (l := hp1.length) (p := hp1.length) (k := 0) (by simp)
    have hden' := h2'.one (ro := ro) (l := hp1.length) (p := hp1.length) (k := 1) (by simp)
    have aT2' := (aTld (l := hp1.length) (q := hp1.length) k1).1
    simp only [List.length_nil] at hnum' hden'
    have hbase : Mm.base ⟨hp1, 0, 0⟩ = (⟨hp1, hp1.length, hp1.length⟩ : Mm) := rfl
    have hjoin : Mm.join ⟨hp1, 0, 0⟩ ⟨hp1, hp1.length, hp1.length⟩ = (⟨hp1, 0, 0⟩ : Mm) := by simp [Mm.join]
    have hlast : nearP z K → decide (z.getD T 0 * ((60 * 2 ^ K / Nat.gcd N (60 * 2 ^ K) : Nat) : Int) < 60 * ((N / Nat.gcd N (60 * 2 ^ K) : Nat) : Int)) = false := fun hn => dF (by
      have hln := loss_near hn hTlt K (Nat.le_refl _)
      rw [Nat.sub_self, Nat.pow_zero, Nat.div_one] at hln
      have hz0 : sumO z 0 T = z.getD T 0 := by simp [sumO, sumT]
      rw [hz0, show 30 * 2 ^ K * (K : Int) = 30 * (K : Int) * 2 ^ K by rw [Int.mul_assoc, Int.mul_comm (2 ^ K), ← Int.mul_assoc], e30] at hln
      have := ratV_le (N := N) (k := K) (w := z.getD T 0) (by rw [← hN, Int.toNat_of_nonneg hl2.1, hln]; omega)
      omega)
    refine ⟨hp1.take 0, 0, 0, g12_ok (meansX_ok F1 ro) rfl ?_⟩
    unfold g12
    have e2' : decide ((((60 * 2 ^ K / Nat.gcd N (60 * 2 ^ K) : Nat)) : Int) < 1) = false := dF (by omega)
    have e3' : decide ((((N / Nat.gcd N (60 * 2 ^ K) : Nat)) : Int) < 0) = false := dF (by omega)
    simp only [List.length_nil, len_row hb, bindO_some, asI_i, forceB_eq, ltI_eq, dF (show ¬ (1100 : Int) < (z.length : Int) by omega), cond_false, meansX_call, cCan, bindP_some, ext0, ext1, cGo, asB_b, dT hg, Bool.not_true, meansX_loop, hsum, forceI_eq, w1, w2, en, Bool.not_false, eqI_eq,
      beq_self_eq_true, show ((1 : Int) == 0) = false from rfl, cond_true, w3, e4, chk_true, w4, cLo, al_ok, t1, p_faddr, Nat.zero_add, Nat.add_zero] at hnum hden hnum' hden' ⊢
    simp only [hden, hnum, bindO_some, asI_i, List.getD_cons_zero, List.getD_cons_succ, e2', e3', cond_false, hbase, cNe', bindP_some, asB_b, hnum', hden', aT1, aT2', wN, wD]
    by_cases hn : nearP z K
    · simp only [dT hn, Bool.not_true, cond_false, bindO_some, hlast hn, Bool.not_false, cond_true, hal', bindP_some, asB_b, hjoin, tupA]
      exact fin_take (L := 0) rfl
    · simp only [dF hn, Bool.not_false, cond_true, bindO_some, hal', bindP_some, asB_b, hjoin, tupA]
      exact fin_take (L := 0) rfl
  · -- it cannot
    have eC : canR (K : Int) z = (0, 0) := by unfold canR; rw [if_pos hg, Int.toNat_natCast, if_neg hr]
    rw [eC] at cCan hsum
    have eL : lossR (K : Int) z (T : Int) = .tup [rV 0 0, .i .i64 10] := by
      unfold lossR
      rw [if_neg (by simpa using hg), if_neg hTno, if_pos (by simpa using hr)]
    rw [eL] at cLo
    have kc : Keep [] (([] : Heap) ++ [some (blkOf 42 [(AVal.i IntKind.i64 0), (AVal.i IntKind.i64 0)])]) := Keep.app _
    obtain ⟨hp1, t1, l1, n1, o1, k1⟩ := put2 (ro := ro) (h := []) (Holds.new [] 42 [(AVal.i IntKind.i64 0), (AVal.i IntKind.i64 0)]) rfl (Nat.zero_le _) kc (u := rV 0 0) rfl
    have cNe := cp (F := F1) (l := 0) (p := 0) (near_ok (ro := ro) (h := hp1) hg (row_by hb k1)) (Nat.zero_le _) (Nat.zero_le _)
    have hal1 := cp (F := F1) (l := 0) (p := 0) (alive_pure (ro := ro) (h := hp1)) (Nat.zero_le _) (Nat.zero_le _)
    simp only [List.length_nil] at t1
    have hcontra : ¬ sumO z K 0 < ((30 * K * 2 ^ K : Nat) : Int) → ¬ nearP z K := fun h1 hn => by
      have := room_near hn K (Nat.le_refl _) 0 (by rw [Nat.sub_self]; decide)
      rw [e30] at this
      omega
    refine ⟨hp1.take 0, 0, 0, g12_ok (meansX_ok F1 ro) rfl ?_⟩
    unfold g12
    simp only [List.length_nil, len_row hb, bindO_some, asI_i, forceB_eq, ltI_eq, dF (show ¬ (1100 : Int) < (z.length : Int) by omega), cond_false, meansX_call, cCan, bindP_some, ext0, ext1, cGo, asB_b, dT hg, Bool.not_true, meansX_loop, hsum, forceI_eq, w1, w2, Bool.not_false, eqI_eq,
      beq_self_eq_true, show ((0 : Int) == 1) = false from rfl, cond_true, w3, e4, chk_true, w4, cLo, al_ok, t1]
    by_cases he : sumO z K 0 < ((30 * K * 2 ^ K : Nat) : Int)
    · simp only [dT he, Bool.not_true, cond_false, bindO_some, cond_true, hal1, bindP_some, asB_b, tupA]
      exact fin_take (L := 0) rfl
    · simp only [dF he, Bool.not_false, cond_true, cNe, bindP_some, asB_b, dF (hcontra he), bindO_some, hal1, tupA]
      exact fin_take (L := 0) rfl
end
end Go.Proofs.Ytnalgdobglfndaa.T

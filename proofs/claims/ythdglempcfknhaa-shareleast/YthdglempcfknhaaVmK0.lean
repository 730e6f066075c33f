/- Contracts of the functions: what each of them answers. -/
import Derived.Test.YthdglempcfknhaaVmGa0
import Derived.Test.YthdglempcfknhaaVmFO
import Derived.Test.YthdglempcfknhaaVmGt
import Derived.Test.YthdglempcfknhaaVmAE
import Derived.Test.YthdglempcfknhaaVmAF
import Derived.Test.YthdglempcfknhaaRows
import Derived.WalkKit
import Derived.ProofKit
import Derived.OpenShut
import Derived.Carry
import Derived.Deep.Matrix
import Derived.Deep.Slices
/- From the small machine to the statement: lists of numbers and lists of such lists, in memory that is only read. -/
open Go.Vm
set_option linter.unusedVariables false
namespace Go.Proofs.Ythdglempcfknhaa.T
open Go Go.RowKit Go.Deep Go.WideShapes Go.ChangeShapes

abbrev F1 : Tab := ⟨F, known0 15 (.b true)⟩
def IsRowK (k : IntKind) (ro : List ABlk) (h : Heap) (v : AVal) (z : List Int) : Prop :=
  (v = .nsl ∧ z = []) ∨ ∃ q cap blk, v = .sl q z.length cap ∧ rdB ro h q = some blk ∧ q.off + z.length ≤ blk.n ∧ ∀ j, j < z.length → blk.c.get (q.off + j) = .i k (z.getD j 0)

/-- what is read in the world of a list of numbers -/
structure OpenK (k : IntKind) (W : World) (v0 : Value) (z : List Int) : Prop where
  o : (v0 = .slice none 0 0 ∧ z = []) ∨ ∃ (a : Addr) (cap : Nat) (Z : List Int), v0 = .slice (some a) z.length cap ∧ z.length ≤ cap ∧ Z.length = cap ∧ z = Z.take z.length ∧ ∀ i, i < cap → a.block < W.heap.size ∧ W.cell? (a.add i) = some (.int k (Z.getD i 0))
  len_le : z.length ≤ 9223372036854775807
  z : ∀ n ∈ z, (Lit.int k n).wf = true

theorem cells3 : Try.prog.cellsOf 3 = 1 := by kernel_rfl
theorem laidOut : laidOutB Try.prog = true := by kernel_rfl
theorem own : ownKnob Try.prog.godebug = none := by kernel_rfl

section
variable {H : Type} {enc : TypeId × Value → H} {W : World} {v0 : Value} {d : DataW H} {p : List MemPlace}
theorem opened_ints (hs : ∃ a len cap, v0 = .slice a len cap) (h : DataW.Trod enc Try.prog W 0 (fun _ => true) true 22 v0 d p) : ∃ z, OpenK .i64 W v0 z := by
  obtain ⟨a0, len, cap, rfl⟩ := hs
  obtain ⟨fuel, hf⟩ := h
  have hml : maxLen = 9223372036854775807 := rfl
  rcases open_ints Try.underlying22 Try.underlying3 cells3 hf with ⟨hcs0, hx⟩ | ⟨a, len', cap', zs, hcs0, _, hl, hm, hz, hx, hcell, hw⟩
  · simp [Value.cells] at hcs0
    obtain ⟨rfl, rfl, rfl⟩ := hcs0
    exact ⟨[], .inl ⟨rfl, rfl⟩, by simp, by simp⟩
  · simp [Value.cells] at hcs0
    obtain ⟨rfl, rfl, rfl⟩ := hcs0
    simp only [if_true] at hz
    have hlen : (zs.take len).length = len := by simp; omega
    refine ⟨zs.take len, .inr ⟨a, cap, zs, by rw [hlen], by omega, by omega, by rw [hlen], fun i hi => ?_⟩, by omega, fun n hn => hw n (List.mem_of_mem_take hn)⟩
    have h1 := hcell i (by omega)
    exact ⟨World.block_lt_of_cell? _ _ h1 |> fun h => by simpa [addr_block] using h, h1⟩
end

/-- a slice's room is at least its length -/
def CapO (v : AVal) : Prop := ∀ q n c, v = .sl q n (.known c) → n ≤ c
theorem ro_flat {k : IntKind} {W : World} {v0 : Value} {z : List Int} (h : OpenK k W v0 z) (pre : List ABlk) (prl : Rl) (hp : pre.length = prl.length) : ∃ (ro : List ABlk) (rl : Rl) (v : AVal), ro.length = rl.length ∧ CapO v ∧
    (∀ x y h, IsRowK k (pre ++ ro ++ x) h v z ∧ VR (prl ++ rl ++ y) [] v v0) ∧
    ∀ (i : Nat) (b : ABlk), ro[i]? = some b → ∃ x, rl[i]? = some x ∧ ∀ j, j < b.n → x.block < W.heap.size ∧ ∃ v', W.cell? (x.add j) = some v' ∧ ∀ y, VR y [] (b.c.get j) v' := by
  rcases h.o with ⟨rfl, rfl⟩ | ⟨a, cap, Z, rfl, hcap, hlen, hz, hcell⟩
  · exact ⟨[], [], .nsl, rfl, (fun q n c e => by cases e), fun x y h => ⟨.inl ⟨rfl, rfl⟩, .nsl⟩, fun i b hb => by simp at hb⟩
  · have hget : ∀ j, j < cap → (Tr.mk (Z.map (AVal.i k))).get j = .i k (Z.getD j 0) := fun j hj => by
      rw [get_mk]; simp [List.getD, show j < Z.length by omega]
    refine ⟨[⟨0, cap, Tr.mk (Z.map (AVal.i k)), none⟩], [a], .sl ⟨true, pre.length, 0⟩ z.length (.known cap), rfl, (fun q n c e => by cases e; exact hcap), fun x y h => ⟨.inr ⟨⟨true, pre.length, 0⟩, .known cap, ⟨0, cap, Tr.mk (Z.map (AVal.i k)), none⟩, rfl, ?_, ?_, fun j hj => ?_⟩, ?_⟩, fun i b hb => ?_⟩
    · simp only [rdB, cond_true, lget_eq, List.append_assoc]
      rw [List.getElem?_append_right (Nat.le_refl _)]; simp
    · simpa using hcap
    · have e := hget j (by omega)
      have e2 : Z.getD j 0 = z.getD j 0 := by
        rw [hz, List.getD_eq_getElem?_getD, List.getD_eq_getElem?_getD, List.getElem?_take_of_lt hj]
      rw [e2] at e
      simpa using e
    · refine .slk _ _ _ _ ?_
      show (((prl ++ [a] ++ y)[pre.length]?).map fun x => x.add 0) = some a
      rw [List.append_assoc, List.getElem?_append_right (by omega), hp]; simp [Addr.add]
    · cases i with
      | zero =>
        simp at hb
        subst hb
        refine ⟨a, rfl, fun j hj => ?_⟩
        obtain ⟨h1, h2⟩ := hcell j hj
        refine ⟨h1, _, h2, fun y => ?_⟩
        have := hget j hj
        simp only [this]
        exact .i _ _
      | succ i => simp at hb

theorem env_ok {W : World} {ro : List ABlk} {rl : Rl} (h : ∀ (i : Nat) (b : ABlk), ro[i]? = some b → ∃ x, rl[i]? = some x ∧ ∀ j, j < b.n → x.block < W.heap.size ∧ ∃ v', W.cell? (x.add j) = some v' ∧ VR rl [] (b.c.get j) v') :
    (Env.mk Try.prog W.heap.size W ro rl).Ok := ⟨fun i b hb => h i b hb, Nat.le_refl _⟩
/-- what lies in the read-only blocks; more may come behind -/
def RoP (W : World) (ro : List ABlk) (rl : Rl) : Prop := ∀ (i : Nat) (b : ABlk), ro[i]? = some b → ∃ x, rl[i]? = some x ∧ ∀ j, j < b.n → x.block < W.heap.size ∧ ∃ v', W.cell? (x.add j) = some v' ∧ ∀ y, VR (rl ++ y) [] (b.c.get j) v'
theorem RoP.nil (W : World) : RoP W [] [] := fun i b hb => by simp at hb
theorem RoP.env {W : World} {ro : List ABlk} {rl : Rl} (h : RoP W ro rl) : (Env.mk Try.prog W.heap.size W ro rl).Ok := env_ok fun i b hb => by
  obtain ⟨y, h1, h2⟩ := h i b hb
  refine ⟨y, h1, fun j hj => ?_⟩
  obtain ⟨h3, v', h4, h5⟩ := h2 j hj
  exact ⟨h3, v', h4, by have := h5 []; simpa using this⟩
theorem RoP.snoc {W : World} {ro ro' : List ABlk} {rl rl' : Rl} (hl : ro.length = rl.length) (h : RoP W ro rl)
    (h' : ∀ (i : Nat) (b : ABlk), ro'[i]? = some b → ∃ x, rl'[i]? = some x ∧ ∀ j, j < b.n → x.block < W.heap.size ∧ ∃ v', W.cell? (x.add j) = some v' ∧ ∀ y, VR y [] (b.c.get j) v') : RoP W (ro ++ ro') (rl ++ rl') := by
  intro i b hb
  rcases Nat.lt_or_ge i ro.length with hi | hi
  · rw [List.getElem?_append_left hi] at hb
    obtain ⟨x, h1, h2⟩ := h i b hb
    refine ⟨x, by rw [List.getElem?_append_left (by omega)]; exact h1, fun j hj => ?_⟩
    obtain ⟨h3, v', h4, h5⟩ := h2 j hj
    exact ⟨h3, v', h4, fun y => by rw [List.append_assoc]; exact h5 _⟩
  · rw [List.getElem?_append_right hi] at hb
    obtain ⟨x, h1, h2⟩ := h' _ b hb
    refine ⟨x, by rw [List.getElem?_append_right (by omega), ← hl]; exact h1, fun j hj => ?_⟩
    obtain ⟨h3, v', h4, h5⟩ := h2 j hj
    exact ⟨h3, v', h4, fun y => h5 _⟩

/-- the call of the model: true, and below nothing has turned -/
theorem call_of {W : World} {ro : List ABlk} {rl : Rl} (hE : (Env.mk Try.prog W.heap.size W ro rl).Ok) {K : Nat} {vs : List AVal} {args : Array Value}
    (hv : LR rl [] vs args) {h' : Heap} {lw lp : Nat} (hc : callX F1 ro K vs [] = some (.b true, h', lw, lp)) : Calls Try.prog K args W fun e W' => e = .returned (.bool true) ∧ Below W.heap.size W W' := by
  have hm : (Env.mk Try.prog W.heap.size W ro rl).P.follows .mixedOrders = true := Try.checked.mixed
  have hO : CallOk (Env.mk Try.prog W.heap.size W ro rl) (known0 15 (.b true)) := known0_of hE hm fok alive0 rfl
  obtain ⟨-, h2⟩ := callX_sound hE hm (F := F1) fok hO K vs [] _ _ _ _ hc
  refine Calls.mono (h2 [] W args ⟨Below.refl _ _, rfl, by simp, fun i b r K hl => by simp [Live] at hl, fun i j b b' r K K' hl => by simp [Live] at hl⟩ hv) fun e w' hq => ?_
  obtain ⟨v', rfl, m', hvr, T⟩ := hq
  exact ⟨by rw [hvr.inv_b], T.hr.below⟩
theorem alive_pure {ro : List ABlk} {h : Heap} : callX F1 ro 15 [] h = some (.b true, h, h.length, h.length) := callX_ov rfl
end Go.Proofs.Ythdglempcfknhaa.T

/- Blocks that a function makes for itself; loops whose state is known. -/
open Go.Vm
set_option linter.unusedVariables false
namespace Go.Proofs.Ythdglempcfknhaa.T
open Go

/-- a block of the heap that holds these values -/
def Holds (hp : Heap) (b : Nat) (vs : List AVal) : Prop := ∃ blk : ABlk, lget hp b = some (some blk) ∧ blk.n = vs.length ∧ ∀ j, j < vs.length → blk.c.get j = vs.getD j und
/-- what was there is still there -/
def Keep (h hp : Heap) : Prop := h.length ≤ hp.length ∧ ∀ i, i < h.length → hp[i]? = h[i]?

section
variable {ro : List ABlk} {h hp hp' : Heap} {b k e n l p : Nat} {vs : List AVal}
theorem Keep.refl (h : Heap) : Keep h h := ⟨Nat.le_refl _, fun _ _ => rfl⟩
theorem Keep.trans {h1 : Heap} (a : Keep h h1) (c : Keep h1 hp) : Keep h hp := ⟨Nat.le_trans a.1 c.1, fun i hi => by rw [c.2 i (by have := a.1; omega), a.2 i hi]⟩
theorem Keep.app (x : Heap) : Keep h (h ++ x) := ⟨by simp, fun i hi => List.getElem?_append_left hi⟩
theorem Keep.set (a : Keep h hp) (hb : h.length ≤ b) (x : Option ABlk) : Keep h (hp.set b x) := ⟨by simpa using a.1, fun i hi => by rw [List.getElem?_set_ne (by omega)]; exact a.2 i hi⟩
theorem Keep.eq (a : Keep h hp) : hp.take h.length = h := by
  refine List.ext_getElem? fun i => ?_
  rcases Nat.lt_or_ge i h.length with hi | hi
  · rw [List.getElem?_take_of_lt hi, a.2 i hi]
  · rw [List.getElem?_eq_none (by simp; omega), List.getElem?_eq_none hi]
theorem fin_keep {v : AVal} (a : Keep h hp) (hv : v.bel h.length = true) : finM h.length v ⟨hp, h.length, h.length⟩ = some (v, h, h.length, h.length) := by
  rw [fin_take hv, a.eq]
theorem Holds.lt (a : Holds hp b vs) : b < hp.length := by obtain ⟨blk, h1, -⟩ := a; exact lget_lt h1
theorem Holds.new (hp : Heap) (e : Nat) (vs : List AVal) : Holds (hp ++ [some (blkOf e vs)]) hp.length vs := ⟨_, lget_last _ _, rfl, fun j _ => get_blk e vs j⟩
theorem Holds.keep (a : Holds hp b vs) (hk : hp'[b]? = hp[b]?) : Holds hp' b vs := by
  obtain ⟨blk, h1, h2⟩ := a
  exact ⟨blk, by rw [lget_of hk]; exact h1, h2⟩
theorem Holds.ext (a : Holds hp b vs) (x : Heap) : Holds (hp ++ x) b vs := a.keep (List.getElem?_append_left a.lt)
theorem Holds.by (a : Holds hp b vs) (k : Keep hp hp') : Holds hp' b vs := a.keep (k.2 b a.lt)
theorem Holds.one (a : Holds hp b vs) (hk : k < vs.length) : ldM ro ⟨hp, l, p⟩ true 1 (.p (some ⟨false, b, 0 + k⟩)) = some (vs.getD k und) := by
  obtain ⟨blk, h1, h2, h3⟩ := a
  rw [ld_heap rfl h1 (by omega), ← h3 k hk, Nat.zero_add]
theorem Holds.oneA (a : Holds hp b vs) (hk : k < vs.length) : ldA ro hp true 1 (.p (some ⟨false, b, 0 + k⟩)) = some (vs.getD k und) := by
  obtain ⟨blk, h1, h2, h3⟩ := a
  rw [lda_heap h1 (by omega), ← h3 k hk, Nat.zero_add]
theorem row_list {t : Tr} : ∀ (vs : List AVal) (i : Nat), (∀ j, j < vs.length → t.get (i + j) = vs.getD j und) → t.row i vs.length = vs
  | [], i, _ => rfl
  | v :: vs, i, h => by
    simp only [List.length_cons, Tr.row]
    rw [show t.get i = v by simpa using h 0 (by simp), row_list vs (i + 1) fun j hj => by have := h (j + 1) (by simp; omega); rw [show i + 1 + j = i + (j + 1) by omega, this]; simp]
theorem Holds.rd (a : Holds hp b vs) (hn : n = vs.length) : Go.Vm.rd ro hp false n ⟨false, b, 0⟩ = some (.agg vs) := by
  subst hn
  obtain ⟨blk, h1, h2, h3⟩ := a
  have hc : Nat.ble (0 + vs.length) blk.n = true := by rw [Nat.ble_eq]; omega
  simp only [Go.Vm.rd, rdB_heap h1, cond_false, hc, cond_true]
  rw [row_list vs 0 fun j hj => by rw [Nat.zero_add]; exact h3 j hj]
theorem Holds.all (a : Holds hp b vs) (hn : n = vs.length) : ldM ro ⟨hp, l, p⟩ false n (.p (some ⟨false, b, 0⟩)) = some (.agg vs) := by
  simp only [ldM, a.rd hn]
theorem spliceGet (t : Tr) : ∀ (vs : List AVal) (i j : Nat), (t.splice i vs).get j = if i ≤ j ∧ j < i + vs.length then vs.getD (j - i) und else t.get j
  | [], i, j => by simp [Tr.splice]; intro h1 h2; omega
  | v :: vs, i, j => by
    rw [Tr.splice, spliceGet (t.set i v) vs (i + 1) j, get_set]
    by_cases e : i = j
    · subst e
      rw [if_neg (by omega), if_pos rfl, if_pos (by simp)]; simp
    · by_cases h2 : i ≤ j ∧ j < i + (v :: vs).length
      · have h3 : i + 1 ≤ j ∧ j < i + 1 + vs.length := by simp at h2; omega
        rw [if_pos h2, if_pos h3]
        obtain ⟨q, rfl⟩ : ∃ q, j = i + 1 + q := ⟨j - (i + 1), by omega⟩
        rw [show i + 1 + q - i = q + 1 by omega, show i + 1 + q - (i + 1) = q by omega]
        simp
      · have h3 : ¬ (i + 1 ≤ j ∧ j < i + 1 + vs.length) := by simp at h2; omega
        rw [if_neg h2, if_neg h3, if_neg e]
theorem wrH_all {blk : ABlk} (hb : lget hp b = some (some blk)) (hn : vs.length ≤ blk.n) (ho : ones vs = true) : wrH hp ⟨false, b, 0⟩ vs = some (hp.set b (some { blk with c := blk.c.splice 0 vs })) := by
  have : (Nat.ble (0 + vs.length) blk.n && ones vs) = true := by rw [ho, Bool.and_true, Nat.ble_eq]; omega
  simp only [wrH, cond_false, hb, this, cond_true, lset_eq]
/-- a block is written whole -/
theorem Holds.st {vs' : List AVal} {v : AVal} (a : Holds hp b vs) (hv : v.cells = vs') (hn : n = vs'.length) (hl : vs'.length = vs.length) (ho : ones vs' = true) (hL : h.length ≤ b) (kp : Keep h hp) :
    ∃ hp', stepM ro ⟨hp, h.length, h.length⟩ (.st n (.c (.p (some ⟨false, b, 0⟩))) (.c v)) = some (und, ⟨hp', h.length, h.length⟩) ∧ Holds hp' b vs' ∧ hp'.length = hp.length ∧ (∀ i, i ≠ b → hp'[i]? = hp[i]?) ∧ Keep h hp' := by
  obtain ⟨blk, h1, h2, h3⟩ := a
  subst hv hn
  have hw := wrH_all h1 (vs := v.cells) (by omega) ho
  refine ⟨hp.set b (some { blk with c := blk.c.splice 0 v.cells }), ?_, ⟨_, lget_set h1 _, by simpa using (h2.trans hl.symm), fun j hj => ?_⟩, by simp, fun i hi => List.getElem?_set_ne (Ne.symm hi), kp.set hL _⟩
  · have hbq : Nat.beq v.cells.length v.cells.length = true := Nat.beq_refl _
    have e : (cond (nonp v.cells) h.length h.length) = h.length := by cases nonp v.cells <;> rfl
    simp only [stepM, stepK, opd, st_st, hbq, cond_true, hw, St.mm, Nat.min_eq_left hL, e]
  · show (blk.c.splice 0 v.cells).get j = _
    rw [spliceGet, if_pos (by omega)]; simp
end

theorem ext0 (a : AVal) (l : List AVal) : evP .e (.ext 0 (.c (.tup (a :: l)))) = some a := rfl
theorem ext1 (a b : AVal) (l : List AVal) : evP .e (.ext 1 (.c (.tup (a :: b :: l)))) = some b := rfl
theorem ext2 (a b c : AVal) (l : List AVal) : evP .e (.ext 2 (.c (.tup (a :: b :: c :: l)))) = some c := rfl
theorem ext3 (a b c d : AVal) (l : List AVal) : evP .e (.ext 3 (.c (.tup (a :: b :: c :: d :: l)))) = some d := rfl
section
variable {ro : List ABlk} {h : Heap} {v : AVal}
theorem row_by {hp : Heap} {z : List Int} (a : IsRow ro h v z) (k : Keep h hp) : IsRow ro hp v z := by
  rw [take_eq k.1 k.2]; exact a.ext _
end

/-- one cell of a block is written -/
theorem Holds.set {ro : List ABlk} {h hp : Heap} {b k : Nat} {vs : List AVal} {v : AVal} (a : Holds hp b vs) (hk : k < vs.length) (hv : v.one = true) (hc : v.cells = [v]) (hn : nonp [v] = true) (hL : h.length ≤ b) (kp : Keep h hp) :
    ∃ hp', stepM ro ⟨hp, h.length, h.length⟩ (.st 1 (.c (.p (some ⟨false, b, 0 + k * 1⟩))) (.c v)) = some (und, ⟨hp', h.length, h.length⟩) ∧ Holds hp' b (vs.set k v) ∧ hp'.length = hp.length ∧ (∀ i, i ≠ b → hp'[i]? = hp[i]?) ∧ Keep h hp' := by
  obtain ⟨blk, h1, h2, h3⟩ := a
  have e : 0 + k * 1 = k := by omega
  refine ⟨hp.set b (some { blk with c := blk.c.set k v }), ?_, ⟨_, lget_set h1 _, by simpa using h2, fun j hj => ?_⟩, by simp, fun i hi => List.getElem?_set_ne (Ne.symm hi), kp.set hL _⟩
  · rw [e, st_heap h1 (by omega) hv hc hn, Nat.min_eq_left hL]
  · show (blk.c.set k v).get j = _
    rw [get_set]
    simp only [List.length_set] at hj
    by_cases e : k = j
    · subst e; simp [List.getD, hj]
    · rw [if_neg e, h3 j hj]
      simp [List.getD, List.getElem?_set_ne e]


/-- a loop whose state is known for each round -/
theorem loop_st {S R : Type} {b : S → Option (S ⊕ R)} (st : Nat → S) (n : Nat) (step : Nat → Option R) (r0 : R) (hout : b (st n) = some (.inr r0)) (hin : ∀ i, i < n → b (st i) = some (match step i with | some r => .inr r | none => .inl (st (i + 1)))) :
    ∀ (k i : Nat), i + k = n → loopX b (st i) = some ((firstS step k i).getD r0)
  | 0, i, hi => by
    simp only [Nat.add_zero] at hi
    subst hi
    exact loopX_out hout
  | k + 1, i, hi => by
    have h1 := hin i (by omega)
    unfold firstS
    cases hs : step i with
    | some r => rw [hs] at h1; exact loopX_out h1
    | none =>
      rw [hs] at h1
      exact loopX_on h1 (loop_st st n step r0 hout hin k (i + 1) (by omega))
/-- one that runs to its end -/
theorem loop_run {S R : Type} {b : S → Option (S ⊕ R)} (st : Nat → S) (n : Nat) {r0 : R} (hout : b (st n) = some (.inr r0)) (hin : ∀ i, i < n → b (st i) = some (.inl (st (i + 1)))) : loopX b (st 0) = some r0 := by
  have := loop_st st n (fun _ => none) r0 hout hin n 0 (by omega)
  rw [firstS_none.2 fun _ _ _ => rfl] at this
  exact this
/-- one that looks for something -/
theorem loop_if {S R : Type} {b : S → Option (S ⊕ R)} (st : Nat → S) (n : Nat) (P : Nat → Prop) [DecidablePred P] (r0 r1 : R) (hout : b (st n) = some (.inr r0)) (hin : ∀ i, i < n → P i → b (st i) = some (.inl (st (i + 1)))) (hno : ∀ i, i < n → ¬ P i → b (st i) = some (.inr r1)) :
    loopX b (st 0) = some (if (∀ i, i < n → P i) then r0 else r1) := by
  have := loop_st st n (fun i => if P i then none else some r1) r0 hout (fun i hi => by
    by_cases hp : P i
    · rw [if_pos hp]; exact hin i hi hp
    · rw [if_neg hp]; exact hno i hi hp) n 0 (by omega)
  rw [this]
  by_cases hall : ∀ i, i < n → P i
  · rw [if_pos hall, firstS_none.2 fun j _ h2 => by rw [if_pos (hall j (by omega))]]; rfl
  · rw [if_neg hall]
    cases hf : firstS (fun i => if P i then none else some r1) n 0 with
    | none =>
      refine absurd (fun i hi => ?_) hall
      have := firstS_none.1 hf i (by omega) (by omega)
      simpa using this
    | some r =>
      obtain ⟨j, -, -, h3, -⟩ := firstS_some hf
      by_cases hc : P j
      · rw [if_pos hc] at h3; cases h3
      · rw [if_neg hc] at h3; cases h3; rfl

theorem dT {p : Prop} [Decidable p] (h : p) : decide p = true := decide_eq_true h
theorem dF {p : Prop} [Decidable p] (h : ¬ p) : decide p = false := decide_eq_false h
theorem at_rowK {ro : List ABlk} {h : Heap} {v : AVal} {z : List Int} (hr : IsRow ro h v z) {i : Nat} (hi : i < z.length) : ∃ p, evP .e (.ixS 1 (.c v) (.c (.i .i64 (i : Int)))) = some p ∧ ∀ {hp : Heap} {l q : Nat}, Keep h hp → ldM ro ⟨hp, l, q⟩ true 1 p = some (.i .i64 (z.getD i 0)) ∧ ldA ro hp true 1 p = some (.i .i64 (z.getD i 0)) := by
  obtain ⟨p, h1, -⟩ := at_row (m := ⟨h, 0, 0⟩) rfl hr hi
  refine ⟨p, h1, fun {hp l q} k => ?_⟩
  obtain ⟨p', g1, g2, g3⟩ := at_row (m := ⟨hp, l, q⟩) rfl (row_by hr k) hi
  rw [h1] at g1; cases g1
  exact ⟨g2, g3⟩
abbrev nthR (x : List (List Int)) (i : Nat) : List Int := x.getD i []
theorem cp0 {F : Tab} {ro : List ABlk} {h : Heap} {f : Nat} {a : List AVal} {v : AVal} (e : callX F ro f a h = some (v, h, h.length, h.length)) : callM (callX F ro) ⟨h, h.length, h.length⟩ f a = some (v, ⟨h, h.length, h.length⟩) :=
  callM_pure e (Nat.le_refl _) (Nat.le_refl _)


theorem cM {F : Tab} {ro : List ABlk} {h H : Heap} {f : Nat} {a : List AVal} {v : AVal} {l p : Nat} (e : callX F ro f a h = some (v, H, h.length, h.length)) (hl : l ≤ h.length) (hp : p ≤ h.length) : callM (callX F ro) ⟨h, l, p⟩ f a = some (v, ⟨H, l, p⟩) := by
  rw [callM_eq e, Nat.min_eq_left hl, Nat.min_eq_left hp]
theorem fin_any {h H : Heap} {w : AVal} (k : Keep h H) : ∃ H', finM h.length w ⟨H, h.length, h.length⟩ = some (w, H', h.length, h.length) ∧ Keep h H' ∧ (w.bel h.length = false → H' = H) := by
  obtain ⟨y, h1, h2⟩ := fin_gen (h := h) (h' := H) (v := w) (l := h.length) (p := h.length) k.1 k.2
  exact ⟨h ++ y, h1, Keep.app y, h2⟩
/-- a list read in a heap that keeps another one, below that one's length, is in that one -/
theorem row_down {ro : List ABlk} {h H : Heap} {v : AVal} {z : List Int} (k : Keep h H) (a : IsRow ro H v z) (hb : v.bel h.length = true) : IsRow ro h v z := by
  rcases a with ⟨rfl, rfl⟩ | ⟨q, cap, blk, rfl, hb2, hn, hc⟩
  · exact .inl ⟨rfl, rfl⟩
  · refine .inr ⟨q, cap, blk, rfl, ?_, hn, hc⟩
    have h1 : (q.ro || Nat.blt q.b h.length) = true := by simpa [AVal.bel] using hb
    unfold rdB at hb2 ⊢
    cases hr : q.ro
    · rw [hr] at h1 hb2
      have h2 : q.b < h.length := by simpa [Nat.blt_eq] using h1
      simp only [cond_false] at hb2 ⊢
      rw [← lget_of (k.2 q.b h2)]; exact hb2
    · rw [hr] at hb2; exact hb2
theorem fin_rowW {ro : List ABlk} {h H : Heap} {v w : AVal} {z : List Int} (k : Keep h H) (a : IsRow ro H v z) (hw : w.bel h.length = v.bel h.length) :
    ∃ H', finM h.length w ⟨H, h.length, h.length⟩ = some (w, H', h.length, h.length) ∧ Keep h H' ∧ IsRow ro H' v z := by
  obtain ⟨H', h1, h2, h3⟩ := fin_any (w := w) k
  refine ⟨H', h1, h2, ?_⟩
  cases hb : w.bel h.length
  · rw [h3 hb]; exact a
  · exact row_by (row_down k a (by rw [← hw]; exact hb)) h2
theorem loop_gen {S R : Type} {b : S → Option (S ⊕ R)} (n : Nat) (I : Nat → S → Prop) (Q : R → Prop)
    (hin : ∀ i s, i < n → I i s → ∃ s', b s = some (.inl s') ∧ I (i + 1) s') (hout : ∀ s, I n s → ∃ r, b s = some (.inr r) ∧ Q r) :
    ∀ (k i : Nat) (s : S), i + k = n → I i s → ∃ r, loopX b s = some r ∧ Q r
  | 0, i, s, hk, hi => by
    obtain rfl : i = n := by omega
    obtain ⟨r, h1, h2⟩ := hout s hi
    exact ⟨r, loopX_out h1, h2⟩
  | k + 1, i, s, hk, hi => by
    obtain ⟨s1, h1, h2⟩ := hin i s (by omega) hi
    obtain ⟨r, h3, h4⟩ := loop_gen n I Q hin hout k (i + 1) s1 (by omega) h2
    exact ⟨r, loopX_on h1 h3, h4⟩
theorem loop_exit {S R : Type} {b : S → Option (S ⊕ R)} (n : Nat) (I : Nat → S → Prop) (Q : R → Prop)
    (hin : ∀ i s, i < n → I i s → (∃ s', b s = some (.inl s') ∧ I (i + 1) s') ∨ ∃ r, b s = some (.inr r) ∧ Q r) (hout : ∀ s, I n s → ∃ r, b s = some (.inr r) ∧ Q r) :
    ∀ (k i : Nat) (s : S), i + k = n → I i s → ∃ r, loopX b s = some r ∧ Q r
  | 0, i, s, hk, hi => by
    obtain rfl : i = n := by omega
    obtain ⟨r, h1, h2⟩ := hout s hi
    exact ⟨r, loopX_out h1, h2⟩
  | k + 1, i, s, hk, hi => by
    rcases hin i s (by omega) hi with ⟨s1, h1, h2⟩ | ⟨r, h1, h2⟩
    · obtain ⟨r, h3, h4⟩ := loop_exit n I Q hin hout k (i + 1) s1 (by omega) h2
      exact ⟨r, loopX_on h1 h3, h4⟩
    · exact ⟨r, loopX_out h1, h2⟩

/- the laws' own: few, same -/
def few (x : List (List Int)) : Prop := ∀ i, i < x.length → (nthR x i).length ≤ 100
instance (x : List (List Int)) : Decidable (few x) := inferInstanceAs (Decidable (∀ i, i < x.length → (nthR x i).length ≤ 100))
theorem few_ok {ro : List ABlk} {h : Heap} {a : AVal} {x : List (List Int)} (ha : IsMat ro h a x) (hx : x.length ≤ 9223372036854775807) : callX F1 ro 14 [a] h = some (.b (decide (few x)), h, h.length, h.length) := by
  refine g14_ok (meansX_ok F1 ro) rfl ?_
  unfold g14
  simp only [meansX_loop]
  have hloop := loop_if (b := fun s => g14_b0 (meansX F1 ro) ro a ⟨h, h.length, h.length⟩ s) (fun i => (i : Int)) x.length (fun i => (nthR x i).length ≤ 100) (.inl ()) (.inr false) ?_ ?_ ?_
  · have e0 : ((0 : Nat) : Int) = 0 := rfl
    rw [e0] at hloop
    rw [hloop]
    by_cases hf : ∀ i, i < x.length → (nthR x i).length ≤ 100
    · rw [if_pos hf]
      simp only [bindO_some, tupA, dT (show few x from hf)]
      exact fin_pure rfl
    · rw [if_neg hf]
      simp only [bindO_some, tupA, dF (show ¬ few x from hf)]
      exact fin_pure rfl
  · simp only [g14_b0, len_mat ha, bindO_some, asI_i, forceB_eq, ltI_eq]
    simp
  · intro i hi hp
    obtain ⟨p, u, h1, h2, h3, h4⟩ := at_mat (m := ⟨h, h.length, h.length⟩) rfl ha hi
    have e := lt_yes hi
    have h5 : (x.getD i []).length ≤ 100 := hp
    have e3 : decide ((100 : Int) < ((x.getD i []).length : Int)) = false := dF (by omega)
    simp only [g14_b0, len_mat ha, bindO_some, asI_i, forceB_eq, ltI_eq, e, cond_true, cond_false, h1, h2, len_row h4, e3, forceI_eq]
    rw [wr_id' (by omega) (by omega)]
    rfl
  · intro i hi hp
    obtain ⟨p, u, h1, h2, h3, h4⟩ := at_mat (m := ⟨h, h.length, h.length⟩) rfl ha hi
    have e := lt_yes hi
    have h5 : ¬ (x.getD i []).length ≤ 100 := hp
    have e3 : decide ((100 : Int) < ((x.getD i []).length : Int)) = true := dT (by omega)
    simp only [g14_b0, len_mat ha, bindO_some, asI_i, forceB_eq, ltI_eq, e, cond_true, h1, h2, len_row h4, e3]

theorem same_ok {ro : List ABlk} {h : Heap} {a b : AVal} {x y : List Int} (ha : IsRow ro h a x) (hb : IsRow ro h b y) (hx : x.length ≤ 1000000) :
    callX F1 ro 20 [a, b] h = some (.b (decide (x = y)), h, h.length, h.length) := by
  refine g20_ok (meansX_ok F1 ro) rfl ?_
  unfold g20
  simp only [len_row ha, len_row hb, bindO_some, asI_i, forceB_eq, eqI_eq, meansX_loop]
  by_cases hl : x.length = y.length
  · have e : ((x.length : Int) == (y.length : Int)) = true := by simp [hl]
    simp only [e, Bool.not_true, cond_false]
    have hloop := loop_if (b := fun s => g20_b0 (meansX F1 ro) ro a b ⟨h, h.length, h.length⟩ s) (fun i => (i : Int)) x.length (fun i => x.getD i 0 = y.getD i 0) (.inl ()) (.inr false) ?_ ?_ ?_
    · have e0 : ((0 : Nat) : Int) = 0 := rfl
      rw [e0] at hloop
      rw [hloop]
      by_cases hxy : x = y
      · rw [if_pos (fun i _ => by rw [hxy])]
        simp only [bindO_some, hxy, decide_true, tupA]
        exact fin_pure rfl
      · rw [if_neg (fun hall => hxy (List.ext_getElem hl fun i h1 h2 => by have := hall i h1; simpa [List.getD, h1, h2] using this))]
        simp only [bindO_some, hxy, decide_false, tupA]
        exact fin_pure rfl
    · simp only [g20_b0, len_row ha, bindO_some, asI_i, forceB_eq, ltI_eq]
      simp
    · intro i hi hp
      obtain ⟨p, h1, h2, h3⟩ := at_row (m := ⟨h, h.length, h.length⟩) rfl ha hi
      obtain ⟨p', h1', h2', h3'⟩ := at_row (m := ⟨h, h.length, h.length⟩) rfl hb (by omega : i < y.length)
      have e := lt_yes hi
      have e2 : (!(x.getD i 0 == y.getD i 0)) = false := by rw [hp]; simp
      simp only [g20_b0, len_row ha, bindO_some, asI_i, forceB_eq, ltI_eq, e, cond_true, h1, h3, h1', h3', eqI_eq, e2, cond_false, forceI_eq]
      rw [wr_id' (by omega) (by omega)]
      rfl
    · intro i hi hp
      obtain ⟨p, h1, h2, h3⟩ := at_row (m := ⟨h, h.length, h.length⟩) rfl ha hi
      obtain ⟨p', h1', h2', h3'⟩ := at_row (m := ⟨h, h.length, h.length⟩) rfl hb (by omega : i < y.length)
      have e := lt_yes hi
      have e2 : (!(x.getD i 0 == y.getD i 0)) = true := by simpa using hp
      simp only [g20_b0, len_row ha, bindO_some, asI_i, forceB_eq, ltI_eq, e, cond_true, h1, h3, h1', h3', eqI_eq, e2]
  · have e : ((x.length : Int) == (y.length : Int)) = false := by simp; omega
    have hxy : ¬ (x = y) := fun e => hl (by rw [e])
    simp only [e, Bool.not_false, cond_true, hxy, decide_false, tupA]
    exact fin_pure rfl
end Go.Proofs.Ythdglempcfknhaa.T

/- Lists that a function makes by append. -/
open Go.Vm
set_option linter.unusedVariables false
namespace Go.Proofs.Ythdglempcfknhaa.T
open Go

/-- a list made by append, in a block from L on -/
def GV (hp : Heap) (L e es : Nat) (v : AVal) (k : Nat) (cs : List AVal) : Prop :=
  (v = .nsl ∧ k = 0 ∧ cs = []) ∨ ∃ b blk, v = .sl ⟨false, b, 0⟩ k .grow ∧ 0 < k ∧ L ≤ b ∧ lget hp b = some (some blk) ∧ blk.e = e ∧ cs.length = k * es ∧ k * es ≤ blk.n ∧ ∀ j, j < k * es → blk.c.get j = cs.getD j und
theorem GV.nil (hp : Heap) (L e es : Nat) : GV hp L e es .nsl 0 [] := .inl ⟨rfl, rfl, rfl⟩
/-- blocks below L, and those above that are kept, hold the list as before -/
theorem GV.by {hp hp' : Heap} {L e es k : Nat} {v : AVal} {cs : List AVal} (g : GV hp L e es v k cs) (kp : Keep hp hp') : GV hp' L e es v k cs := by
  rcases g with h | ⟨b, blk, h1, h2, h3, h4, h5⟩
  · exact .inl h
  · exact .inr ⟨b, blk, h1, h2, h3, by rw [lget_of (kp.2 b (lget_lt h4))]; exact h4, h5⟩
theorem row_row {t : Tr} : ∀ (n i : Nat) (cs : List AVal), cs.length = n → (∀ j, j < n → t.get (i + j) = cs.getD j und) → t.row i n = cs := by
  intro n i cs hl h
  subst hl
  exact row_list cs i h
theorem GV.push {ro : List ABlk} {hp : Heap} {L0 L e es bytes k : Nat} {z : List AVal} {v w : AVal} {cs ws : List AVal} (g : GV hp L e es v k cs) (hL0 : L0 ≤ L) (hL : L ≤ hp.length) (hk : k ≤ 100000) (hb : bytes ≤ 1000) (hes : 0 < es) (hz : z.length = es) (hw : w.cells = ws) (hwl : ws.length = es) (ho : ones ws = true) (hsp : splice z 0 ws = ws) :
    ∃ v2 hp2 v3 hp3, stepM ro ⟨hp, L0, L0⟩ (.bsl e es z 1 [((0, es), .c w)]) = some (v2, ⟨hp2, L0, L0⟩) ∧ stepM ro ⟨hp2, L0, L0⟩ (.app e es bytes z (.c v) (.c v2)) = some (v3, ⟨hp3, L0, L0⟩) ∧
      GV hp3 L e es v3 (k + 1) (cs ++ ws) ∧ hp.length ≤ hp3.length ∧ ∀ i, i < L → hp3[i]? = hp[i]? := by
  have s1 : stepM ro ⟨hp, L0, L0⟩ (.bsl e es z 1 [((0, es), .c w)]) = some (.sl ⟨false, hp.length, 0⟩ 1 (.known 1), ⟨hp ++ [some (blkOf e ws)], L0, L0⟩) := by
    simp [stepM, stepK, st_bsl, rep, fillA, opd, hw, hwl, hz, hsp, newB, St.mm]
  have src : app_src ro (hp ++ [some (blkOf e ws)]) es (.sl ⟨false, hp.length, 0⟩ 1 (.known 1)) = some (ws, 1) := by
    have hbq : rdB ro (hp ++ [some (blkOf e ws)]) ⟨false, hp.length, 0⟩ = some (blkOf e ws) := by simp [rdB, lget_eq]
    have hg : (blkOf e ws).c.row 0 es = ws := row_row es 0 ws hwl fun j hj => by rw [Nat.zero_add, get_blk]
    have hble : Nat.ble (0 + 1 * es) (blkOf e ws).n = true := by rw [Nat.ble_eq]; show 0 + 1 * es ≤ ws.length; omega
    simp only [app_src, hbq, hble, cond_true]
    rw [show 1 * es = es by omega, hg]
  rcases g with ⟨rfl, rfl, rfl⟩ | ⟨b, blk, rfl, hpos, hLb, hbk, hbe, hcl, hbn, hrows⟩
  · refine ⟨_, _, .sl ⟨false, hp.length + 1, 0⟩ 1 .grow, hp ++ [some (blkOf e ws)] ++ [some (blkOf e ws)], s1, ?_, .inr ⟨hp.length + 1, blkOf e ws, rfl, by omega, by omega, ?_, rfl, by simp; omega, by show 1 * es ≤ ws.length; omega, fun j hj => ?_⟩, by simp, fun i hi => ?_⟩
    · have hb1 : Nat.beq 1 0 = false := rfl
      simp only [stepM, stepK, opd, st_app, src, hb1, cond_false, fits_small (by omega : 1 ≤ 1000000) hb, cond_true, newB, St.mm, List.length_append, List.length_cons, List.length_nil, Nat.zero_add]
    · have := lget_last (hp ++ [some (blkOf e ws)]) (some (blkOf e ws))
      rwa [List.length_append, List.length_singleton] at this
    · rw [get_blk]; simp
    · rw [List.append_assoc, List.getElem?_append_left (by omega)]
  · obtain ⟨hp2, e2⟩ : ∃ hp2, hp2 = hp ++ [some (blkOf e ws)] := ⟨_, rfl⟩
    rw [← e2] at src s1
    have hlt : b < hp.length := lget_lt hbk
    have hb2 : lget hp2 b = some (some blk) := by rw [e2]; exact lget_ext hbk _
    have hlen2 : hp2.length = hp.length + 1 := by rw [e2]; simp
    have hrow : blk.c.row 0 (k * es) = cs := row_row (k * es) 0 cs hcl fun j hj => by rw [Nat.zero_add]; exact hrows j hj
    have hke : 0 < k * es := Nat.mul_pos hpos hes
    refine ⟨_, _, .sl ⟨false, hp2.length, 0⟩ (k + 1) .grow, lset none hp2 b ++ [some (blkOf e (cs ++ ws))], s1, ?_, .inr ⟨hp2.length, blkOf e (cs ++ ws), rfl, by omega, by omega, ?_, rfl, ?_, ?_, fun j hj => ?_⟩, ?_, fun i hi => ?_⟩
    · have h1 : (Nat.beq blk.e e && Nat.ble (k * es) blk.n && fits (k + 1) bytes && ones ws) = true := by
        rw [hbe, fits_small (by omega : k + 1 ≤ 1000000) hb]
        simp [ho, Nat.ble_eq]; omega
      have h2 : (!Nat.beq 0 0) = false := rfl
      have h3 : Nat.blt 0 blk.n = true := by rw [Nat.blt_eq]; omega
      have hb10 : Nat.beq 1 0 = false := rfl
      simp only [stepM, stepK, opd, st_app, src, app_grow, hb10, h2, cond_false, Bool.or_false, Bool.false_or, hb2, h1, h3, Bool.and_self, cond_true, St.mm, hrow, Nat.min_eq_left (Nat.le_trans hL0 hLb)]
    · rw [lget_eq, lset_eq, List.getElem?_append_right (by simp)]
      simp
    · rw [List.length_append, hcl, hwl, Nat.add_mul]; omega
    · show (k + 1) * es ≤ (cs ++ ws).length
      rw [List.length_append, hcl, hwl, Nat.add_mul]; omega
    · rw [get_blk]
    · simp [lset_eq]; omega
    · rw [lset_eq, List.getElem?_append_left (by simp; omega), List.getElem?_set_ne (by omega), e2, List.getElem?_append_left (by omega)]
theorem GV.row {ro : List ABlk} {hp : Heap} {L e : Nat} {v : AVal} {k : Nat} {z : List Int} (g : GV hp L e 1 v k (z.map (AVal.i .i64))) (hk : z.length = k) : IsRow ro hp v z := by
  subst hk
  rcases g with ⟨rfl, h2, -⟩ | ⟨b, blk, rfl, hpos, hLb, hbk, hbe, hcl, hbn, hrows⟩
  · exact .inl ⟨rfl, List.length_eq_zero_iff.1 h2⟩
  · refine .inr ⟨_, _, blk, rfl, rdB_heap hbk 0, by simpa using hbn, fun j hj => ?_⟩
    rw [Nat.zero_add, hrows j (by omega), map_getD hj]
end Go.Proofs.Ythdglempcfknhaa.T

/- Groups as bits: the operations on them. -/
open Go.Vm
set_option linter.unusedVariables false
namespace Go.Proofs.Ythdglempcfknhaa.T
open Go

theorem ofInt64 {a : Nat} (ha : a < 9223372036854775808) : (BitVec.ofInt 64 (a : Int)).toNat = a := by
  rw [BitVec.ofInt_natCast, BitVec.toNat_ofNat]; exact Nat.mod_eq_of_lt (by omega)
theorem and64 {a b : Nat} (ha : a < 9223372036854775808) (hb : b < 9223372036854775808) : bitV .and .i64 (a : Int) (b : Int) = ((a &&& b : Nat) : Int) := by
  have hx : a &&& b < 2 ^ 63 := Nat.and_lt_two_pow _ (by omega)
  show numA (some (mkI .i64 (IntKind.i64.wrap ((BitVec.ofInt 64 (a : Int) &&& BitVec.ofInt 64 (b : Int)).toNat : Int)))) = _
  rw [mkI_eq, BitVec.toNat_and, ofInt64 ha, ofInt64 hb, wrap_i64_in _ (by omega) (by omega)]
  rfl
theorem or64 {a b : Nat} (ha : a < 9223372036854775808) (hb : b < 9223372036854775808) : bitV .or .i64 (a : Int) (b : Int) = ((a ||| b : Nat) : Int) := by
  have hx : a ||| b < 2 ^ 63 := Nat.or_lt_two_pow (by omega) (by omega)
  show numA (some (mkI .i64 (IntKind.i64.wrap ((BitVec.ofInt 64 (a : Int) ||| BitVec.ofInt 64 (b : Int)).toNat : Int)))) = _
  rw [mkI_eq, BitVec.toNat_or, ofInt64 ha, ofInt64 hb, wrap_i64_in _ (by omega) (by omega)]
  rfl
theorem shl64 {a c : Nat} (hc : c ≤ 60) (hr : a * 2 ^ c < 9223372036854775808) : shlV .i64 (a : Int) (c : Int) = ((a * 2 ^ c : Nat) : Int) := by
  unfold shlV
  have : min ((c : Int).toNat) (IntKind.i64.bits) = c := by
    show min c 64 = c
    omega
  rw [this]
  have e : ((a : Int) * ((2 ^ c : Nat) : Int)) = ((a * 2 ^ c : Nat) : Int) := (Int.natCast_mul _ _).symm
  show Go.Vm.wr .i64 ((a : Int) * ((2 ^ c : Nat) : Int)) = _
  rw [e, wr_id' (by omega) (by omega)]
theorem shr64 {a c : Nat} (hc : c ≤ 60) : shrV .i64 (a : Int) (c : Int) = ((a / 2 ^ c : Nat) : Int) := by
  unfold shrV
  have : min ((c : Int).toNat) (IntKind.i64.bits) = c := by
    show min c 64 = c
    omega
  rw [this]
  show Int.fdiv (a : Int) (((2 ^ c : Nat)) : Int) = _
  rw [Int.fdiv_eq_ediv_of_nonneg _ (Int.natCast_nonneg _)]
  norm_cast
theorem neg_ltI {a : Nat} : (!ltI (a : Int) (.ofNat 0)) = true := by
  rw [ltI_eq]
  have : decide ((a : Int) < Int.ofNat 0) = false := decide_eq_false (by show ¬ ((a : Int) < 0); omega)
  rw [this]; rfl
theorem shl1 {a : Nat} (ha : a ≤ 60) : shlV .i64 1 (a : Int) = ((2 ^ a : Nat) : Int) := by
  have h2 : 2 ^ a ≤ 2 ^ 60 := Nat.pow_le_pow_right (by omega) ha
  have := shl64 (a := 1) (c := a) ha (by omega)
  rw [Nat.one_mul] at this
  exact this
theorem andNot_all : ∀ a, a < 64 → ∀ b, b < 64 → eqI (bitV .andNot .i64 ((a : Nat) : Int) ((b : Nat) : Int)) 0 = Nat.beq (a &&& b) a := by decide +kernel
theorem odd_mod {a k : Nat} (hk : k ≤ 60) : eqI (Int.tmod (shrV .i64 (a : Int) (k : Int)) 2) 1 = a.testBit k := by
  rw [shr64 hk]
  have e : Int.tmod ((a / 2 ^ k : Nat) : Int) 2 = ((a / 2 ^ k % 2 : Nat) : Int) := tmod_nat _ 2
  rw [e, eqI_eq, Nat.testBit_eq_decide_div_mod_eq]
  by_cases h : a / 2 ^ k % 2 = 1
  · simp [h]
  · have : a / 2 ^ k % 2 = 0 := by omega
    simp [this]
end Go.Proofs.Ythdglempcfknhaa.T

/- What a cost is: the program and the reference. -/
open Go.Vm
set_option linter.unusedVariables false
namespace Go.Proofs.Ythdglempcfknhaa.T
open Go

/-- all numbers within a limit -/
def withinP (c : List Int) (L : Int) : Prop := ∀ j, j < c.length → -L ≤ c.getD j 0 ∧ c.getD j 0 ≤ L
instance (c : List Int) (L : Int) : Decidable (withinP c L) := inferInstanceAs (Decidable (∀ j, j < c.length → -L ≤ c.getD j 0 ∧ c.getD j 0 ≤ L))
def costP (n : Int) (c : List Int) : Prop := (1 ≤ n ∧ n ≤ 6) ∧ (c.length : Int) = ((2 ^ n.toNat : Nat) : Int) ∧ c.getD 0 0 = 0 ∧ withinP c 1000000
instance (n : Int) (c : List Int) : Decidable (costP n c) := inferInstanceAs (Decidable ((1 ≤ n ∧ n ≤ 6) ∧ (c.length : Int) = ((2 ^ n.toNat : Nat) : Int) ∧ c.getD 0 0 = 0 ∧ withinP c 1000000))
def sharP (n : Int) (s : List Int) : Prop := (s.length : Int) = n ∧ withinP s 6000000
instance (n : Int) (s : List Int) : Decidable (sharP n s) := inferInstanceAs (Decidable (_ ∧ _))

section
variable {ro : List ABlk} {h : Heap} {a : AVal} {c : List Int}
theorem within50 {x L : Int} (h0 : 0 ≤ L) (h1 : L ≤ 1000000000) : callX F1 ro 50 [.i .i64 x, .i .i64 L] h = some (.b (decide (-L ≤ x ∧ x ≤ L)), h, h.length, h.length) := by
  refine g50_ok (meansX_ok F1 ro) rfl ?_
  unfold g50
  simp only [forceI_eq, forceB_eq, ltI_eq]
  rw [wr_id' (by omega) (by omega)]
  by_cases h2 : -L ≤ x
  · by_cases h3 : x ≤ L
    · simp only [dF (show ¬ x < 0 - L by omega), dF (show ¬ L < x by omega), Bool.not_false, cond_true, bindO_some, dT (show -L ≤ x ∧ x ≤ L from ⟨h2, h3⟩), tupA]; exact fin_pure rfl
    · simp only [dF (show ¬ x < 0 - L by omega), dT (show L < x by omega), Bool.not_false, Bool.not_true, cond_true, bindO_some, dF (show ¬ (-L ≤ x ∧ x ≤ L) from fun hh => h3 hh.2), tupA]; exact fin_pure rfl
  · simp only [dT (show x < 0 - L by omega), Bool.not_true, cond_false, bindO_some, dF (show ¬ (-L ≤ x ∧ x ≤ L) from fun hh => h2 hh.1), tupA]; exact fin_pure rfl
theorem all87 {L : Int} (ha : IsRow ro h a c) (hl : c.length ≤ 9223372036854775807) (h0 : 0 ≤ L) (h1 : L ≤ 1000000000) : callX F1 ro 87 [a, .i .i64 L] h = some (.b (decide (withinP c L)), h, h.length, h.length) := by
  refine g87_ok (meansX_ok F1 ro) rfl ?_
  unfold g87
  simp only [len_row ha, bindO_some, asI_i, meansX_loop]
  have hloop := loop_if (b := fun s : Int × Mm => g87_b0 (meansX F1 ro) ro L a c.length s.1 s.2) (fun i => ((i : Int), (⟨h, h.length, h.length⟩ : Mm))) c.length (fun i => -L ≤ c.getD i 0 ∧ c.getD i 0 ≤ L) (.inl ⟨h, h.length, h.length⟩) (.inr (false, ⟨h, h.length, h.length⟩)) ?_ ?_ ?_
  · have e0 : ((0 : Nat) : Int) = 0 := rfl
    rw [e0] at hloop
    rw [hloop]
    by_cases hf : withinP c L
    · rw [if_pos (show ∀ i, i < c.length → _ from hf)]
      simp only [bindO_some, dT hf, tupA]; exact fin_pure rfl
    · rw [if_neg (show ¬ ∀ i, i < c.length → _ from hf)]
      simp only [bindO_some, dF hf, tupA]; exact fin_pure rfl
  · simp only [g87_b0, forceB_eq, ltI_eq, lt_no, cond_false]
  · intro i hi hp
    obtain ⟨p, q1, q2, q3⟩ := at_row (m := ⟨h, h.length, h.length⟩) rfl ha hi
    simp only [g87_b0, forceB_eq, ltI_eq, lt_yes hi, cond_true, q1, q2, bindO_some, asI_i, meansX_call, cp0 (within50 h0 h1), bindP_some, asB_b, dT hp, Bool.not_true, cond_false, forceI_eq]
    rw [wr_id' (by omega) (by omega)]; rfl
  · intro i hi hp
    obtain ⟨p, q1, q2, q3⟩ := at_row (m := ⟨h, h.length, h.length⟩) rfl ha hi
    simp only [g87_b0, forceB_eq, ltI_eq, lt_yes hi, cond_true, q1, q2, bindO_some, asI_i, meansX_call, cp0 (within50 h0 h1), bindP_some, asB_b, dF hp, Bool.not_false]
theorem count84 {n : Int} : callX F1 ro 84 [.i .i64 n] h = some (.b (decide (1 ≤ n ∧ n ≤ 6)), h, h.length, h.length) := by
  refine g84_ok (meansX_ok F1 ro) rfl ?_
  unfold g84
  simp only [forceB_eq, ltI_eq]
  by_cases h1 : 1 ≤ n
  · by_cases h2 : n ≤ 6
    · simp only [dF (show ¬ n < 1 by omega), dF (show ¬ 6 < n by omega), Bool.not_false, cond_true, bindO_some, dT (show 1 ≤ n ∧ n ≤ 6 from ⟨h1, h2⟩), tupA]; exact fin_pure rfl
    · simp only [dF (show ¬ n < 1 by omega), dT (show 6 < n by omega), Bool.not_false, Bool.not_true, cond_true, bindO_some, dF (show ¬ (1 ≤ n ∧ n ≤ 6) from fun hh => h2 hh.2), tupA]; exact fin_pure rfl
  · simp only [dT (show n < 1 by omega), Bool.not_true, cond_false, bindO_some, dF (show ¬ (1 ≤ n ∧ n ≤ 6) from fun hh => h1 hh.1), tupA]; exact fin_pure rfl
theorem pow_pos (k : Nat) : 0 < 2 ^ k := Nat.two_pow_pos k
theorem pow6 {k : Nat} (h : k ≤ 6) : 2 ^ k ≤ 64 := Nat.pow_le_pow_right (by omega) h
theorem shl_n {n : Int} (h1 : 1 ≤ n) (h2 : n ≤ 6) : (!ltI n (.ofNat 0)) = true ∧ shlV .i64 1 n = ((2 ^ n.toNat : Nat) : Int) := by
  obtain ⟨k, rfl⟩ : ∃ k : Nat, n = (k : Int) := ⟨n.toNat, by omega⟩
  exact ⟨neg_ltI, shl1 (by omega)⟩
theorem cost44 {n : Int} (ha : IsRow ro h a c) (hl : c.length ≤ 9223372036854775807) : callX F1 ro 44 [.i .i64 n, a] h = some (.b (decide (costP n c)), h, h.length, h.length) := by
  refine g44_ok (meansX_ok F1 ro) rfl ?_
  unfold g44
  simp only [meansX_call, cp0 count84, bindP_some, asB_b]
  by_cases h1 : 1 ≤ n ∧ n ≤ 6
  · obtain ⟨e1, e2⟩ := shl_n h1.1 h1.2
    simp only [dT h1, cond_true, len_row ha, bindO_some, asI_i, e1, e2, chk_true, forceI_eq, forceB_eq, eqI_eq]
    by_cases h2 : (c.length : Int) = ((2 ^ n.toNat : Nat) : Int)
    · have hc : 0 < c.length := by have := pow_pos n.toNat; omega
      obtain ⟨p, q1, q2, q3⟩ := at_row (m := ⟨h, h.length, h.length⟩) rfl ha hc
      have e0 : ((0 : Nat) : Int) = 0 := rfl
      rw [e0] at q1
      have b2 : ((c.length : Int) == ((2 ^ n.toNat : Nat) : Int)) = true := by rw [h2]; simp
      simp only [b2, cond_true, q1, q2, bindO_some, asI_i, eqI_eq]
      by_cases h3 : c.getD 0 0 = 0
      · have b3 : (c.getD 0 0 == 0) = true := by rw [h3]; rfl
        simp only [b3, cond_true, cp0 (all87 (L := 1000000) ha hl (by omega) (by omega)), bindP_some, asB_b, bindO_some]
        by_cases h4 : withinP c 1000000
        · simp only [dT h4, dT (show costP n c from ⟨h1, h2, h3, h4⟩), tupA]; exact fin_pure rfl
        · simp only [dF h4, dF (show ¬ costP n c from fun hh => h4 hh.2.2.2), tupA]; exact fin_pure rfl
      · have b3 : (c.getD 0 0 == 0) = false := by simpa using h3
        simp only [b3, cond_false, bindO_some, dF (show ¬ costP n c from fun hh => h3 hh.2.2.1), tupA]; exact fin_pure rfl
    · have b2 : ((c.length : Int) == ((2 ^ n.toNat : Nat) : Int)) = false := by simpa using h2
      simp only [b2, cond_false, bindO_some, dF (show ¬ costP n c from fun hh => h2 hh.2.1), tupA]; exact fin_pure rfl
  · simp only [dF h1, cond_false, bindO_some, dF (show ¬ costP n c from fun hh => h1 hh.1), tupA]; exact fin_pure rfl
theorem cost48 {n : Int} (ha : IsRow ro h a c) (hl : c.length ≤ 9223372036854775807) : callX F1 ro 48 [.i .i64 n, a] h = some (.b (decide (costP n c)), h, h.length, h.length) := by
  refine g48_ok (meansX_ok F1 ro) rfl ?_
  unfold g48
  simp only [forceB_eq, ltI_eq, meansX_loop]
  by_cases h0 : n < 1
  · simp only [dT h0, cond_true, bindO_some, dF (show ¬ costP n c from fun hh => by have := hh.1.1; omega), tupA]; exact fin_pure rfl
  by_cases h6 : 6 < n
  · simp only [dF h0, dT h6, cond_true, cond_false, bindO_some, dF (show ¬ costP n c from fun hh => by have := hh.1.2; omega), tupA]; exact fin_pure rfl
  have h1 : 1 ≤ n ∧ n ≤ 6 := by omega
  obtain ⟨e1, e2⟩ := shl_n h1.1 h1.2
  rw [ltI_eq] at e1
  simp only [dF h0, dF h6, cond_false, len_row ha, bindO_some, asI_i, e1, e2, chk_true, forceI_eq, eqI_eq]
  by_cases h2 : (c.length : Int) = ((2 ^ n.toNat : Nat) : Int)
  · have hc : 0 < c.length := by have := pow_pos n.toNat; omega
    obtain ⟨p, q1, q2, q3⟩ := at_row (m := ⟨h, h.length, h.length⟩) rfl ha hc
    have e0 : ((0 : Nat) : Int) = 0 := rfl
    rw [e0] at q1
    have b2 : ((c.length : Int) == ((2 ^ n.toNat : Nat) : Int)) = true := by rw [h2]; simp
    simp only [b2, Bool.not_true, cond_false, q1, q2, bindO_some, asI_i, eqI_eq]
    by_cases h3 : c.getD 0 0 = 0
    · have b3 : (c.getD 0 0 == 0) = true := by rw [h3]; rfl
      simp only [b3, Bool.not_true, cond_false]
      have hloop := loop_if (b := fun s : Int => g48_b3 (meansX F1 ro) ro a ⟨h, h.length, h.length⟩ s) (fun i => (i : Int)) c.length (fun i => -1000000 ≤ c.getD i 0 ∧ c.getD i 0 ≤ 1000000) (.inl ()) (.inr false) ?_ ?_ ?_
      · rw [e0] at hloop
        rw [hloop]
        by_cases hf : withinP c 1000000
        · rw [if_pos (show ∀ i, i < c.length → _ from hf)]
          simp only [bindO_some, dT (show costP n c from ⟨h1, h2, h3, hf⟩), tupA]; exact fin_pure rfl
        · rw [if_neg (show ¬ ∀ i, i < c.length → _ from hf)]
          simp only [bindO_some, dF (show ¬ costP n c from fun hh => hf hh.2.2.2), tupA]; exact fin_pure rfl
      · simp only [g48_b3, len_row ha, bindO_some, asI_i, forceB_eq, ltI_eq, lt_no, cond_false]
      · intro i hi hp
        obtain ⟨p, q1, q2, q3⟩ := at_row (m := ⟨h, h.length, h.length⟩) rfl ha hi
        simp only [g48_b3, len_row ha, bindO_some, asI_i, forceB_eq, ltI_eq, lt_yes hi, cond_true, q1, q2, dF (show ¬ c.getD i 0 < -1000000 by omega), dF (show ¬ (1000000 : Int) < c.getD i 0 by omega), cond_false, forceI_eq]
        rw [wr_id' (by omega) (by omega)]; rfl
      · intro i hi hp
        obtain ⟨p, q1, q2, q3⟩ := at_row (m := ⟨h, h.length, h.length⟩) rfl ha hi
        by_cases hlo : c.getD i 0 < -1000000
        · simp only [g48_b3, len_row ha, bindO_some, asI_i, forceB_eq, ltI_eq, lt_yes hi, cond_true, q1, q2, dT hlo]
        · simp only [g48_b3, len_row ha, bindO_some, asI_i, forceB_eq, ltI_eq, lt_yes hi, cond_true, q1, q2, dF hlo, cond_false, dT (show (1000000 : Int) < c.getD i 0 by omega)]
    · have b3 : (c.getD 0 0 == 0) = false := by simpa using h3
      simp only [b3, Bool.not_false, cond_true, dF (show ¬ costP n c from fun hh => h3 hh.2.2.1), tupA]; exact fin_pure rfl
  · have b2 : ((c.length : Int) == ((2 ^ n.toNat : Nat) : Int)) = false := by simpa using h2
    simp only [b2, Bool.not_false, cond_true, bindO_some, dF (show ¬ costP n c from fun hh => h2 hh.2.1), tupA]; exact fin_pure rfl
end
end Go.Proofs.Ythdglempcfknhaa.T

/- Tests as function values, the groups that pass them. -/
open Go.Vm
set_option linter.unusedVariables false
namespace Go.Proofs.Ythdglempcfknhaa.T
open Go

/-- a function value that answers a test for groups below N, whatever more there is in memory -/
def IsTest (ro : List ABlk) (h : Heap) (v : AVal) (N : Nat) (P : Nat → Bool) : Prop :=
  ∃ f capt, v = .fn f [] capt ∧ ∀ H, Keep h H → ∀ g, g < N → callX F1 ro f ([] ++ [.i .i64 (g : Int)] ++ capt) H = some (.b (P g), H, H.length, H.length)
theorem IsTest.by {ro : List ABlk} {h H : Heap} {v : AVal} {N : Nat} {P : Nat → Bool} (a : IsTest ro h v N P) (k : Keep h H) : IsTest ro H v N P := by
  obtain ⟨f, c, rfl, h1⟩ := a
  exact ⟨f, c, rfl, fun H' k' => h1 H' (k.trans k')⟩
abbrev tru : Nat → Bool := fun _ => true
def IsTests (ro : List ABlk) (h : Heap) (v : AVal) (N : Nat) (Ps : List (Nat → Bool)) : Prop :=
  (v = .nsl ∧ Ps = []) ∨ ∃ q cap blk, v = .sl q Ps.length cap ∧ rdB ro h q = some blk ∧ q.off + Ps.length ≤ blk.n ∧ ∀ j, j < Ps.length → IsTest ro h (blk.c.get (q.off + j)) N (Ps.getD j tru)
theorem rdB_keep {ro : List ABlk} {h H : Heap} {q : Vm.Loc} {blk : ABlk} (k : Keep h H) (a : rdB ro h q = some blk) : rdB ro H q = some blk := by
  rw [take_eq k.1 k.2]; exact rdB_ext _ a
theorem IsTests.by {ro : List ABlk} {h H : Heap} {v : AVal} {N : Nat} {Ps : List (Nat → Bool)} (a : IsTests ro h v N Ps) (k : Keep h H) : IsTests ro H v N Ps := by
  rcases a with h1 | ⟨q, cap, blk, rfl, h1, h2, h3⟩
  · exact .inl h1
  · exact .inr ⟨q, cap, blk, rfl, rdB_keep k h1, h2, fun j hj => (h3 j hj).by k⟩
/-- a list in memory that a function made itself -/
def New (L : Nat) (v : AVal) : Prop := v = .nsl ∨ ∃ b n cap, v = .sl ⟨false, b, 0⟩ n cap ∧ L ≤ b
theorem GV.new {hp : Heap} {L e es k : Nat} {v : AVal} {cs : List AVal} (g : GV hp L e es v k cs) : New L v := by
  rcases g with ⟨rfl, -⟩ | ⟨b, blk, rfl, -, hL, -⟩
  · exact .inl rfl
  · exact .inr ⟨b, _, _, rfl, hL⟩
/-- such a list is kept if its memory is -/
theorem New.row {ro : List ABlk} {H H' : Heap} {L : Nat} {v : AVal} {z : List Int} (n : New L v) (a : IsRow ro H v z) (h : ∀ b, L ≤ b → b < H.length → H'[b]? = H[b]?) : IsRow ro H' v z := by
  rcases n with rfl | ⟨b, m, cap, rfl, hL⟩
  · rcases a with ⟨-, rfl⟩ | ⟨q, cap, blk, e, -⟩
    · exact .inl ⟨rfl, rfl⟩
    · cases e
  · rcases a with ⟨e, -⟩ | ⟨q, cap', blk, e, hb, hn, hc⟩
    · cases e
    · cases e
      refine .inr ⟨_, _, blk, rfl, ?_, hn, hc⟩
      have hlt := rdB_lt hb
      unfold rdB at hb ⊢
      simp only [cond_false, Bool.false_or] at hb hlt ⊢
      rw [lget_of (h b hL (by simpa [Nat.blt_eq] using hlt))]; exact hb
section
variable {ro : List ABlk} {h : Heap} {v : AVal} {N : Nat} {Ps : List (Nat → Bool)}
theorem len_tests (a : IsTests ro h v N Ps) : evP .e (.len false (.c v)) = some (.i .i64 (Ps.length : Int)) := by
  rcases a with ⟨rfl, rfl⟩ | ⟨q, cap, blk, rfl, -⟩
  · rfl
  · simp [evP, ev_len, opd, mkI_eq]
theorem all_iff (g : Nat) : (Ps.all fun P => P g) = true ↔ ∀ i, i < Ps.length → Ps.getD i tru g = true := by
  rw [List.all_eq_true]
  constructor
  · intro hh i hi
    have : Ps.getD i tru = Ps[i] := by simp [List.getD, hi]
    rw [this]; exact hh _ (List.getElem_mem hi)
  · intro hh P hP
    obtain ⟨i, hi, rfl⟩ := List.getElem_of_mem hP
    have := hh i hi
    simpa [List.getD, hi] using this
theorem passes88 (a : IsTests ro h v N Ps) (hl : Ps.length ≤ 1000) {g : Nat} (hg : g < N) : callX F1 ro 88 [.i .i64 (g : Int), v] h = some (.b (Ps.all fun P => P g), h, h.length, h.length) := by
  refine g88_ok (meansX_ok F1 ro) rfl ?_
  unfold g88
  simp only [len_tests a, bindO_some, asI_i, meansX_loop]
  have at_t : ∀ i, i < Ps.length → ∃ p f capt, evP .e (.ixS 1 (.c v) (.c (.i .i64 (i : Int)))) = some p ∧ ldM ro ⟨h, h.length, h.length⟩ true 1 p = some (.fn f [] capt) ∧ callX F1 ro f ([] ++ [.i .i64 (g : Int)] ++ capt) h = some (.b (Ps.getD i tru g), h, h.length, h.length) := by
    intro i hi
    rcases a with ⟨rfl, rfl⟩ | ⟨q, cap, blk, rfl, h1, h2, h3⟩
    · simp at hi
    · obtain ⟨f, c, e, h4⟩ := h3 i hi
      have h5 := rd_one (i := i) h1 (by omega)
      exact ⟨_, f, c, ixS_eq hi, by simp only [ldM, h5, e], h4 h (Keep.refl h) g hg⟩
  have hloop := loop_if (b := fun s : Int × Mm => g88_b0 (meansX F1 ro) ro (g : Int) v Ps.length s.1 s.2) (fun i => ((i : Int), (⟨h, h.length, h.length⟩ : Mm))) Ps.length (fun i => Ps.getD i tru g = true) (.inl ⟨h, h.length, h.length⟩) (.inr (false, ⟨h, h.length, h.length⟩)) ?_ ?_ ?_
  · have e0 : ((0 : Nat) : Int) = 0 := rfl
    rw [e0] at hloop
    rw [hloop]
    by_cases hf : ∀ i, i < Ps.length → Ps.getD i tru g = true
    · rw [if_pos hf, (all_iff g).2 hf]
      simp only [bindO_some, tupA]; exact fin_pure rfl
    · have : (Ps.all fun P => P g) = false := by
        cases hh : (Ps.all fun P => P g)
        · rfl
        · exact absurd ((all_iff g).1 hh) hf
      rw [if_neg hf, this]
      simp only [bindO_some, tupA]; exact fin_pure rfl
  · simp only [g88_b0, forceB_eq, ltI_eq, lt_no, cond_false]
  · intro i hi hp
    obtain ⟨p, f, c, q1, q2, q3⟩ := at_t i hi
    simp only [g88_b0, forceB_eq, ltI_eq, lt_yes hi, cond_true, q1, q2, bindO_some, callyM, callvM, meansX_call, cp0 q3, bindP_some, asB_b, hp, Bool.not_true, cond_false, forceI_eq]
    rw [wr_id' (by omega) (by omega)]; rfl
  · intro i hi hp
    obtain ⟨p, f, c, q1, q2, q3⟩ := at_t i hi
    have hp' : Ps.getD i tru g = false := by simpa using hp
    simp only [g88_b0, forceB_eq, ltI_eq, lt_yes hi, cond_true, q1, q2, bindO_some, callyM, callvM, meansX_call, cp0 q3, bindP_some, asB_b, hp', Bool.not_false]
/-- the groups below N that pass all tests -/
def grp (N : Nat) (Ps : List (Nat → Bool)) : List Nat := (List.range N).filter fun g => Ps.all fun P => P g
theorem filter_succ (f : Nat → Bool) (i : Nat) : (List.range (i + 1)).filter f = (List.range i).filter f ++ cond (f i) [i] [] := by
  rw [List.range_succ, List.filter_append]
  cases h : f i <;> simp [h]
theorem groups45N {k : Nat} (hk : k ≤ 6) (hN : N = 2 ^ k) (a : IsTests ro h v N Ps) (hl : Ps.length ≤ 1000) :
    ∃ out H, callX F1 ro 45 [.i .i64 (k : Int), v] h = some (out, H, h.length, h.length) ∧ Keep h H ∧ IsRow ro H out (nts (grp N Ps)) ∧ New h.length out := by
  have h64 : N ≤ 64 := by rw [hN]; exact pow6 hk
  have key : ∃ r, loopX (fun s : AVal × Int × Mm => g45_b0 (meansX F1 ro) ro v ((N : Nat) : Int) s.1 s.2.1 s.2.2) (AVal.nsl, 0, ⟨h, h.length, h.length⟩) = some r ∧ ∃ w H, r = (w, ⟨H, h.length, h.length⟩) ∧ Keep h H ∧ IsRow ro H w (nts (grp N Ps)) ∧ New h.length w := by
    refine loop_gen N (fun i s => ∃ w H, s = (w, (i : Int), ⟨H, h.length, h.length⟩) ∧ Keep h H ∧ GV H h.length 3 1 w ((List.range i).filter fun g => Ps.all fun P => P g).length ((nts ((List.range i).filter fun g => Ps.all fun P => P g)).map (AVal.i .i64))) _ ?_ ?_ N 0 _ (by omega) ⟨.nsl, h, rfl, Keep.refl h, GV.nil _ _ _ _⟩
    · rintro i s hi ⟨w, H, rfl, kp, g⟩
      have hlen : ((List.range i).filter fun g => Ps.all fun P => P g).length ≤ 100000 := by
        have := List.length_filter_le (fun g => Ps.all fun P => P g) (List.range i)
        rw [List.length_range] at this
        omega
      have hpass := passes88 (a.by kp) hl (g := i) (by omega)
      simp only [g45_b0, forceB_eq, ltI_eq, lt_yes hi, cond_true, meansX_call, callM_pure hpass kp.1 kp.1, bindP_some, asB_b]
      rw [filter_succ]
      cases hf : (Ps.all fun P => P i)
      · simp only [cond_false, bindO_some, forceI_eq, wr_next (show i ≤ 1000000 by omega)]
        exact ⟨_, rfl, w, H, rfl, kp, by simpa using g⟩
      · obtain ⟨v2, hp2, v3, hp3, s1, s2, g2, k1, k2⟩ := GV.push (ro := ro) (L0 := h.length) (bytes := 8) (z := [AVal.i .i64 0]) (w := .i .i64 (i : Int)) (ws := [.i .i64 (i : Int)]) g (Nat.le_refl _) kp.1 hlen (by omega) (by omega) rfl rfl rfl rfl rfl
        simp only [cond_true, s1, bindP_some, s2, bindO_some, forceI_eq, wr_next (show i ≤ 1000000 by omega)]
        refine ⟨_, rfl, v3, hp3, rfl, ⟨Nat.le_trans kp.1 k1, fun j hj => by rw [k2 j hj, kp.2 j hj]⟩, ?_⟩
        rw [List.length_append, nts_app]
        simpa using g2
    · rintro s ⟨w, H, rfl, kp, g⟩
      simp only [g45_b0, forceB_eq, ltI_eq, lt_no, cond_false]
      exact ⟨_, rfl, w, H, rfl, kp, GV.row g (by rw [nts_len]; rfl), g.new⟩
  obtain ⟨r, h1, w, H, rfl, kp, hrow, hnew⟩ := key
  obtain ⟨H', f1, f2, f3⟩ := fin_rowW (w := w) kp hrow rfl
  refine ⟨w, H', g45_ok (meansX_ok F1 ro) rfl ?_, f2, f3, hnew⟩
  unfold g45
  have hs : shlV .i64 1 (k : Int) = ((N : Nat) : Int) := by rw [hN]; exact shl1 (by omega)
  simp only [neg_ltI, chk_true, forceI_eq, hs, meansX_loop]
  rw [h1]
  simp only [bindO_some, tupA]
  exact f1
theorem groups45 {k : Nat} (hk : k ≤ 6) (hN : N = 2 ^ k) (a : IsTests ro h v N Ps) (hl : Ps.length ≤ 1000) :
    ∃ out H, callX F1 ro 45 [.i .i64 (k : Int), v] h = some (out, H, h.length, h.length) ∧ Keep h H ∧ IsRow ro H out (nts (grp N Ps)) := by
  obtain ⟨out, H, h1, h2, h3, -⟩ := groups45N hk hN a hl
  exact ⟨out, H, h1, h2, h3⟩
end
theorem row_cells {ro : List ABlk} {h : Heap} {v : AVal} {z : List Int} (a : IsRow ro h v z) : v.cells = [v] ∧ v.one = true := by
  rcases a with ⟨rfl, -⟩ | ⟨q, cap, blk, rfl, -⟩ <;> exact ⟨rfl, rfl⟩
theorem bx1 {ro : List ABlk} {hp : Heap} {l p e : Nat} {v : AVal} (hv : v.cells = [v]) : stepM ro ⟨hp, l, p⟩ (.bx e 1 (.c v)) = some (.p (some ⟨false, hp.length, 0⟩), ⟨hp ++ [some (blkOf e [v])], l, p⟩) := by
  simp only [stepM, stepK, opd, st_bx, hv]
  rfl
/-- a captured variable -/
theorem cap_ld {ro : List ABlk} {hp : Heap} {b l p : Nat} {v : AVal} (a : Holds hp b [v]) : ldM ro ⟨hp, l, p⟩ true 1 (.p (some ⟨false, b, 0⟩)) = some v := a.one (k := 0) (by simp)
theorem cap_ldA {ro : List ABlk} {hp : Heap} {b : Nat} {v : AVal} (a : Holds hp b [v]) : ldA ro hp true 1 (.p (some ⟨false, b, 0⟩)) = some v := a.oneA (k := 0) (by simp)
/-- slices of tests -/
theorem tests1 {ro : List ABlk} {h : Heap} {N l p : Nat} {v : AVal} {P : Nat → Bool} (a : IsTest ro h v N P) : ∃ u H, stepM ro ⟨h, l, p⟩ (.bsl 53 1 [AVal.nfn] 1 [((0, 1), .c v)]) = some (u, ⟨H, l, p⟩) ∧ Keep h H ∧ IsTests ro H u N [P] := by
  have a' := a
  obtain ⟨f, c, rfl, -⟩ := a'
  refine ⟨.sl ⟨false, h.length, 0⟩ 1 (.known 1), h ++ [some (blkOf 53 [.fn f [] c])], rfl, Keep.app _, .inr ⟨⟨false, h.length, 0⟩, .known 1, blkOf 53 [.fn f [] c], rfl, rdB_heap (lget_last _ _) 0, by simp [blkOf], fun j hj => ?_⟩⟩
  obtain rfl : j = 0 := by simp at hj; omega
  rw [Nat.zero_add, get_blk]
  exact a.by (Keep.app _)
theorem tests2 {ro : List ABlk} {h : Heap} {N l p : Nat} {v w : AVal} {P Q : Nat → Bool} (a : IsTest ro h v N P) (b : IsTest ro h w N Q) : ∃ u H, stepM ro ⟨h, l, p⟩ (.bsl 53 1 [AVal.nfn] 2 [((0, 1), .c v), ((1, 1), .c w)]) = some (u, ⟨H, l, p⟩) ∧ Keep h H ∧ IsTests ro H u N [P, Q] := by
  have a' := a; have b' := b
  obtain ⟨f, c, rfl, -⟩ := a'
  obtain ⟨f2, c2, rfl, -⟩ := b'
  refine ⟨.sl ⟨false, h.length, 0⟩ 2 (.known 2), h ++ [some (blkOf 53 [.fn f [] c, .fn f2 [] c2])], rfl, Keep.app _, .inr ⟨⟨false, h.length, 0⟩, .known 2, blkOf 53 [.fn f [] c, .fn f2 [] c2], rfl, rdB_heap (lget_last _ _) 0, by simp [blkOf], fun j hj => ?_⟩⟩
  have hj2 : j = 0 ∨ j = 1 := by simp at hj; omega
  rcases hj2 with rfl | rfl
  · rw [Nat.zero_add, get_blk]
    exact a.by (Keep.app _)
  · rw [Nat.zero_add, get_blk]
    exact b.by (Keep.app _)
end Go.Proofs.Ythdglempcfknhaa.T

/- The tests, what a group pays. -/
open Go.Vm
set_option linter.unusedVariables false
namespace Go.Proofs.Ythdglempcfknhaa.T
open Go

abbrev cs (c : List Int) (g : Nat) : Int := c.getD g 0
def brk (c : List Int) (a b : Nat) : Bool := decide (cs c a + cs c b < cs c (a ||| b) + cs c (a &&& b))
section
variable {ro : List ABlk} {h : Heap} {a b : AVal} {c s : List Int} {N : Nat}
/-- a function value that captures something new -/
theorem fin_fn {H : Heap} {f : Nat} {l : List AVal} {b : Nat} {w : AVal} (kp : Keep h H) (hw : w = .fn f [] l) (hm : AVal.p (some ⟨false, b, 0⟩) ∈ l) (hb : h.length ≤ b) : finM h.length w ⟨H, h.length, h.length⟩ = some (w, H, h.length, h.length) := by
  obtain ⟨H', h1, h2, h3⟩ := fin_any (w := w) kp
  have : w.bel h.length = false := by
    subst hw
    have : ∀ l : List AVal, AVal.p (some ⟨false, b, 0⟩) ∈ l → bels h.length l = false := by
      intro l hl
      induction l with
      | nil => cases hl
      | cons x l ih =>
        rcases List.mem_cons.1 hl with e | hl
        · subst e
          have : Nat.blt b h.length = false := by
            cases hh : Nat.blt b h.length
            · rfl
            · rw [Nat.blt_eq] at hh; omega
          simp [bels, AVal.bel, this]
        · simp [bels, ih hl]
    simp [AVal.bel, bels, this l hm]
  rw [h3 this] at h1
  exact h1
theorem above46 {x : Nat} : ∃ v H, callX F1 ro 46 [.i .i64 (x : Int)] h = some (v, H, h.length, h.length) ∧ Keep h H ∧ IsTest ro H v N fun g => decide (x < g) := by
  have hold : Holds (h ++ [some (blkOf 3 [.i .i64 (x : Int)])]) h.length [.i .i64 (x : Int)] := Holds.new _ _ _
  have kp : Keep h (h ++ [some (blkOf 3 [.i .i64 (x : Int)])]) := Keep.app _
  refine ⟨.fn 89 [] [.p (some ⟨false, h.length, 0⟩)], h ++ [some (blkOf 3 [.i .i64 (x : Int)])], g46_ok (meansX_ok F1 ro) rfl ?_, kp, _, _, rfl, fun H k g hg => ?_⟩
  · unfold g46
    simp only [bx1 (show (AVal.i .i64 (x : Int)).cells = [.i .i64 (x : Int)] from rfl), bindP_some, bindO_some, tupA]
    exact fin_fn kp rfl (by simp) (Nat.le_refl _)
  · refine g89_ok (meansX_ok F1 ro) rfl ?_
    unfold g89
    simp only [cap_ld (hold.by k), bindO_some, asI_i, forceB_eq, ltI_eq, tupA]
    have e : decide ((x : Int) < (g : Int)) = decide (x < g) := decide_eq_decide.2 (by omega)
    rw [e]
    exact fin_pure rfl
theorem two_cap {e1 e2 : Nat} {v w : AVal} (hp : Heap) : Keep hp (hp ++ [some (blkOf e1 [v])] ++ [some (blkOf e2 [w])]) ∧ Holds (hp ++ [some (blkOf e1 [v])] ++ [some (blkOf e2 [w])]) hp.length [v] ∧ Holds (hp ++ [some (blkOf e1 [v])] ++ [some (blkOf e2 [w])]) (hp.length + 1) [w] := by
  refine ⟨(Keep.app _).trans (Keep.app _), (Holds.new _ _ _).ext _, ?_⟩
  have := Holds.new (hp ++ [some (blkOf e1 [v])]) e2 [w]
  rwa [List.length_append, List.length_singleton] at this
theorem breaks47 {k : Nat} (hN : N = 2 ^ k) (hk : k ≤ 6) (ha : IsRow ro h a c) (hc : c.length = N) (hw : withinP c 1000000) {x : Nat} (hx : x < N) : ∃ v H, callX F1 ro 47 [a, .i .i64 (x : Int)] h = some (v, H, h.length, h.length) ∧ Keep h H ∧ IsTest ro H v N (brk c x) := by
  obtain ⟨kp, o1, o2⟩ := two_cap (e1 := 22) (e2 := 3) (v := a) (w := .i .i64 (x : Int)) h
  obtain ⟨H, hH⟩ : ∃ H, H = h ++ [some (blkOf 22 [a])] ++ [some (blkOf 3 [.i .i64 (x : Int)])] := ⟨_, rfl⟩
  rw [← hH] at kp o1 o2
  have h64 : N ≤ 64 := by rw [hN]; exact pow6 hk
  refine ⟨.fn 90 [] [.p (some ⟨false, h.length, 0⟩), .p (some ⟨false, h.length + 1, 0⟩)], H, g47_ok (meansX_ok F1 ro) rfl ?_, kp, _, _, rfl, fun H' k' g hg => ?_⟩
  · unfold g47
    simp only [bx1 (row_cells ha).1, bx1 (show (AVal.i .i64 (x : Int)).cells = [.i .i64 (x : Int)] from rfl), bindP_some, bindO_some, tupA, List.length_append, List.length_singleton, ← hH]
    exact fin_fn kp rfl (by simp) (Nat.le_refl _)
  · refine g90_ok (meansX_ok F1 ro) rfl ?_
    unfold g90
    have ko : x ||| g < N := by rw [hN] at hx hg ⊢; exact Nat.or_lt_two_pow hx hg
    have ka : x &&& g < N := by rw [hN] at hx ⊢; exact Nat.lt_of_le_of_lt Nat.and_le_left hx
    have r := row_by ha (kp.trans k')
    obtain ⟨p1, u1, -, u2⟩ := at_row (m := ⟨H', H'.length, H'.length⟩) rfl r (show x < c.length by omega)
    obtain ⟨p2, v1, -, v2⟩ := at_row (m := ⟨H', H'.length, H'.length⟩) rfl r (show g < c.length by omega)
    obtain ⟨p3, w1, -, w2⟩ := at_row (m := ⟨H', H'.length, H'.length⟩) rfl r (show x ||| g < c.length by omega)
    obtain ⟨p4, y1, -, y2⟩ := at_row (m := ⟨H', H'.length, H'.length⟩) rfl r (show x &&& g < c.length by omega)
    have b1 := hw x (by omega); have b2 := hw g (by omega); have b3 := hw (x ||| g) (by omega); have b4 := hw (x &&& g) (by omega)
    simp only [cap_ldA (o1.by k'), cap_ldA (o2.by k'), bindO_some, asI_i, u1, u2, v1, v2, forceI_eq, or64 (show x < 9223372036854775808 by omega) (show g < 9223372036854775808 by omega), and64 (show x < 9223372036854775808 by omega) (show g < 9223372036854775808 by omega), w1, w2, y1, y2, forceB_eq, ltI_eq, tupA]
    rw [wr_id' (by omega) (by omega), wr_id' (by omega) (by omega)]
    exact fin_pure rfl
theorem costs71 (hN : N ≤ 64) (ha : IsRow ro h a c) (hc : c.length = N) {x : Int} : ∃ v H, callX F1 ro 71 [a, .i .i64 x] h = some (v, H, h.length, h.length) ∧ Keep h H ∧ IsTest ro H v N fun g => cs c g == x := by
  obtain ⟨kp, o1, o2⟩ := two_cap (e1 := 22) (e2 := 3) (v := a) (w := .i .i64 x) h
  obtain ⟨H, hH⟩ : ∃ H, H = h ++ [some (blkOf 22 [a])] ++ [some (blkOf 3 [.i .i64 x])] := ⟨_, rfl⟩
  rw [← hH] at kp o1 o2
  refine ⟨.fn 97 [] [.p (some ⟨false, h.length, 0⟩), .p (some ⟨false, h.length + 1, 0⟩)], H, g71_ok (meansX_ok F1 ro) rfl ?_, kp, _, _, rfl, fun H' k' g hg => ?_⟩
  · unfold g71
    simp only [bx1 (row_cells ha).1, bx1 (show (AVal.i .i64 x).cells = [.i .i64 x] from rfl), bindP_some, bindO_some, tupA, List.length_append, List.length_singleton, ← hH]
    exact fin_fn kp rfl (by simp) (Nat.le_refl _)
  · refine g97_ok (meansX_ok F1 ro) rfl ?_
    unfold g97
    have ra := row_by ha (kp.trans k')
    obtain ⟨p2, v1, -, v2⟩ := at_row (m := ⟨H', H'.length, H'.length⟩) rfl ra (show g < c.length by omega)
    simp only [bindO_some, cap_ldA (o1.by k'), cap_ldA (o2.by k'), v1, v2, asI_i, forceB_eq, eqI_eq, tupA]
    exact fin_pure rfl
theorem inside73 (hN : N ≤ 64) {x : Nat} (hx : x < 64) : ∃ v H, callX F1 ro 73 [.i .i64 (x : Int)] h = some (v, H, h.length, h.length) ∧ Keep h H ∧ IsTest ro H v N fun g => Nat.beq (g &&& x) g := by
  have hold : Holds (h ++ [some (blkOf 3 [.i .i64 (x : Int)])]) h.length [.i .i64 (x : Int)] := Holds.new _ _ _
  have kp : Keep h (h ++ [some (blkOf 3 [.i .i64 (x : Int)])]) := Keep.app _
  refine ⟨.fn 98 [] [.p (some ⟨false, h.length, 0⟩)], h ++ [some (blkOf 3 [.i .i64 (x : Int)])], g73_ok (meansX_ok F1 ro) rfl ?_, kp, _, _, rfl, fun H k g hg => ?_⟩
  · unfold g73
    simp only [bx1 (show (AVal.i .i64 (x : Int)).cells = [.i .i64 (x : Int)] from rfl), bindP_some, bindO_some, tupA]
    exact fin_fn kp rfl (by simp) (Nat.le_refl _)
  · refine g98_ok (meansX_ok F1 ro) rfl ?_
    unfold g98
    simp only [cap_ld (hold.by k), bindO_some, asI_i, forceI_eq, andNot_all g (by omega) x hx, forceB_eq, tupA]
    exact fin_pure rfl
theorem around74 (hN : N ≤ 64) {x : Nat} (hx : x < 64) : ∃ v H, callX F1 ro 74 [.i .i64 (x : Int)] h = some (v, H, h.length, h.length) ∧ Keep h H ∧ IsTest ro H v N fun g => Nat.beq (x &&& g) x := by
  have hold : Holds (h ++ [some (blkOf 3 [.i .i64 (x : Int)])]) h.length [.i .i64 (x : Int)] := Holds.new _ _ _
  have kp : Keep h (h ++ [some (blkOf 3 [.i .i64 (x : Int)])]) := Keep.app _
  refine ⟨.fn 99 [] [.p (some ⟨false, h.length, 0⟩)], h ++ [some (blkOf 3 [.i .i64 (x : Int)])], g74_ok (meansX_ok F1 ro) rfl ?_, kp, _, _, rfl, fun H k g hg => ?_⟩
  · unfold g74
    simp only [bx1 (show (AVal.i .i64 (x : Int)).cells = [.i .i64 (x : Int)] from rfl), bindP_some, bindO_some, tupA]
    exact fin_fn kp rfl (by simp) (Nat.le_refl _)
  · refine g99_ok (meansX_ok F1 ro) rfl ?_
    unfold g99
    simp only [cap_ld (hold.by k), bindO_some, asI_i, forceI_eq, andNot_all x hx g (by omega), forceB_eq, tupA]
    exact fin_pure rfl
end
end Go.Proofs.Ythdglempcfknhaa.T

/- Check: the first groups for which a cost is not submodular. -/
open Go.Vm
set_option linter.unusedVariables false
namespace Go.Proofs.Ythdglempcfknhaa.T
open Go

/-- the groups after a with which a breaks -/
def badG (c : List Int) (N a : Nat) : List Nat := grp N [fun g => decide (a < g), brk c a]
def badS (c : List Int) (N a : Nat) : Option (Nat × Nat) := (badG c N a).head?.map fun b => (a, b)
def bad (c : List Int) : Option (Nat × Nat) := firstS (badS c c.length) c.length 0
def chkT (n : Int) (c : List Int) : Int × Int × Int := if costP n c then (match bad c with | none => (0, 0, 10) | some (a, b) => ((a : Int), (b : Int), 0)) else (0, 0, 2)
def errS (n : Int) (c : List Int) : Int := if costP n c then (match bad c with | none => 0 | some _ => 5) else 2
def tupT (t : Int × Int × Int) : AVal := .tup [.i .i64 t.1, .i .i64 t.2.1, .i .i64 t.2.2]
theorem first_head {R : Type} (p : Nat → Bool) (f : Nat → R) (N i : Nat) (hi : i ≤ N) : firstS (fun b => if p b = true then some (f b) else none) (N - i) i = ((List.range N).filter fun g => decide (i ≤ g) && p g).head?.map f := by
  rw [List.head?_filter]
  cases hh : (List.range N).find? fun g => decide (i ≤ g) && p g with
  | none =>
    rw [List.find?_range_eq_none] at hh
    refine firstS_none.2 fun j h1 h2 => ?_
    have := hh j (by omega)
    have h3 : p j = false := by simpa [h1] using this
    simp [h3]
  | some b =>
    rw [List.find?_range_eq_some] at hh
    obtain ⟨h1, h2, h3⟩ := hh
    simp only [Bool.and_eq_true, decide_eq_true_eq] at h1
    refine firstS_at h1.1 (by simp at h2; omega) (fun j' h4 h5 => ?_) (by simp [h1.2])
    have := h3 j' h5
    have h6 : p j' = false := by simpa [h4] using this
    simp [h6]
theorem badS_first (c : List Int) {N a : Nat} (ha : a < N) : firstS (fun b => if brk c a b = true then some (a, b) else none) (N - (a + 1)) (a + 1) = badS c N a := by
  rw [first_head (brk c a) (fun b => (a, b)) N (a + 1) (by omega)]
  unfold badS badG grp
  congr 2
  refine List.filter_congr fun g _ => ?_
  simp only [List.all_cons, List.all_nil, Bool.and_true]
  rfl
section
variable {ro : List ABlk} {h : Heap} {a b : AVal} {c s : List Int}
theorem at_nts {ro : List ABlk} {h : Heap} {v : AVal} {z : List Nat} (hr : IsRow ro h v (nts z)) {i : Nat} (hi : i < z.length) : ∃ p, evP .e (.ixS 1 (.c v) (.c (.i .i64 (i : Int)))) = some p ∧ ∀ {hp : Heap} {l q : Nat}, Keep h hp → ldM ro ⟨hp, l, q⟩ true 1 p = some (.i .i64 ((z.getD i 0 : Nat) : Int)) ∧ ldA ro hp true 1 p = some (.i .i64 ((z.getD i 0 : Nat) : Int)) := by
  obtain ⟨p, h1, h2⟩ := at_rowK hr (i := i) (by rw [nts_len]; exact hi)
  refine ⟨p, h1, fun {hp l q} k => ?_⟩
  have := h2 (l := l) (q := q) k
  rw [nts_get] at this
  exact this
theorem costN {n : Int} (hp : costP n c) : ∃ k : Nat, n = (k : Int) ∧ 1 ≤ k ∧ k ≤ 6 ∧ c.length = 2 ^ k ∧ c.length ≤ 64 := by
  obtain ⟨⟨h1, h2⟩, h3, -⟩ := hp
  refine ⟨n.toNat, by omega, by omega, by omega, by omega, ?_⟩
  have := pow6 (k := n.toNat) (by omega)
  omega
theorem grp_all (N : Nat) : grp N [] = List.range N := by
  unfold grp
  simp
/-- all groups -/
theorem all45 {k : Nat} (hk : k ≤ 6) : ∃ out H, callX F1 ro 45 [.i .i64 (k : Int), .nsl] h = some (out, H, h.length, h.length) ∧ Keep h H ∧ IsRow ro H out (nts (List.range (2 ^ k))) := by
  obtain ⟨out, H, h1, h2, h3⟩ := groups45 (ro := ro) (h := h) (v := .nsl) (N := 2 ^ k) (Ps := []) hk rfl (.inl ⟨rfl, rfl⟩) (by simp)
  rw [grp_all] at h3
  exact ⟨out, H, h1, h2, h3⟩
theorem check16 {n : Int} (ha : IsRow ro h a c) (hl : c.length ≤ 9223372036854775807) : callX F1 ro 16 [.i .i64 n, a] h = some (tupT (chkT n c), h, h.length, h.length) := by
  refine g16_ok (meansX_ok F1 ro) rfl ?_
  unfold g16
  simp only [meansX_call, cp0 (cost44 (n := n) ha hl), bindP_some, asB_b]
  by_cases hc : costP n c
  · obtain ⟨k, rfl, hk1, hk6, hlen, h64⟩ := costN hc
    have hw : withinP c 1000000 := hc.2.2.2
    simp only [dT hc, Bool.not_true, forceB_eq, cond_false]
    obtain ⟨out, H1, q1, kp1, hrow⟩ := all45 (ro := ro) (h := h) hk6
    rw [← hlen] at hrow
    simp only [cM q1 (Nat.le_refl _) (Nat.le_refl _), bindP_some, len_row hrow, nts_len, List.length_range, bindO_some, asI_i, meansX_loop]
    have key : ∃ r, loopX (fun s : Int × Mm => g16_b0 (meansX F1 ro) ro (k : Int) a out ((c.length : Nat) : Int) s.1 s.2) (0, ⟨H1, h.length, h.length⟩) = some r ∧ ∃ H, Keep h H ∧ ((r = .inl ⟨H, h.length, h.length⟩ ∧ bad c = none) ∨ ∃ x y : Nat, r = .inr ((x : Int), (y : Int), 0, ⟨H, h.length, h.length⟩) ∧ bad c = some (x, y)) := by
      refine loop_exit c.length (fun i s => ∃ H, s = ((i : Int), (⟨H, h.length, h.length⟩ : Mm)) ∧ Keep H1 H ∧ ∀ j, j < i → badS c c.length j = none) _ ?_ ?_ c.length 0 _ (by omega) ⟨H1, rfl, Keep.refl _, fun j hj => by omega⟩
      · rintro i s hi ⟨H, rfl, kp, hno⟩
        obtain ⟨p, p1, p2⟩ := at_nts hrow (i := i) (by rw [List.length_range]; exact hi)
        have p3 := (p2 (l := h.length) (q := h.length) kp).1
        have e : (List.range c.length).getD i 0 = i := by simp [List.getD, hi]
        rw [e] at p3
        have kh := kp1.trans kp
        obtain ⟨t1, Ha, a1, ka, ia⟩ := above46 (ro := ro) (h := H) (N := c.length) (x := i)
        obtain ⟨t2, Hb, b1, kb, ib⟩ := breaks47 (h := Ha) hlen hk6 (row_by ha (kh.trans ka)) rfl hw hi
        obtain ⟨u, Hc, c1, kc, ic⟩ := tests2 (l := h.length) (p := h.length) (ia.by kb) ib
        obtain ⟨o2, Hd, d1, kd, rd⟩ := groups45 (ro := ro) (h := Hc) hk6 hlen ic (by simp)
        have kA := kh.trans ka
        have kB := kA.trans kb
        have kC := kB.trans kc
        have kD := kC.trans kd
        have hG : grp c.length [fun g => decide (i < g), brk c i] = badG c c.length i := rfl
        rw [hG] at rd
        simp only [g16_b0, forceB_eq, ltI_eq, lt_yes hi, cond_true, p1, p3, bindO_some, asI_i, meansX_call, cM a1 kh.1 kh.1, bindP_some, cM b1 kA.1 kA.1, c1, cM d1 kC.1 kC.1, len_row rd, nts_len]
        by_cases hb : 0 < (badG c c.length i).length
        · right
          obtain ⟨p', p1', p2'⟩ := at_nts rd (i := 0) hb
          have e0 : ((0 : Nat) : Int) = 0 := rfl
          rw [e0] at p1'
          have p3' := (p2' (l := h.length) (q := h.length) (Keep.refl Hd)).1
          simp only [dT (show (0 : Int) < ((badG c c.length i).length : Int) by omega), cond_true, p1', p3', bindO_some, asI_i]
          refine ⟨_, rfl, Hd, kD, .inr ⟨i, _, rfl, ?_⟩⟩
          refine firstS_at (Nat.zero_le _) (by omega) (fun j' _ hj => hno j' hj) ?_
          unfold badS
          rw [List.head?_eq_getElem?, List.getElem?_eq_getElem hb]
          simp [List.getD, hb]
        · left
          simp only [dF (show ¬ (0 : Int) < ((badG c c.length i).length : Int) by omega), cond_false, forceI_eq, wr_next (show i ≤ 1000000 by omega)]
          refine ⟨_, rfl, Hd, rfl, ((kp.trans ka).trans (kb.trans (kc.trans kd))), fun j hj => ?_⟩
          by_cases hji : j < i
          · exact hno j hji
          · obtain rfl : j = i := by omega
            unfold badS
            rw [List.eq_nil_of_length_eq_zero (by omega : (badG c c.length j).length = 0)]
            rfl
      · rintro s ⟨H, rfl, kp, hno⟩
        simp only [g16_b0, forceB_eq, ltI_eq, lt_no, cond_false]
        exact ⟨_, rfl, H, kp1.trans kp, .inl ⟨rfl, firstS_none.2 fun j _ hj => hno j (by omega)⟩⟩
    obtain ⟨r, e1, H, kp, hr⟩ := key
    rw [e1]
    rcases hr with ⟨rfl, hb⟩ | ⟨x, y, rfl, hb⟩
    · simp only [bindO_some, tupA, chkT, if_pos hc, hb]
      exact fin_keep kp rfl
    · simp only [bindO_some, tupA, chkT, if_pos hc, hb]
      exact fin_keep kp rfl
  · simp only [dF hc, Bool.not_false, forceB_eq, cond_true, tupA, chkT, if_neg hc]
    exact fin_pure rfl
theorem broken49 {n : Int} (hc : costP n c) (ha : IsRow ro h a c) : callX F1 ro 49 [a] h = some (match bad c with | none => .tup [.i .i64 0, .i .i64 0, .b false] | some (x, y) => .tup [.i .i64 x, .i .i64 y, .b true], h, h.length, h.length) := by
  obtain ⟨k, rfl, hk1, hk6, hlen, h64⟩ := costN hc
  have hw : withinP c 1000000 := hc.2.2.2
  refine g49_ok (meansX_ok F1 ro) rfl ?_
  unfold g49
  simp only [meansX_loop]
  let enc : Nat × Nat → Unit ⊕ (Int × Int × Bool) := fun p => .inr ((p.1 : Int), (p.2 : Int), true)
  have inner : ∀ i, i < c.length → loopX (fun s : Int => g49_b1 (meansX F1 ro) ro a (i : Int) ⟨h, h.length, h.length⟩ s) (((i + 1 : Nat) : Int)) = some (((badS c c.length i).map enc).getD (.inl ())) := by
    intro i hi
    have hst := loop_st (b := fun s : Int => g49_b1 (meansX F1 ro) ro a (i : Int) ⟨h, h.length, h.length⟩ s) (fun j => (j : Int)) c.length (fun j => if brk c i j = true then some (enc (i, j)) else none) (.inl ()) ?_ ?_ (c.length - (i + 1)) (i + 1) (by omega)
    · rw [hst, ← badS_first c hi, first_head (brk c i) (fun j => enc (i, j)) c.length (i + 1) (by omega), first_head (brk c i) (fun j => (i, j)) c.length (i + 1) (by omega), Option.map_map]
      rfl
    · simp only [g49_b1, len_row ha, bindO_some, asI_i, forceB_eq, ltI_eq, lt_no, cond_false]
    · intro g hg
      have ko : i ||| g < c.length := by rw [hlen] at hi hg ⊢; exact Nat.or_lt_two_pow hi hg
      have ka : i &&& g < c.length := by rw [hlen] at hi ⊢; exact Nat.lt_of_le_of_lt Nat.and_le_left hi
      obtain ⟨p1, u1, -, u2⟩ := at_row (m := ⟨h, h.length, h.length⟩) rfl ha hi
      obtain ⟨p2, v1, -, v2⟩ := at_row (m := ⟨h, h.length, h.length⟩) rfl ha hg
      obtain ⟨p3, w1, -, w2⟩ := at_row (m := ⟨h, h.length, h.length⟩) rfl ha ko
      obtain ⟨p4, y1, -, y2⟩ := at_row (m := ⟨h, h.length, h.length⟩) rfl ha ka
      have b1 := hw i (by omega); have b2 := hw g (by omega); have b3 := hw (i ||| g) (by omega); have b4 := hw (i &&& g) (by omega)
      simp only [g49_b1, len_row ha, bindO_some, asI_i, forceB_eq, ltI_eq, lt_yes hg, cond_true, u1, u2, v1, v2, forceI_eq, or64 (show i < 9223372036854775808 by omega) (show g < 9223372036854775808 by omega), and64 (show i < 9223372036854775808 by omega) (show g < 9223372036854775808 by omega), w1, w2, y1, y2]
      rw [wr_id' (by omega) (by omega), wr_id' (by omega) (by omega)]
      by_cases hb : c.getD i 0 + c.getD g 0 < c.getD (i ||| g) 0 + c.getD (i &&& g) 0
      · simp only [dT hb, cond_true, if_pos (show brk c i g = true from dT hb)]
        rfl
      · simp only [dF hb, cond_false, if_neg (show ¬ brk c i g = true from fun hh => hb (of_decide_eq_true hh)), wr_next (show g ≤ 1000000 by omega)]
  have hst := loop_st (b := fun s : Int => g49_b0 (meansX F1 ro) ro a ⟨h, h.length, h.length⟩ s) (fun j => (j : Int)) c.length (fun j => (badS c c.length j).map enc) (.inl ()) ?_ ?_ c.length 0 (by omega)
  · have e0 : ((0 : Nat) : Int) = 0 := rfl
    rw [e0] at hst
    rw [hst]
    have hm : firstS (fun j => (badS c c.length j).map enc) c.length 0 = (bad c).map enc := by
      cases hb : bad c with
      | none =>
        refine firstS_none.2 fun j h1 h2 => ?_
        have := firstS_none.1 hb j h1 h2
        rw [this]; rfl
      | some p =>
        obtain ⟨j, h1, h2, h3, h4⟩ := firstS_some hb
        refine firstS_at h1 h2 (fun j' h5 h6 => by rw [h4 j' h5 h6]; rfl) ?_
        rw [h3]; rfl
    rw [hm]
    cases hb : bad c with
    | none =>
      simp only [Option.map_none, Option.getD_none, bindO_some, tupA]
      exact fin_pure rfl
    | some p =>
      obtain ⟨x, y⟩ := p
      simp only [Option.map_some, Option.getD_some, bindO_some, tupA, enc]
      exact fin_pure rfl
  · simp only [g49_b0, len_row ha, bindO_some, asI_i, forceB_eq, ltI_eq, lt_no, cond_false]
  · intro i hi
    simp only [g49_b0, len_row ha, bindO_some, asI_i, forceB_eq, ltI_eq, lt_yes hi, cond_true, forceI_eq, wr_next (show i ≤ 1000000 by omega), meansX_loop, inner i hi]
    cases badS c c.length i <;> rfl
theorem fault51 {n : Int} (ha : IsRow ro h a c) (hl : c.length ≤ 9223372036854775807) : callX F1 ro 51 [.i .i64 n, a] h = some (.i .i64 (errS n c), h, h.length, h.length) := by
  refine g51_ok (meansX_ok F1 ro) rfl ?_
  unfold g51
  simp only [meansX_call, cp0 (check16 (n := n) ha hl), bindP_some, tupT, ext0, ext1, ext2, bindO_some, asI_i, forceB_eq, eqI_eq]
  unfold chkT errS
  by_cases hc : costP n c
  · rw [if_pos hc, if_pos hc]
    cases hb : bad c with
    | none =>
      simp only [show ((10 : Int) == 0) = false from rfl, show ((10 : Int) == 10) = true from rfl, cond_true, cond_false, tupA]; exact fin_pure rfl
    | some p =>
      simp only [show ((0 : Int) == 0) = true from rfl, cond_true, tupA]; exact fin_pure rfl
  · rw [if_neg hc, if_neg hc]
    simp only [show ((2 : Int) == 0) = false from rfl, show ((2 : Int) == 10) = false from rfl, cond_false, tupA]; exact fin_pure rfl
theorem asked54 {n : Int} (ha : IsRow ro h a c) (hl : c.length ≤ 9223372036854775807) : callX F1 ro 54 [.i .i64 n, a] h = some (.i .i64 (errS n c), h, h.length, h.length) := by
  refine g54_ok (meansX_ok F1 ro) rfl ?_
  unfold g54
  simp only [meansX_call, cp0 (cost48 (n := n) ha hl), bindP_some, asB_b]
  unfold errS
  by_cases hc : costP n c
  · simp only [dT hc, Bool.not_true, forceB_eq, cond_false, cp0 (broken49 hc ha), bindP_some, if_pos hc]
    cases hb : bad c with
    | none => simp only [ext0, ext1, ext2, bindO_some, asI_i, asB_b, cond_false, tupA]; exact fin_pure rfl
    | some p => simp only [ext0, ext1, ext2, bindO_some, asI_i, asB_b, cond_true, tupA]; exact fin_pure rfl
  · simp only [dF hc, Bool.not_false, forceB_eq, cond_true, tupA, if_neg hc]
    exact fin_pure rfl
end
end Go.Proofs.Ythdglempcfknhaa.T

/- Blocks of numbers that a function makes and writes; copies. -/
open Go.Vm
set_option linter.unusedVariables false
namespace Go.Proofs.Ythdglempcfknhaa.T
open Go

abbrev ints (z : List Int) : List AVal := z.map (AVal.i .i64)
/-- a block of numbers -/
abbrev HI (hp : Heap) (b : Nat) (z : List Int) : Prop := Holds hp b (ints z)
theorem rep_ints (n : Nat) : rep [AVal.i .i64 0] n = ints (List.replicate n 0) := by
  induction n with
  | zero => rfl
  | succ n ih => simp [rep, ih, List.replicate_succ]
section
variable {ro : List ABlk} {h hp : Heap} {b k n : Nat} {z : List Int} {v : AVal}
theorem HI.row (a : HI hp b z) {m : Nat} {cap : Cap} (hm : m = z.length) : IsRow ro hp (.sl ⟨false, b, 0⟩ m cap) z := by
  subst hm
  obtain ⟨blk, h1, h2, h3⟩ := a
  refine .inr ⟨_, _, blk, rfl, rdB_heap h1 0, by rw [h2]; simp, fun j hj => ?_⟩
  rw [Nat.zero_add, h3 j (by simpa using hj), map_getD hj]
theorem mkI (hn : n ≤ 1000) {l p : Nat} : stepM ro ⟨hp, l, p⟩ (.mk 3 1 8 [.i .i64 0] (.c (.i .i64 (n : Int))) (.c (.i .i64 (n : Int)))) = some (.sl ⟨false, hp.length, 0⟩ n (.known n), ⟨hp ++ [some (newBlk 3 (.i .i64 0) n)], l, p⟩) ∧ HI (hp ++ [some (newBlk 3 (.i .i64 0) n)]) hp.length (List.replicate n 0) := by
  refine ⟨mk_ok hn (by omega), ?_⟩
  unfold newBlk
  rw [rep_ints]
  exact Holds.new _ _ _
theorem HI.wr {x : Int} (a : HI hp b z) (hk : k < z.length) (hL : h.length ≤ b) (kp : Keep h hp) : ∃ hp', writesM ro [] [(⟨false, b, 0 + k⟩, AVal.cells (.i .i64 x))] ⟨hp, h.length, h.length⟩ = some ⟨hp', h.length, h.length⟩ ∧ HI hp' b (z.set k x) ∧ hp'.length = hp.length ∧ (∀ i, i ≠ b → hp'[i]? = hp[i]?) ∧ Keep h hp' := by
  have a0 := a
  obtain ⟨blk, h1, h2, h3⟩ := a
  rw [List.length_map] at h2 h3
  have e0 : 0 + k = k := by omega
  refine ⟨hp.set b (some { blk with c := blk.c.set k (.i .i64 x) }), ?_, ⟨_, lget_set h1 _, by simpa using h2, fun j hj => ?_⟩, by simp, fun i hi => List.getElem?_set_ne (Ne.symm hi), kp.set hL _⟩
  · rw [e0]
    have := wr_heap (ro := ro) (l := h.length) (p := h.length) (off := k) (v := .i .i64 x) h1 (by omega) rfl rfl
    rw [Nat.min_eq_left hL] at this
    exact this
  · show (blk.c.set k (.i .i64 x)).get j = _
    rw [get_set]
    simp only [List.length_map, List.length_set] at hj
    rw [map_getD (by simpa using hj)]
    by_cases e : k = j
    · subst e; simp [List.getD, hj]
    · rw [if_neg e, h3 j hj, map_getD hj]
      simp [List.getD, List.getElem?_set_ne e]
theorem HI.st1 {x : Int} (a : HI hp b z) (hk : k < z.length) (hL : h.length ≤ b) (kp : Keep h hp) : ∃ hp', stepM ro ⟨hp, h.length, h.length⟩ (.st 1 (.c (.p (some ⟨false, b, 0 + k⟩))) (.c (.i .i64 x))) = some (und, ⟨hp', h.length, h.length⟩) ∧ HI hp' b (z.set k x) ∧ hp'.length = hp.length ∧ (∀ i, i ≠ b → hp'[i]? = hp[i]?) ∧ Keep h hp' := by
  obtain ⟨hp', h1, h2, h3⟩ := Holds.set (ro := ro) (k := k) (v := .i .i64 x) a (by simpa using hk) rfl rfl rfl hL kp
  rw [Nat.mul_one] at h1
  exact ⟨hp', h1, by unfold HI ints; rw [List.map_set]; exact h2, h3⟩
theorem ix_new {m : Nat} {cap : Cap} (hk : k < m) : evP .e (.ixS 1 (.c (.sl ⟨false, b, 0⟩ m cap)) (.c (.i .i64 (k : Int)))) = some (.p (some ⟨false, b, 0 + k⟩)) := ixS_eq hk
/-- a block that holds numbers is kept -/
theorem HI.by {hp' : Heap} (a : HI hp b z) (k : Keep hp hp') : HI hp' b z := Holds.by a k
end
end Go.Proofs.Ythdglempcfknhaa.T

/- Sum; the law ShareChecks. -/
open Go.Vm
set_option linter.unusedVariables false
namespace Go.Proofs.Ythdglempcfknhaa.T
open Go

theorem ext_getD {a b : List Int} (hl : a.length = b.length) (h : ∀ i, i < a.length → a.getD i 0 = b.getD i 0) : a = b := by
  refine List.ext_getElem hl fun i h1 h2 => ?_
  have := h i h1
  simpa [List.getD, h1, h2] using this
theorem set_get {z : List Int} {k j : Nat} {x : Int} (hk : k < z.length) : (z.set k x).getD j 0 = if k = j then x else z.getD j 0 := by
  by_cases e : k = j
  · subst e; simp [List.getD, hk]
  · rw [if_neg e]; simp [List.getD, List.getElem?_set_ne e]
section
variable {ro : List ABlk} {h : Heap} {va vb : AVal} {a b : List Int}
theorem cp2 {F : Tab} {ro : List ABlk} {H : Heap} {l p : Nat} {f : Nat} {a : List AVal} {v : AVal} (e : callX F ro f a H = some (v, H, H.length, H.length)) (hl : l ≤ H.length) (hp : p ≤ H.length) : callM (callX F ro) ⟨H, l, p⟩ f a = some (v, ⟨H, l, p⟩) := callM_pure e hl hp
end
end Go.Proofs.Ythdglempcfknhaa.T

/- The reference of Sum; the law ShareChecks. -/
open Go.Vm
set_option linter.unusedVariables false
namespace Go.Proofs.Ythdglempcfknhaa.T
open Go

section
variable {ro : List ABlk} {h : Heap} {va vb : AVal} {a b : List Int}
/-- lists of lists as variadic arguments -/
theorem mats1 {H : Heap} {l p : Nat} {v : AVal} {z : List Int} (a : IsRow ro H v z) : ∃ u H', stepM ro ⟨H, l, p⟩ (.bsl 22 1 [AVal.nsl] 1 [((0, 1), .c v)]) = some (u, ⟨H', l, p⟩) ∧ Keep H H' ∧ IsMat ro H' u [z] := by
  have hc := (row_cells a).1
  refine ⟨.sl ⟨false, H.length, 0⟩ 1 (.known 1), H ++ [some (blkOf 22 [v])], ?_, Keep.app _, .inr ⟨⟨false, H.length, 0⟩, .known 1, blkOf 22 [v], rfl, rdB_heap (lget_last _ _) 0, by simp [blkOf], fun j hj => ?_⟩⟩
  · simp [stepM, stepK, st_bsl, rep, fillA, opd, hc, splice, newB, St.mm]
  · obtain rfl : j = 0 := by simp at hj; omega
    rw [Nat.zero_add, get_blk]
    exact row_by a (Keep.app _)
/-- alive, wherever -/
theorem alv {H : Heap} {l p : Nat} (hl : l ≤ H.length) (hp : p ≤ H.length) : callM (callX F1 ro) ⟨H, l, p⟩ 15 [] = some (.b true, ⟨H, l, p⟩) := cp2 alive_pure hl hp
theorem bindP_of {β : Type} {o : Option (AVal × Mm)} {v : AVal} {m : Mm} {f : AVal → Mm → Option β} (h : o = some (v, m)) : bindP o f = f v m := by rw [h]; rfl
theorem bindO_of {α β : Type} {o : Option α} {v : α} {f : α → Option β} (h : o = some v) : bindO o f = f v := by rw [h]; rfl
theorem pS {β : Type} (v : AVal) (m : Mm) (f : AVal → Mm → Option β) : bindP (some (v, m)) f = f v m := bindP_of (Eq.trans rfl rfl)
theorem oS {α β : Type} (v : α) (f : α → Option β) : bindO (some v) f = f v := bindO_of (Eq.trans rfl rfl)
theorem cT {α : Type} (a b : α) : cond true a b = a := by rw [cond_true]
theorem cF {α : Type} (a b : α) : cond false a b = b := by rw [cond_false]
theorem bS {β : Type} (b : Bool) (f : Bool → Option β) : asB (.b b) f = f b := (asB_b b f).trans (Eq.trans rfl rfl)
theorem x0 (a : AVal) (l : List AVal) : evP .e (.ext 0 (.c (.tup (a :: l)))) = some a := (ext0 a l).trans (Eq.trans rfl rfl)
theorem x1 (a b : AVal) (l : List AVal) : evP .e (.ext 1 (.c (.tup (a :: b :: l)))) = some b := (ext1 a b l).trans (Eq.trans rfl rfl)
theorem x2 (a b c : AVal) (l : List AVal) : evP .e (.ext 2 (.c (.tup (a :: b :: c :: l)))) = some c := (ext2 a b c l).trans (Eq.trans rfl rfl)
theorem x3 (a b c d : AVal) (l : List AVal) : evP .e (.ext 3 (.c (.tup (a :: b :: c :: d :: l)))) = some d := (ext3 a b c d l).trans (Eq.trans rfl rfl)
theorem tA (v : AVal) : tupA [v] = v := Eq.trans rfl rfl
theorem nT : (!true) = false := Eq.trans rfl rfl
theorem nF : (!false) = true := Eq.trans rfl rfl
theorem fB {α : Type} (n : Bool) (f : Bool → α) : forceB n f = f n := (forceB_eq n f).trans (Eq.trans rfl rfl)
theorem mC (F : Tab) (ro : List ABlk) : (meansX F ro).call = callX F ro := (meansX_call F ro).trans (Eq.trans rfl rfl)
theorem exC {ro : List ABlk} {k : Nat} {l : List AVal} {h : Heap} {n m : Nat} {H : Heap} (e : callX F1 ro k l h = some (.b true, H, n, m)) : ∃ h' lw lp, callX F1 ro k l h = some (.b true, h', lw, lp) := ⟨_, _, _, e⟩
theorem eqI_self (x : Int) : eqI x x = true := by rw [eqI_eq]; simp
end
end Go.Proofs.Ythdglempcfknhaa.T

/- Fair and Proves; the law ShareFair. -/
open Go.Vm
set_option linter.unusedVariables false
namespace Go.Proofs.Ythdglempcfknhaa.T
open Go

theorem errS_cost {n : Int} {c : List Int} (h : errS n c = 0) : costP n c := by
  by_cases hc : costP n c
  · exact hc
  · rw [errS, if_neg hc] at h; omega
theorem errS_bad {n : Int} {c : List Int} (h : errS n c = 0) : bad c = none := by
  have hc := errS_cost h
  rw [errS, if_pos hc] at h
  cases hb : bad c with
  | none => rfl
  | some p => rw [hb] at h; simp at h
section
variable {ro : List ABlk} {h : Heap} {va vb : AVal} {c s : List Int}
theorem last_cast {N : Nat} (h1 : 1 ≤ N) (h2 : N ≤ 1000000) : Go.Vm.wr .i64 (((N : Nat) : Int) - 1) = ((N - 1 : Nat) : Int) := by
  rw [wr_id' (by omega) (by omega)]; omega
end
end Go.Proofs.Ythdglempcfknhaa.T

/- Submodular costs: the groups of the least cost. -/
open Go.Vm
set_option linter.unusedVariables false
namespace Go.Proofs.Ythdglempcfknhaa.T
open Go

def Sub (c : List Int) : Prop := ∀ a b, a < c.length → b < c.length → cs c (a ||| b) + cs c (a &&& b) ≤ cs c a + cs c b
theorem bad_none {c : List Int} : bad c = none ↔ ∀ a b, a < b → b < c.length → brk c a b = false := by
  unfold bad
  rw [firstS_none]
  constructor
  · intro h a b hab hb
    have h1 := h a (Nat.zero_le _) (by omega)
    unfold badS badG at h1
    rw [Option.map_eq_none_iff, List.head?_eq_none_iff] at h1
    cases hh : brk c a b
    · rfl
    · have : b ∈ grp c.length [fun g => decide (a < g), brk c a] := by
        unfold grp
        rw [List.mem_filter]
        exact ⟨List.mem_range.2 hb, by simp [hab, hh]⟩
      rw [h1] at this; cases this
  · intro h j _ hj
    unfold badS badG
    rw [Option.map_eq_none_iff, List.head?_eq_none_iff]
    unfold grp
    rw [List.filter_eq_nil_iff]
    intro g hg
    have hg := List.mem_range.1 hg
    simp only [List.all_cons, List.all_nil, Bool.and_true, Bool.and_eq_true, decide_eq_true_eq, not_and]
    intro h1
    simp [h j g h1 hg]
theorem sub_iff {c : List Int} : bad c = none ↔ Sub c := by
  rw [bad_none]
  constructor
  · intro h a b ha hb
    rcases Nat.lt_trichotomy a b with h1 | h1 | h1
    · have := of_decide_eq_false (h a b h1 hb); omega
    · subst h1
      rw [Nat.or_self, Nat.and_self]; omega
    · have := of_decide_eq_false (h b a h1 ha)
      rw [Nat.or_comm a b, Nat.and_comm a b]; omega
  · intro h a b hab hb
    exact decide_eq_false (by have := h a b (by omega) hb; omega)
/-- the least of some costs -/
def IsMin (c : List Int) (l : List Nat) (x : Int) : Prop := (∃ g ∈ l, cs c g = x) ∧ ∀ g ∈ l, x ≤ cs c g
theorem IsMin.uniq {c : List Int} {l : List Nat} {x y : Int} (a : IsMin c l x) (b : IsMin c l y) : x = y := by
  obtain ⟨⟨g, h1, h2⟩, h3⟩ := a
  obtain ⟨⟨k, h4, h5⟩, h6⟩ := b
  have := h3 k h4; have := h6 g h1
  omega
def minC (c : List Int) : List Nat → Int
  | [] => 0
  | [g] => cs c g
  | g :: k :: l => if cs c g < minC c (k :: l) then cs c g else minC c (k :: l)
theorem minC_ok (c : List Int) : ∀ l : List Nat, l ≠ [] → IsMin c l (minC c l)
  | [], h => absurd rfl h
  | [g], _ => ⟨⟨g, by simp, rfl⟩, fun k hk => by simp at hk; subst hk; exact Int.le_refl _⟩
  | g :: k :: l, _ => by
    obtain ⟨⟨y, h1, h2⟩, h3⟩ := minC_ok c (k :: l) (by simp)
    unfold minC
    split
    · rename_i h4
      refine ⟨⟨g, by simp, rfl⟩, fun z hz => ?_⟩
      rcases List.mem_cons.1 hz with rfl | hz
      · exact Int.le_refl _
      · have := h3 z hz; omega
    · rename_i h4
      refine ⟨⟨y, by simp [List.mem_cons.1 h1], h2⟩, fun z hz => ?_⟩
      rcases List.mem_cons.1 hz with rfl | hz
      · omega
      · exact h3 z hz
def low (c : List Int) : Int := minC c (List.range c.length)
def tied (c : List Int) : List Nat := grp c.length [fun g => cs c g == low c]
def small (c : List Int) : Nat := (tied c).getD 0 0
def large (c : List Int) : Nat := (tied c).getD ((tied c).length - 1) 0
theorem mem_tied {c : List Int} {g : Nat} : g ∈ tied c ↔ g < c.length ∧ cs c g = low c := by
  unfold tied grp
  rw [List.mem_filter, List.mem_range]
  simp
section
variable {c : List Int} {k : Nat}
theorem low_min (h : 0 < c.length) : IsMin c (List.range c.length) (low c) := minC_ok c _ (by intro e; rw [List.range_eq_nil] at e; omega)
theorem low_le {g : Nat} (hg : g < c.length) : low c ≤ cs c g := (low_min (by omega)).2 g (List.mem_range.2 hg)
theorem tied_ne (h : 0 < c.length) : 0 < (tied c).length := by
  obtain ⟨⟨g, h1, h2⟩, -⟩ := low_min h
  exact List.length_pos_of_mem (mem_tied.2 ⟨List.mem_range.1 h1, h2⟩)
theorem tied_and (hs : Sub c) (hN : c.length = 2 ^ k) {a b : Nat} (ha : a ∈ tied c) (hb : b ∈ tied c) : a &&& b ∈ tied c ∧ a ||| b ∈ tied c := by
  obtain ⟨h1, h2⟩ := mem_tied.1 ha
  obtain ⟨h3, h4⟩ := mem_tied.1 hb
  have h5 := hs a b h1 h3
  have ko : a ||| b < c.length := by rw [hN] at h1 h3 ⊢; exact Nat.or_lt_two_pow h1 h3
  have ka : a &&& b < c.length := Nat.lt_of_le_of_lt Nat.and_le_left h1
  have := low_le ko; have := low_le ka
  exact ⟨mem_tied.2 ⟨ka, by omega⟩, mem_tied.2 ⟨ko, by omega⟩⟩
theorem getD_mem {l : List Nat} {i : Nat} (h : i < l.length) : l.getD i 0 ∈ l := by
  have : l.getD i 0 = l[i] := by simp [List.getD, h]
  rw [this]; exact List.getElem_mem h
theorem small_mem (h : 0 < c.length) : small c ∈ tied c := getD_mem (tied_ne h)
theorem large_mem (h : 0 < c.length) : large c ∈ tied c := getD_mem (by have := tied_ne h; omega)
theorem tied_sorted : (tied c).Pairwise (· < ·) := List.Pairwise.filter _ List.pairwise_lt_range
theorem tied_idx {g : Nat} (hg : g ∈ tied c) : small c ≤ g ∧ g ≤ large c := by
  obtain ⟨i, hi, rfl⟩ := List.getElem_of_mem hg
  have hp := List.pairwise_iff_getElem.1 (tied_sorted (c := c))
  have e0 : small c = (tied c)[0]'(by omega) := by unfold small; simp [List.getD, show 0 < (tied c).length by omega]
  have e1 : large c = (tied c)[(tied c).length - 1]'(by omega) := by unfold large; simp [List.getD, show (tied c).length - 1 < (tied c).length by omega]
  rw [e0, e1]
  constructor
  · by_cases h0 : i = 0
    · subst h0; exact Nat.le_refl _
    · exact Nat.le_of_lt (hp 0 i (by omega) hi (by omega))
  · by_cases h0 : i = (tied c).length - 1
    · subst h0; exact Nat.le_refl _
    · exact Nat.le_of_lt (hp i _ hi (by omega) (by omega))
theorem small_and (hs : Sub c) (hN : c.length = 2 ^ k) {g : Nat} (hg : g ∈ tied c) : small c &&& g = small c := by
  have hpos : 0 < c.length := by rw [hN]; exact Nat.two_pow_pos k
  have h1 := (tied_and hs hN (small_mem hpos) hg).1
  exact Nat.le_antisymm Nat.and_le_left (tied_idx h1).1
theorem large_or (hs : Sub c) (hN : c.length = 2 ^ k) {g : Nat} (hg : g ∈ tied c) : g ||| large c = large c := by
  have hpos : 0 < c.length := by rw [hN]; exact Nat.two_pow_pos k
  have h1 := (tied_and hs hN hg (large_mem hpos)).2
  exact Nat.le_antisymm (tied_idx h1).2 Nat.right_le_or
end
def leastT (n : Int) (c : List Int) : AVal := if errS n c = 0 then .tup [.i .i64 (low c), .i .i64 (small c : Int), .i .i64 (large c : Int), .i .i64 0] else .tup [.i .i64 0, .i .i64 0, .i .i64 0, .i .i64 (errS n c)]
section
variable {ro : List ABlk} {h : Heap} {va vb : AVal} {c s : List Int}
theorem mxV_min (a b : Int) : mxV false a b = if b < a then b else a := by
  unfold mxV
  simp only [Bool.false_eq_true, if_false]
/-- the cheapest of some groups -/
theorem cheap70 {z : List Nat} (ha : IsRow ro h va c) (hb : IsRow ro h vb (nts z)) (hz : 0 < z.length) (hz6 : z.length ≤ 1000) (hin : ∀ g ∈ z, g < c.length) (hc : c.length ≤ 1000) {x : Int} (hx : IsMin c z x) : callX F1 ro 70 [va, vb] h = some (.i .i64 x, h, h.length, h.length) := by
  refine g70_ok (meansX_ok F1 ro) rfl ?_
  unfold g70
  have at_c : ∀ i, i < z.length → ∃ p q, evP .e (.ixS 1 (.c vb) (.c (.i .i64 (i : Int)))) = some p ∧ ldM ro ⟨h, h.length, h.length⟩ true 1 p = some (.i .i64 ((z.getD i 0 : Nat) : Int)) ∧ evP .e (.ixS 1 (.c va) (.c (.i .i64 ((z.getD i 0 : Nat) : Int)))) = some q ∧ ldM ro ⟨h, h.length, h.length⟩ true 1 q = some (.i .i64 (cs c (z.getD i 0))) := by
    intro i hi
    obtain ⟨p, p1, p2⟩ := at_nts hb hi
    obtain ⟨q, q1, q2⟩ := at_rowK ha (hin _ (getD_mem hi))
    exact ⟨p, q, p1, (p2 (Keep.refl h)).1, q1, (q2 (Keep.refl h)).1⟩
  obtain ⟨p, q, p1, p2, q1, q2⟩ := at_c 0 hz
  have e0 : ((0 : Nat) : Int) = 0 := rfl
  rw [e0] at p1
  simp only [p1, p2, bindO_some, asI_i, q1, q2, len_row hb, nts_len, meansX_loop]
  have hh := loop_gen (b := fun t : Int × Int => g70_b0 (meansX F1 ro) ro va vb (z.length : Int) ⟨h, h.length, h.length⟩ t.1 t.2) z.length (fun i t => ∃ y, t = (y, (i : Int)) ∧ (∃ g ∈ z, cs c g = y) ∧ ∀ j, j < i → y ≤ cs c (z.getD j 0)) (fun r => IsMin c z r) ?_ ?_ z.length 0 (cs c (z.getD 0 0), 0) (by omega) ⟨_, rfl, ⟨_, getD_mem hz, rfl⟩, fun j hj => by omega⟩
  · obtain ⟨r, r1, r2⟩ := hh
    rw [r1, r2.uniq hx]
    simp only [bindO_some, tupA]
    exact fin_pure rfl
  · rintro i t hi ⟨y, rfl, hy, hall⟩
    obtain ⟨p, q, p1, p2, q1, q2⟩ := at_c i hi
    simp only [g70_b0, forceB_eq, ltI_eq, lt_yes hi, cond_true, p1, p2, bindO_some, asI_i, q1, q2, forceI_eq, mxV_min, wr_next (show i ≤ 1000000 by omega)]
    refine ⟨_, rfl, _, rfl, ?_, fun j hj => ?_⟩
    · split
      · exact ⟨_, getD_mem hi, rfl⟩
      · exact hy
    · by_cases hji : j = i
      · subst hji; split <;> omega
      · have := hall j (by omega)
        split <;> omega
  · rintro t ⟨y, rfl, hy, hall⟩
    simp only [g70_b0, forceB_eq, ltI_eq, lt_no, cond_false]
    refine ⟨_, rfl, hy, fun g hg => ?_⟩
    obtain ⟨i, hi, rfl⟩ := List.getElem_of_mem hg
    have := hall i hi
    simpa [List.getD, hi] using this
theorem least29 {n : Int} (ha : IsRow ro h va c) (hl : c.length ≤ 9223372036854775807) : callX F1 ro 29 [.i .i64 n, va] h = some (leastT n c, h, h.length, h.length) := by
  refine g29_ok (meansX_ok F1 ro) rfl ?_
  unfold g29
  simp only [meansX_call, cp0 (fault51 (n := n) ha hl), bindP_some, asI_i, forceB_eq, eqI_eq]
  by_cases he : errS n c = 0
  rotate_left
  · have b1 : (errS n c == 0) = false := by simpa using he
    simp only [b1, Bool.not_false, cond_true, leastT, if_neg he, tupA]; exact fin_pure rfl
  have b1 : (errS n c == 0) = true := by rw [he]; rfl
  have hc := errS_cost he
  obtain ⟨k, rfl, hk1, hk6, hlen, h64⟩ := costN hc
  have hpos : 0 < c.length := by rw [hlen]; exact pow_pos k
  obtain ⟨o1, Ha, a1, ka, ra⟩ := all45 (ro := ro) (h := h) hk6
  rw [← hlen] at ra
  have b70 := cheap70 (row_by ha ka) ra (by simpa using hpos) (by simp; omega) (fun g hg => List.mem_range.1 hg) (by omega) (low_min hpos)
  obtain ⟨t1, Hb, c1, kb, ib⟩ := costs71 (N := c.length) h64 (row_by ha ka) rfl (x := low c)
  obtain ⟨u, Hc, d1, kc, ic⟩ := tests1 (l := h.length) (p := h.length) ib
  obtain ⟨o2, Hd, e1, kd, rd⟩ := groups45 (ro := ro) (h := Hc) hk6 hlen ic (by simp)
  have kB := ka.trans kb
  have kC := kB.trans kc
  have kD := kC.trans kd
  have rd' : IsRow ro Hd o2 (nts (tied c)) := rd
  have ht := tied_ne hpos
  have hle : (tied c).length ≤ 1000 := by
    have := List.length_filter_le (fun g => ([fun g => cs c g == low c] : List (Nat → Bool)).all fun P => P g) (List.range c.length)
    rw [List.length_range] at this
    have e : (tied c).length = ((List.range c.length).filter fun g => ([fun g => cs c g == low c] : List (Nat → Bool)).all fun P => P g).length := rfl
    omega
  obtain ⟨p, p1, p2⟩ := at_nts rd' (i := 0) ht
  have e0 : ((0 : Nat) : Int) = 0 := rfl
  rw [e0] at p1
  obtain ⟨q, q1, q2⟩ := at_nts rd' (i := (tied c).length - 1) (by omega)
  have p3 := (p2 (l := h.length) (q := h.length) (Keep.refl Hd)).2
  have q3 := (q2 (l := h.length) (q := h.length) (Keep.refl Hd)).2
  simp only [b1, Bool.not_true, cond_false, cM a1 (Nat.le_refl _) (Nat.le_refl _), bindP_some, cp2 b70 ka.1 ka.1, asI_i, cM c1 ka.1 ka.1, d1, cM e1 kC.1 kC.1, p1, p3, bindO_some, len_row rd', nts_len, forceI_eq, last_cast ht (by omega), q1, q3, leastT, if_pos he, tupA]
  exact fin_keep kD rfl
/-- what the reference puts together -/
def andS (c : List Int) (x : Int) : Nat → Nat
  | 0 => c.length - 1
  | i + 1 => if cs c i = x then andS c x i &&& i else andS c x i
def orS (c : List Int) (x : Int) : Nat → Nat
  | 0 => 0
  | i + 1 => if cs c i = x then orS c x i ||| i else orS c x i
theorem and_top {N k g : Nat} (hN : N = 2 ^ k) (hg : g < N) : (N - 1) &&& g = g := by
  rw [Nat.and_comm, hN, Nat.and_two_pow_sub_one_eq_mod, Nat.mod_eq_of_lt (by omega)]
theorem andS_ok {k : Nat} (hs : Sub c) (hN : c.length = 2 ^ k) : ∀ i, i ≤ c.length → ((∀ g, g < i → g ∉ tied c) ∧ andS c (low c) i = c.length - 1 ∧ orS c (low c) i = 0) ∨ (andS c (low c) i ∈ tied c ∧ orS c (low c) i ∈ tied c ∧ ∀ g, g < i → g ∈ tied c → andS c (low c) i &&& g = andS c (low c) i ∧ g ||| orS c (low c) i = orS c (low c) i)
  | 0, _ => .inl ⟨fun g hg => by omega, rfl, rfl⟩
  | i + 1, hi => by
    by_cases hx : cs c i = low c
    · have hm : i ∈ tied c := mem_tied.2 ⟨by omega, hx⟩
      right
      unfold andS orS
      rw [if_pos hx, if_pos hx]
      rcases andS_ok hs hN i (by omega) with ⟨h1, h2, h3⟩ | ⟨h1, h2, h3⟩
      · rw [h2, h3, and_top hN (by omega), Nat.zero_or]
        refine ⟨hm, hm, fun g hg hgm => ?_⟩
        by_cases hgi : g = i
        · subst hgi; exact ⟨Nat.and_self _, Nat.or_self _⟩
        · exact absurd hgm (h1 g (by omega))
      · refine ⟨(tied_and hs hN h1 hm).1, (tied_and hs hN h2 hm).2, fun g hg hgm => ?_⟩
        by_cases hgi : g = i
        · subst hgi
          refine ⟨by rw [Nat.and_assoc, Nat.and_self], by rw [Nat.or_comm g, Nat.or_assoc, Nat.or_self]⟩
        · obtain ⟨h4, h5⟩ := h3 g (by omega) hgm
          refine ⟨?_, ?_⟩
          · rw [Nat.and_assoc, Nat.and_comm i g, ← Nat.and_assoc, h4]
          · rw [← Nat.or_assoc, h5]
    · have hm : i ∉ tied c := fun hh => hx (mem_tied.1 hh).2
      unfold andS orS
      rw [if_neg hx, if_neg hx]
      rcases andS_ok hs hN i (by omega) with ⟨h1, h2, h3⟩ | ⟨h1, h2, h3⟩
      · refine .inl ⟨fun g hg => ?_, h2, h3⟩
        by_cases hgi : g = i
        · subst hgi; exact hm
        · exact h1 g (by omega)
      · refine .inr ⟨h1, h2, fun g hg hgm => h3 g ?_ hgm⟩
        by_cases hgi : g = i
        · subst hgi; exact absurd hgm hm
        · omega
theorem and_small {k : Nat} (hs : Sub c) (hN : c.length = 2 ^ k) : andS c (low c) c.length = small c ∧ orS c (low c) c.length = large c := by
  have hpos : 0 < c.length := by rw [hN]; exact Nat.two_pow_pos k
  have hsm := small_mem hpos
  have hlm := large_mem hpos
  rcases andS_ok hs hN c.length (Nat.le_refl _) with ⟨h1, -⟩ | ⟨h1, h2, h3⟩
  · exact absurd hsm (h1 _ (mem_tied.1 hsm).1)
  · have h4 := (h3 _ (mem_tied.1 hsm).1 hsm).1
    have h5 := (h3 _ (mem_tied.1 hlm).1 hlm).2
    refine ⟨?_, ?_⟩
    · rw [← h4, Nat.and_comm, small_and hs hN h1]
    · rw [← h5, Nat.or_comm, large_or hs hN h2]
theorem andS_lt {k : Nat} (hN : c.length = 2 ^ k) (x : Int) : ∀ i, i ≤ c.length → andS c x i < c.length ∧ orS c x i < c.length
  | 0, _ => by have := Nat.two_pow_pos k; unfold andS orS; omega
  | i + 1, hi => by
    obtain ⟨h1, h2⟩ := andS_lt hN x i (by omega)
    unfold andS orS
    constructor
    · split
      · exact Nat.lt_of_le_of_lt Nat.and_le_left h1
      · exact h1
    · split
      · rw [hN] at h2 hi ⊢; exact Nat.or_lt_two_pow h2 (by omega)
      · exact h2
theorem ref72 {k : Nat} (hN : c.length = 2 ^ k) (hk : k ≤ 6) (ha : IsRow ro h va c) : callX F1 ro 72 [va] h = some (.tup [.i .i64 (low c), .i .i64 ((andS c (low c) c.length : Nat) : Int), .i .i64 ((orS c (low c) c.length : Nat) : Int)], h, h.length, h.length) := by
  have hpos : 0 < c.length := by rw [hN]; exact Nat.two_pow_pos k
  have h64 : c.length ≤ 64 := by rw [hN]; exact pow6 hk
  refine g72_ok (meansX_ok F1 ro) rfl ?_
  unfold g72
  obtain ⟨p, p1, p2⟩ := at_rowK ha hpos
  have e0 : ((0 : Nat) : Int) = 0 := rfl
  rw [e0] at p1
  have p3 := (p2 (l := h.length) (q := h.length) (Keep.refl h)).1
  simp only [p1, p3, bindO_some, asI_i, len_row ha, meansX_loop, forceI_eq, last_cast hpos (by omega)]
  have hh := loop_gen (b := fun t : Int × Int => g72_b0 (meansX F1 ro) ro va ⟨h, h.length, h.length⟩ t.1 t.2) c.length (fun i t => ∃ y, t = (y, (i : Int)) ∧ (∃ g ∈ List.range c.length, cs c g = y) ∧ ∀ j, j < i → y ≤ cs c j) (fun r => IsMin c (List.range c.length) r) ?_ ?_ c.length 0 (cs c 0, 0) (by omega) ⟨_, rfl, ⟨0, List.mem_range.2 hpos, rfl⟩, fun j hj => by omega⟩
  · obtain ⟨r, r1, r2⟩ := hh
    rw [r1, r2.uniq (low_min hpos)]
    simp only [bindO_some]
    have hloop := loop_run (b := fun t : Int × Int × Int => g72_b1 (meansX F1 ro) ro va (low c) ⟨h, h.length, h.length⟩ t.1 t.2.1 t.2.2) (fun i => (((andS c (low c) i : Nat) : Int), ((orS c (low c) i : Nat) : Int), (i : Int))) c.length (r0 := (((andS c (low c) c.length : Nat) : Int), ((orS c (low c) c.length : Nat) : Int))) ?_ ?_
    · have e1 : (((andS c (low c) 0 : Nat) : Int), ((orS c (low c) 0 : Nat) : Int), ((0 : Nat) : Int)) = (((c.length - 1 : Nat) : Int), 0, 0) := rfl
      rw [e1] at hloop
      rw [hloop]
      simp only [bindO_some, tupA]
      exact fin_pure rfl
    · simp only [g72_b1, len_row ha, bindO_some, asI_i, forceB_eq, ltI_eq, lt_no, cond_false]
    · intro i hi
      obtain ⟨q, q1, q2⟩ := at_rowK ha hi
      have q3 := (q2 (l := h.length) (q := h.length) (Keep.refl h)).1
      obtain ⟨l1, l2⟩ := andS_lt hN (low c) i (by omega)
      simp only [g72_b1, len_row ha, bindO_some, asI_i, forceB_eq, ltI_eq, lt_yes hi, cond_true, q1, q3, eqI_eq, forceI_eq, and64 (show andS c (low c) i < 9223372036854775808 by omega) (show i < 9223372036854775808 by omega), or64 (show orS c (low c) i < 9223372036854775808 by omega) (show i < 9223372036854775808 by omega), wr_next (show i ≤ 1000000 by omega)]
      by_cases hx : c.getD i 0 = low c
      · have b1 : (c.getD i 0 == low c) = true := by rw [hx]; simp
        simp only [b1, cond_true, bindO_some, andS, orS, if_pos (show cs c i = low c from hx)]
      · have b1 : (c.getD i 0 == low c) = false := by simpa using hx
        simp only [b1, cond_false, bindO_some, andS, orS, if_neg (show ¬ cs c i = low c from hx)]
  · rintro i t hi ⟨y, rfl, hy, hall⟩
    obtain ⟨q, q1, q2⟩ := at_rowK ha hi
    have q3 := (q2 (l := h.length) (q := h.length) (Keep.refl h)).1
    simp only [g72_b0, len_row ha, bindO_some, asI_i, forceB_eq, ltI_eq, lt_yes hi, cond_true, q1, q3, forceI_eq, mxV_min, wr_next (show i ≤ 1000000 by omega)]
    refine ⟨_, rfl, _, rfl, ?_, fun j hj => ?_⟩
    · split
      · exact ⟨i, List.mem_range.2 hi, rfl⟩
      · exact hy
    · show _ ≤ c.getD j 0
      by_cases hji : j = i
      · subst hji; split <;> omega
      · have : y ≤ c.getD j 0 := hall j (by omega)
        split <;> omega
  · rintro t ⟨y, rfl, hy, hall⟩
    simp only [g72_b0, len_row ha, bindO_some, asI_i, forceB_eq, ltI_eq, lt_no, cond_false]
    exact ⟨_, rfl, hy, fun g hg => hall g (List.mem_range.1 hg)⟩
theorem least30 {n : Int} (ha : IsRow ro h va c) (hl : c.length ≤ 9223372036854775807) : callX F1 ro 30 [.i .i64 n, va] h = some (leastT n c, h, h.length, h.length) := by
  refine g30_ok (meansX_ok F1 ro) rfl ?_
  unfold g30
  simp only [meansX_call, cp0 (asked54 (n := n) ha hl), bindP_some, asI_i, forceB_eq, eqI_eq]
  by_cases he : errS n c = 0
  rotate_left
  · have b1 : (errS n c == 0) = false := by simpa using he
    simp only [b1, Bool.not_false, cond_true, leastT, if_neg he, tupA]; exact fin_pure rfl
  have b1 : (errS n c == 0) = true := by rw [he]; rfl
  have hc := errS_cost he
  obtain ⟨k, rfl, hk1, hk6, hlen, h64⟩ := costN hc
  obtain ⟨e1, e2⟩ := and_small (sub_iff.1 (errS_bad he)) hlen
  simp only [b1, Bool.not_true, cond_false, cp0 (ref72 hlen hk6 ha), bindP_some, ext0, ext1, ext2, bindO_some, asI_i, e1, e2, leastT, if_pos he, tupA]
  exact fin_pure rfl
end
end Go.Proofs.Ythdglempcfknhaa.T

/- The law ShareLattice. -/
open Go.Vm
set_option linter.unusedVariables false
namespace Go.Proofs.Ythdglempcfknhaa.T
open Go

section
variable {ro : List ABlk} {h : Heap} {va vb : AVal} {c s : List Int}
theorem eqI_nat (a b : Nat) : eqI (a : Int) (b : Int) = decide (a = b) := by
  rw [eqI_eq]
  by_cases e : a = b
  · subst e; simp
  · rw [dF e, beq_eq_false_iff_ne]; omega
theorem neqF {x y : Int} (e : x = y) : (!eqI x y) = false := by subst e; rw [eqI_self]; rfl
theorem eqF {x y : Int} (e : x ≠ y) : eqI x y = false := by rw [eqI_eq]; exact beq_eq_false_iff_ne.2 e
theorem neqT {x y : Int} (e : x ≠ y) : (!eqI x y) = true := by rw [eqF e]; rfl
theorem row_at {ro : List ABlk} {h H : Heap} {v : AVal} {z : List Int} {l p : Nat} (a : IsRow ro h v z) (k : Keep h H) {i : Nat} (hi : i < z.length) : ∃ q, evP .e (.ixS 1 (.c v) (.c (.i .i64 (i : Int)))) = some q ∧ ldM ro ⟨H, l, p⟩ true 1 q = some (.i .i64 (z.getD i 0)) := by
  obtain ⟨q, q1, q2⟩ := at_rowK a hi
  exact ⟨q, q1, (q2 k).1⟩
theorem aS {β : Type} (k : IntKind) (x : Int) (f : Int → Option β) : asI k (.i k x) f = f x := asI_i k x f
end
end Go.Proofs.Ythdglempcfknhaa.T

/- Cut; the law ShareCuts. -/
open Go.Vm
set_option linter.unusedVariables false
namespace Go.Proofs.Ythdglempcfknhaa.T
open Go

def hedP (n : Int) (z : List Int) : Prop := z.length = 3 ∧ (0 ≤ z.getD 0 0 ∧ z.getD 0 0 < n) ∧ (0 ≤ z.getD 1 0 ∧ z.getD 1 0 < n) ∧ z.getD 0 0 ≠ z.getD 1 0 ∧ 0 ≤ z.getD 2 0 ∧ z.getD 2 0 ≤ 1000
instance (n : Int) (z : List Int) : Decidable (hedP n z) := inferInstanceAs (Decidable (z.length = 3 ∧ (0 ≤ z.getD 0 0 ∧ z.getD 0 0 < n) ∧ (0 ≤ z.getD 1 0 ∧ z.getD 1 0 < n) ∧ z.getD 0 0 ≠ z.getD 1 0 ∧ 0 ≤ z.getD 2 0 ∧ z.getD 2 0 ≤ 1000))
def hedsP (n : Int) (x : List (List Int)) : Prop := ∀ i, i < x.length → hedP n (nthR x i)
instance (n : Int) (x : List (List Int)) : Decidable (hedsP n x) := inferInstanceAs (Decidable (∀ i, i < x.length → hedP n (nthR x i)))
section
variable {ro : List ABlk} {h : Heap} {va vb : AVal} {x : List (List Int)} {z : List Int}
theorem mem_grp1 {N : Nat} {P : Nat → Bool} {g : Nat} : g ∈ grp N [P] ↔ g < N ∧ P g = true := by
  unfold grp
  rw [List.mem_filter, List.mem_range]
  simp
end
end Go.Proofs.Ythdglempcfknhaa.T

/- The reference of Cut; the law ShareCuts. -/
open Go.Vm
set_option linter.unusedVariables false
namespace Go.Proofs.Ythdglempcfknhaa.T
open Go

section
variable {ro : List ABlk} {h : Heap} {va vb : AVal} {x : List (List Int)} {z : List Int}
end
end Go.Proofs.Ythdglempcfknhaa.T

/- Cuts are submodular; the law ShareHedges. -/
open Go.Vm
set_option linter.unusedVariables false
namespace Go.Proofs.Ythdglempcfknhaa.T
open Go

section
variable {x : List (List Int)} {N k : Nat}
end
section
variable {ro : List ABlk} {h : Heap} {va vb : AVal} {x : List (List Int)} {c : List Int}
end
end Go.Proofs.Ythdglempcfknhaa.T

/- Proof on both sides; the law ShareLeast. -/
open Go.Vm
set_option linter.unusedVariables false
namespace Go.Proofs.Ythdglempcfknhaa.T
open Go

/-- the greedy sharing of an order -/
def greG (z : List Nat) : Nat → Nat
  | 0 => 0
  | i + 1 => greG z i ||| 2 ^ (z.getD i 0)
def greL (c : List Int) (z : List Nat) : Nat → List Int
  | 0 => List.replicate z.length 0
  | i + 1 => (greL c z i).set (z.getD i 0) (cs c (greG z (i + 1)) - cs c (greG z i))
theorem greL_len (c : List Int) (z : List Nat) : ∀ i, (greL c z i).length = z.length
  | 0 => by simp [greL]
  | i + 1 => by unfold greL; rw [List.length_set, greL_len c z i]
theorem greG_lt {z : List Nat} {k : Nat} (hz : ∀ i, i < z.length → z.getD i 0 < k) : ∀ i, i ≤ z.length → greG z i < 2 ^ k
  | 0, _ => Nat.two_pow_pos k
  | i + 1, hi => Nat.or_lt_two_pow (greG_lt hz i (by omega)) (Nat.pow_lt_pow_right (by omega) (hz i (by omega)))
def lastL (k : Nat) : List Nat := (List.range k).map fun i => k - 1 - i
theorem lastL_len (k : Nat) : (lastL k).length = k := by simp [lastL]
theorem lastL_get {k i : Nat} (hi : i < k) : (lastL k).getD i 0 = k - 1 - i := by simp [lastL, List.getD, hi]
theorem last_or : ∀ k, k < 7 → ∀ i, i < k → (2 ^ k - 2 ^ (k - i)) ||| 2 ^ (k - 1 - i) = 2 ^ k - 2 ^ (k - (i + 1)) := by decide +kernel
theorem last_gre {k : Nat} (hk : k ≤ 6) : ∀ i, i ≤ k → greG (lastL k) i = 2 ^ k - 2 ^ (k - i)
  | 0, _ => by simp [greG]
  | i + 1, hi => by unfold greG; rw [last_gre hk i (by omega), lastL_get (by omega), last_or k (by omega) i (by omega)]
theorem last_get {c : List Int} {k : Nat} (hk : k ≤ 6) : ∀ i, i ≤ k → ∀ j, j < k → (greL c (lastL k) i).getD j 0 = if k ≤ j + i then cs c (2 ^ k - 2 ^ j) - cs c (2 ^ k - 2 ^ (j + 1)) else 0
  | 0, _, j, hj => by simp [greL, List.getD, lastL_len, hj]; omega
  | i + 1, hi, j, hj => by
    have hlt : k - 1 - i < (greL c (lastL k) i).length := by rw [greL_len, lastL_len]; omega
    unfold greL
    rw [lastL_get (by omega), set_get hlt, last_gre hk (i + 1) hi, last_gre hk i (by omega), last_get hk i (by omega) j hj]
    by_cases e : k - 1 - i = j
    · rw [if_pos e, if_pos (by omega), show k - (i + 1) = j by omega, show k - i = j + 1 by omega]
    · rw [if_neg e]
      by_cases h2 : k ≤ j + i
      · rw [if_pos h2, if_pos (by omega)]
      · rw [if_neg h2, if_neg (by omega)]
section
variable {ro : List ABlk} {h : Heap} {va vb : AVal} {c : List Int}
theorem lastFirst75 {k : Nat} (hk : k ≤ 60) : ∃ v H, callX F1 ro 75 [.i .i64 (k : Int)] h = some (v, H, h.length, h.length) ∧ Keep h H ∧ IsRow ro H v (nts (lastL k)) ∧ New h.length v ∧ v.cells = [v] ∧ (∃ b n cap, v = .sl ⟨false, b, 0⟩ n cap ∧ HI H b (nts (lastL k)) ∧ n = k ∧ h.length ≤ b) := by
  obtain ⟨m1, m2⟩ := mkI (ro := ro) (hp := h) (n := k) (by omega) (l := h.length) (p := h.length)
  obtain ⟨H1, eH⟩ : ∃ H1, H1 = h ++ [some (newBlk 3 (.i .i64 0) k)] := ⟨_, rfl⟩
  rw [← eH] at m1 m2
  have k1 : Keep h H1 := by rw [eH]; exact Keep.app _
  have key := loop_gen (b := fun t : Int × Mm => g75_b0 (meansX F1 ro) ro (k : Int) (.sl ⟨false, h.length, 0⟩ k (.known k)) (k : Int) t.1 t.2) k
    (fun i t => ∃ H z, t = ((i : Int), (⟨H, h.length, h.length⟩ : Mm)) ∧ Keep h H ∧ HI H h.length z ∧ z.length = k ∧ ∀ j, j < i → z.getD j 0 = ((k - 1 - j : Nat) : Int))
    (fun r => ∃ H, r = (⟨H, h.length, h.length⟩ : Mm) ∧ Keep h H ∧ HI H h.length (nts (lastL k))) ?_ ?_ k 0 (0, ⟨H1, h.length, h.length⟩) (by omega) ⟨H1, _, rfl, k1, m2, by simp, fun j hj => by omega⟩
  · obtain ⟨r, r1, H, rfl, kp, hz⟩ := key
    obtain ⟨H', f1, f2, f3⟩ := fin_any (h := h) (w := .sl ⟨false, h.length, 0⟩ k (.known k)) kp
    have hbel : (AVal.sl ⟨false, h.length, 0⟩ k (.known k)).bel h.length = false := not_bel (Nat.le_refl _)
    have e := f3 hbel
    subst e
    refine ⟨.sl ⟨false, h.length, 0⟩ k (.known k), H', g75_ok (meansX_ok F1 ro) rfl ?_, f2, HI.row hz (by rw [nts_len, lastL_len]), .inr ⟨_, _, _, rfl, Nat.le_refl _⟩, rfl, _, _, _, rfl, hz, rfl, Nat.le_refl _⟩
    unfold g75
    have hlen := len_row (HI.row (ro := ro) m2 (m := k) (cap := .known k) (by simp))
    rw [List.length_replicate] at hlen
    simp only [m1, bindP_some, hlen, bindO_some, asI_i, meansX_loop]
    rw [r1]
    simp only [bindO_some, tupA]
    exact f1
  · rintro i t hi ⟨H, z, rfl, kp, hz, hzl, hall⟩
    obtain ⟨H', w1, w2, w3, w4, w5⟩ := HI.st1 (ro := ro) (k := i) (x := ((k - 1 - i : Nat) : Int)) hz (by omega) (Nat.le_refl _) kp
    have hix : evP .e (.ixS 1 (.c (.sl ⟨false, h.length, 0⟩ k (.known k))) (.c (.i .i64 (i : Int)))) = some (.p (some ⟨false, h.length, 0 + i⟩)) := ix_new hi
    have e1 : Go.Vm.wr .i64 ((k : Int) - 1) = ((k - 1 : Nat) : Int) := last_cast (by omega) (by omega)
    have e2 : Go.Vm.wr .i64 (((k - 1 : Nat) : Int) - (i : Int)) = ((k - 1 - i : Nat) : Int) := by rw [wr_id' (by omega) (by omega)]; omega
    simp only [g75_b0, forceB_eq, ltI_eq, lt_yes hi, cond_true, forceI_eq, e1, e2, hix, bindO_some, w1, bindP_some, wr_next (show i ≤ 1000000 by omega)]
    refine ⟨_, rfl, H', _, rfl, w5, w2, by simpa using hzl, fun j hj => ?_⟩
    rw [set_get (by omega)]
    by_cases e : i = j
    · subst e; rw [if_pos rfl]
    · rw [if_neg e]; exact hall j (by omega)
  · rintro t ⟨H, z, rfl, kp, hz, hzl, hall⟩
    simp only [g75_b0, forceB_eq, ltI_eq, lt_no, cond_false]
    have e : z = nts (lastL k) := ext_getD (by rw [hzl, nts_len, lastL_len]) fun j hj => by
      rw [hall j (by omega), nts_get, lastL_get (by omega)]
    exact ⟨_, rfl, H, rfl, kp, by rw [← e]; exact hz⟩
theorem greedy53 {z : List Nat} {k : Nat} (ha : IsRow ro h va c) (hb : IsRow ro h vb (nts z)) (hc : c.length = 2 ^ k) (hk : k ≤ 6) (hzl : z.length = k) (hz : ∀ i, i < z.length → z.getD i 0 < k) (hw : withinP c 1000000000) :
    ∃ v H, callX F1 ro 53 [va, vb] h = some (v, H, h.length, h.length) ∧ Keep h H ∧ IsRow ro H v (greL c z z.length) := by
  have h64 : c.length ≤ 64 := by rw [hc]; exact pow6 hk
  obtain ⟨m1, m2⟩ := mkI (ro := ro) (hp := h) (n := z.length) (by omega) (l := h.length) (p := h.length)
  obtain ⟨H1, eH⟩ : ∃ H1, H1 = h ++ [some (newBlk 3 (.i .i64 0) z.length)] := ⟨_, rfl⟩
  rw [← eH] at m1 m2
  have k1 : Keep h H1 := by rw [eH]; exact Keep.app _
  have key := loop_gen (b := fun t : Int × Int × Mm => g53_b0 (meansX F1 ro) ro va (.sl ⟨false, h.length, 0⟩ z.length (.known z.length)) vb (z.length : Int) t.1 t.2.1 t.2.2) z.length
    (fun i t => ∃ H, t = (((greG z i : Nat) : Int), (i : Int), (⟨H, h.length, h.length⟩ : Mm)) ∧ Keep h H ∧ HI H h.length (greL c z i))
    (fun r => ∃ H, r = (⟨H, h.length, h.length⟩ : Mm) ∧ Keep h H ∧ HI H h.length (greL c z z.length)) ?_ ?_ z.length 0 (0, 0, ⟨H1, h.length, h.length⟩) (by omega) ⟨H1, rfl, k1, m2⟩
  · obtain ⟨r, r1, H, rfl, kp, hz⟩ := key
    obtain ⟨H', f1, f2, f3⟩ := fin_rowW (ro := ro) (v := .sl ⟨false, h.length, 0⟩ z.length (.known z.length)) (w := .sl ⟨false, h.length, 0⟩ z.length (.known z.length)) kp (HI.row hz (by rw [greL_len])) rfl
    refine ⟨_, H', g53_ok (meansX_ok F1 ro) rfl ?_, f2, f3⟩
    unfold g53
    simp only [len_row hb, nts_len, bindO_some, asI_i, m1, bindP_some, meansX_loop]
    rw [r1]
    simp only [bindO_some, tupA]
    exact f1
  · rintro i t hi ⟨H, rfl, kp, hg⟩
    obtain ⟨p, p1, p2⟩ := at_nts hb hi
    have p3 := (p2 (l := h.length) (q := h.length) kp).1
    have gl := greG_lt hz i (by omega)
    have gl1 := greG_lt hz (i + 1) (by omega)
    have hzi := hz i hi
    obtain ⟨q, q1, q2⟩ := row_at (l := h.length) (p := h.length) ha kp (i := greG z i) (by omega)
    obtain ⟨q', q1', q2'⟩ := row_at (l := h.length) (p := h.length) ha kp (i := greG z (i + 1)) (by omega)
    have b1 := hw (greG z i) (by omega)
    have b2 := hw (greG z (i + 1)) (by omega)
    have hp2 : 2 ^ z.getD i 0 ≤ 64 := pow6 (by omega)
    have eor : bitV .or .i64 ((greG z i : Nat) : Int) ((2 ^ z.getD i 0 : Nat) : Int) = ((greG z (i + 1) : Nat) : Int) := or64 (by omega) (by omega)
    have e1 : (!decide (((z.getD i 0 : Nat) : Int) < Int.ofNat 0)) = true := by have := neg_ltI (a := z.getD i 0); rwa [ltI_eq] at this
    obtain ⟨H', w1, w2, w3, w4, w5⟩ := HI.st1 (ro := ro) (k := z.getD i 0) (x := c.getD (greG z (i + 1)) 0 - c.getD (greG z i) 0) hg (by rw [greL_len]; omega) (Nat.le_refl _) kp
    have hix : evP .e (.ixS 1 (.c (.sl ⟨false, h.length, 0⟩ z.length (.known z.length))) (.c (.i .i64 ((z.getD i 0 : Nat) : Int)))) = some (.p (some ⟨false, h.length, 0 + z.getD i 0⟩)) := ix_new (by omega)
    simp only [g53_b0, forceB_eq, ltI_eq, lt_yes hi, cond_true, p1, p3, bindO_some, asI_i, q1, q2, e1, chk_true, forceI_eq, shl1 (show z.getD i 0 ≤ 60 by omega), eor, q1', q2']
    rw [wr_id' (x := c.getD (greG z (i + 1)) 0 - c.getD (greG z i) 0) (by omega) (by omega)]
    simp only [hix, bindO_some, w1, bindP_some, wr_next (show i ≤ 1000000 by omega)]
    exact ⟨_, rfl, H', rfl, w5, w2⟩
  · rintro t ⟨H, rfl, kp, hg⟩
    simp only [g53_b0, forceB_eq, ltI_eq, lt_no, cond_false]
    exact ⟨_, rfl, H, rfl, kp, hg⟩
/-- the cheapest groups within one, and around one -/
def insG (c : List Int) (x : Nat) : List Nat := grp c.length [fun g => Nat.beq (g &&& x) g]
def arG (c : List Int) (x : Nat) : List Nat := grp c.length [fun g => Nat.beq (x &&& g) x]
theorem mem_ins {x g : Nat} : g ∈ insG c x ↔ g < c.length ∧ g &&& x = g := by
  unfold insG
  rw [mem_grp1]
  exact ⟨fun ⟨h1, h2⟩ => ⟨h1, Nat.eq_of_beq_eq_true h2⟩, fun ⟨h1, h2⟩ => ⟨h1, by rw [h2]; exact Nat.beq_refl _⟩⟩
theorem mem_ar {x g : Nat} : g ∈ arG c x ↔ g < c.length ∧ x &&& g = x := by
  unfold arG
  rw [mem_grp1]
  exact ⟨fun ⟨h1, h2⟩ => ⟨h1, Nat.eq_of_beq_eq_true h2⟩, fun ⟨h1, h2⟩ => ⟨h1, by rw [h2]; exact Nat.beq_refl _⟩⟩
def innC (c : List Int) (x : Nat) : Int := minC c (insG c x)
def outC (c : List Int) (x : Nat) : Int := minC c (arG c x)
theorem ins_ne (hp : 0 < c.length) (x : Nat) : insG c x ≠ [] := fun e => by
  have : 0 ∈ insG c x := mem_ins.2 ⟨hp, Nat.zero_and x⟩
  rw [e] at this; cases this
theorem ar_ne {x : Nat} (hx : x < c.length) : arG c x ≠ [] := fun e => by
  have : x ∈ arG c x := mem_ar.2 ⟨hx, Nat.and_self x⟩
  rw [e] at this; cases this
theorem inn_min (hp : 0 < c.length) (x : Nat) : IsMin c (insG c x) (innC c x) := minC_ok c _ (ins_ne hp x)
theorem out_min {x : Nat} (hx : x < c.length) : IsMin c (arG c x) (outC c x) := minC_ok c _ (ar_ne hx)
theorem inn_bd (hw : withinP c 1000000) (hp : 0 < c.length) (x : Nat) : -1000000 ≤ innC c x ∧ innC c x ≤ 1000000 := by
  obtain ⟨⟨g, h1, h2⟩, -⟩ := inn_min hp x
  rw [← h2]
  exact hw g (mem_ins.1 h1).1
theorem out_bd (hw : withinP c 1000000) {x : Nat} (hx : x < c.length) : -1000000 ≤ outC c x ∧ outC c x ≤ 1000000 := by
  obtain ⟨⟨g, h1, h2⟩, -⟩ := out_min hx
  rw [← h2]
  exact hw g (mem_ar.1 h1).1
theorem inner76 (ha : IsRow ro h va c) (hp : 0 < c.length) (hl : c.length ≤ 64) {x : Nat} (hx : x < 64) : callX F1 ro 76 [va, .i .i64 (x : Int)] h = some (.i .i64 (innC c x), h, h.length, h.length) := by
  refine g76_ok (meansX_ok F1 ro) rfl ?_
  unfold g76
  obtain ⟨p, p1, p2⟩ := row_at (l := h.length) (p := h.length) ha (Keep.refl h) hp
  have e0 : ((0 : Nat) : Int) = 0 := rfl
  rw [e0] at p1
  simp only [p1, p2, bindO_some, asI_i, meansX_loop]
  have hh := loop_gen (b := fun t : Int × Int => g76_b0 (meansX F1 ro) ro va (x : Int) ⟨h, h.length, h.length⟩ t.1 t.2) c.length (fun i t => ∃ y, t = (y, (i : Int)) ∧ (∃ g ∈ insG c x, cs c g = y) ∧ ∀ j, j < i → j ∈ insG c x → y ≤ c.getD j 0) (fun r => IsMin c (insG c x) r) ?_ ?_ c.length 0 (c.getD 0 0, 0) (by omega) ⟨_, rfl, ⟨0, mem_ins.2 ⟨hp, Nat.zero_and x⟩, rfl⟩, fun j hj => by omega⟩
  · obtain ⟨r, r1, r2⟩ := hh
    rw [r1, r2.uniq (inn_min hp x)]
    simp only [bindO_some, tupA]
    exact fin_pure rfl
  · rintro i t hi ⟨y, rfl, hy, hall⟩
    obtain ⟨q, q1, q2⟩ := row_at (l := h.length) (p := h.length) ha (Keep.refl h) hi
    simp only [g76_b0, len_row ha, bindO_some, asI_i, forceB_eq, ltI_eq, lt_yes hi, cond_true, forceI_eq, and64 (show i < 9223372036854775808 by omega) (show x < 9223372036854775808 by omega), eqI_nat]
    by_cases hm : i &&& x = i
    · have hmem : i ∈ insG c x := mem_ins.2 ⟨hi, hm⟩
      simp only [dT hm, cond_true, q1, q2, bindO_some, asI_i, mxV_min, wr_next (show i ≤ 1000000 by omega)]
      refine ⟨_, rfl, _, rfl, ?_, fun j hj hjm => ?_⟩
      · split
        · exact ⟨i, hmem, rfl⟩
        · exact hy
      · by_cases hji : j = i
        · subst hji; split <;> omega
        · have := hall j (by omega) hjm
          split <;> omega
    · simp only [dF hm, cond_false, bindO_some, wr_next (show i ≤ 1000000 by omega)]
      refine ⟨_, rfl, _, rfl, hy, fun j hj hjm => ?_⟩
      by_cases hji : j = i
      · subst hji; exact absurd (mem_ins.1 hjm).2 hm
      · exact hall j (by omega) hjm
  · rintro t ⟨y, rfl, hy, hall⟩
    simp only [g76_b0, len_row ha, bindO_some, asI_i, forceB_eq, ltI_eq, lt_no, cond_false]
    exact ⟨_, rfl, hy, fun g hg => hall g (mem_ins.1 hg).1 hg⟩
theorem outer77 (ha : IsRow ro h va c) {k : Nat} (hN : c.length = 2 ^ k) (hk : k ≤ 6) {x : Nat} (hx : x < c.length) : callX F1 ro 77 [va, .i .i64 (x : Int)] h = some (.i .i64 (outC c x), h, h.length, h.length) := by
  have hp : 0 < c.length := by omega
  have hl : c.length ≤ 64 := by rw [hN]; exact pow6 hk
  refine g77_ok (meansX_ok F1 ro) rfl ?_
  unfold g77
  obtain ⟨p, p1, p2⟩ := row_at (l := h.length) (p := h.length) ha (Keep.refl h) (i := c.length - 1) (by omega)
  simp only [len_row ha, bindO_some, asI_i, forceI_eq, last_cast hp (by omega), p1, p2, meansX_loop]
  have htop : c.length - 1 ∈ arG c x := mem_ar.2 ⟨by omega, by rw [Nat.and_comm]; exact and_top hN hx⟩
  have hh := loop_gen (b := fun t : Int × Int => g77_b0 (meansX F1 ro) ro va (x : Int) ⟨h, h.length, h.length⟩ t.1 t.2) c.length (fun i t => ∃ y, t = (y, (i : Int)) ∧ (∃ g ∈ arG c x, cs c g = y) ∧ ∀ j, j < i → j ∈ arG c x → y ≤ c.getD j 0) (fun r => IsMin c (arG c x) r) ?_ ?_ c.length 0 (c.getD (c.length - 1) 0, 0) (by omega) ⟨_, rfl, ⟨_, htop, rfl⟩, fun j hj => by omega⟩
  · obtain ⟨r, r1, r2⟩ := hh
    rw [r1, r2.uniq (out_min hx)]
    simp only [bindO_some, tupA]
    exact fin_pure rfl
  · rintro i t hi ⟨y, rfl, hy, hall⟩
    obtain ⟨q, q1, q2⟩ := row_at (l := h.length) (p := h.length) ha (Keep.refl h) hi
    simp only [g77_b0, len_row ha, bindO_some, asI_i, forceB_eq, ltI_eq, lt_yes hi, cond_true, forceI_eq, and64 (show i < 9223372036854775808 by omega) (show x < 9223372036854775808 by omega), eqI_nat]
    by_cases hm : i &&& x = x
    · have hmem : i ∈ arG c x := mem_ar.2 ⟨hi, by rw [Nat.and_comm]; exact hm⟩
      simp only [dT hm, cond_true, q1, q2, bindO_some, asI_i, mxV_min, wr_next (show i ≤ 1000000 by omega)]
      refine ⟨_, rfl, _, rfl, ?_, fun j hj hjm => ?_⟩
      · split
        · exact ⟨i, hmem, rfl⟩
        · exact hy
      · by_cases hji : j = i
        · subst hji; split <;> omega
        · have := hall j (by omega) hjm
          split <;> omega
    · simp only [dF hm, cond_false, bindO_some, wr_next (show i ≤ 1000000 by omega)]
      refine ⟨_, rfl, _, rfl, hy, fun j hj hjm => ?_⟩
      by_cases hji : j = i
      · subst hji; exact absurd (by rw [Nat.and_comm]; exact (mem_ar.1 hjm).2) hm
      · exact hall j (by omega) hjm
  · rintro t ⟨y, rfl, hy, hall⟩
    simp only [g77_b0, len_row ha, bindO_some, asI_i, forceB_eq, ltI_eq, lt_no, cond_false]
    exact ⟨_, rfl, hy, fun g hg => hall g (mem_ar.1 hg).1 hg⟩
end
end Go.Proofs.Ythdglempcfknhaa.T

/- Proof on both sides; the law ShareLeast. -/
open Go.Vm
set_option linter.unusedVariables false
namespace Go.Proofs.Ythdglempcfknhaa.T
open Go

def bndV (c : List Int) (g : Nat) : Int := innC c (g &&& small c) + outC c (g ||| small c) - cs c (small c)
def bndL (c : List Int) : List Int := (List.range c.length).map (bndV c)
theorem bndL_len (c : List Int) : (bndL c).length = c.length := by simp [bndL]
theorem bndL_get {c : List Int} {g : Nat} (hg : g < c.length) : (bndL c).getD g 0 = bndV c g := by unfold bndL; exact range_get hg
def proofL (k : Nat) (c : List Int) : List Int := (List.range k).map fun i => bndV c (2 ^ k - 2 ^ i) - bndV c (2 ^ k - 2 ^ (i + 1))
def proofR (n : Int) (c : List Int) : List Int := if errS n c = 0 then proofL n.toNat c else []
theorem hi_lt {k i : Nat} (hi : i ≤ k) : 2 ^ k - 2 ^ i < 2 ^ k := by
  have := Nat.two_pow_pos k; have := Nat.two_pow_pos i; omega
section
variable {ro : List ABlk} {h : Heap} {va vb : AVal} {c : List Int} {k : Nat}
theorem small_lt (hN : c.length = 2 ^ k) : small c < c.length := (mem_tied.1 (small_mem (by rw [hN]; exact Nat.two_pow_pos k))).1
theorem bndV_bd (hw : withinP c 1000000) (hN : c.length = 2 ^ k) {g : Nat} (hg : g < c.length) : -3000000 ≤ bndV c g ∧ bndV c g ≤ 3000000 := by
  have hp : 0 < c.length := by omega
  have hs := small_lt hN
  have ho : g ||| small c < c.length := by rw [hN] at hg hs ⊢; exact Nat.or_lt_two_pow hg hs
  have h1 := inn_bd hw hp (g &&& small c)
  have h2 := out_bd hw ho
  have h3 := hw (small c) hs
  unfold bndV
  have e : cs c (small c) = c.getD (small c) 0 := rfl
  omega
theorem bnd_gre (hk : k ≤ 6) (hN : c.length = 2 ^ k) : greL (bndL c) (lastL k) (lastL k).length = proofL k c := by
  refine ext_getD (by rw [greL_len, lastL_len]; simp [proofL]) fun j hj => ?_
  rw [greL_len, lastL_len] at hj
  rw [lastL_len, last_get hk k (Nat.le_refl _) j hj, if_pos (by omega)]
  unfold proofL
  rw [range_get hj]
  have h1 : 2 ^ k - 2 ^ j < c.length := by rw [hN]; exact hi_lt (by omega)
  have h2 : 2 ^ k - 2 ^ (j + 1) < c.length := by rw [hN]; exact hi_lt (by omega)
  have e1 : cs (bndL c) (2 ^ k - 2 ^ j) = bndV c (2 ^ k - 2 ^ j) := bndL_get h1
  have e2 : cs (bndL c) (2 ^ k - 2 ^ (j + 1)) = bndV c (2 ^ k - 2 ^ (j + 1)) := bndL_get h2
  rw [e1, e2]
theorem filt_len (N : Nat) (Ps : List (Nat → Bool)) (h : N ≤ 64) : (grp N Ps).length ≤ 1000 := by
  have := List.length_filter_le (fun g => Ps.all fun P => P g) (List.range N)
  rw [List.length_range] at this
  have e : (grp N Ps).length = ((List.range N).filter fun g => Ps.all fun P => P g).length := rfl
  omega
theorem proof31 {n : Int} (ha : IsRow ro h va c) (hl : c.length ≤ 9223372036854775807) : ∃ v H, callX F1 ro 31 [.i .i64 n, va] h = some (.tup [v, .i .i64 (errS n c)], H, h.length, h.length) ∧ Keep h H ∧ IsRow ro H v (proofR n c) := by
  by_cases he : errS n c = 0
  rotate_left
  · refine ⟨.nsl, h, g31_ok (meansX_ok F1 ro) rfl ?_, Keep.refl h, .inl ⟨rfl, by rw [proofR, if_neg he]⟩⟩
    unfold g31
    simp only [meansX_call, cp0 (least29 (n := n) ha hl), bindP_some, leastT, if_neg he, ext0, ext1, ext2, ext3, bindO_some, asI_i, neqT he, forceB_eq, cond_true, tupA]
    exact fin_pure rfl
  have hc := errS_cost he
  obtain ⟨k, rfl, hk1, hk6, hN, h64⟩ := costN hc
  have hw : withinP c 1000000 := hc.2.2.2
  have hpos : 0 < c.length := by rw [hN]; exact pow_pos k
  have hs := small_lt hN
  obtain ⟨m1, m2⟩ := mkI (ro := ro) (hp := h) (n := c.length) (by omega) (l := h.length) (p := h.length)
  obtain ⟨H1, eH⟩ : ∃ H1, H1 = h ++ [some (newBlk 3 (.i .i64 0) c.length)] := ⟨_, rfl⟩
  rw [← eH] at m1 m2
  have k1 : Keep h H1 := by rw [eH]; exact Keep.app _
  have key := loop_gen (b := fun t : Int × Mm => g31_b0 (meansX F1 ro) ro (k : Int) va ((small c : Nat) : Int) (.sl ⟨false, h.length, 0⟩ c.length (.known c.length)) (c.length : Int) t.1 t.2) c.length
    (fun i t => ∃ H z, t = ((i : Int), (⟨H, h.length, h.length⟩ : Mm)) ∧ Keep h H ∧ HI H h.length z ∧ z.length = c.length ∧ ∀ j, j < i → z.getD j 0 = bndV c j)
    (fun r => ∃ H, r = (⟨H, h.length, h.length⟩ : Mm) ∧ Keep h H ∧ HI H h.length (bndL c)) ?_ ?_ c.length 0 (0, ⟨H1, h.length, h.length⟩) (by omega) ⟨H1, _, rfl, k1, m2, by simp, fun j hj => by omega⟩
  · obtain ⟨r, r1, H, rfl, kp, hz⟩ := key
    obtain ⟨v75, Ha, a1, ka, ra, -⟩ := lastFirst75 (ro := ro) (h := H) (k := k) (by omega)
    have rb := HI.row (ro := ro) (m := c.length) (cap := .known c.length) (hz.by ka) (by rw [bndL_len])
    have kA := kp.trans ka
    obtain ⟨v53, Hb, b1, kb, rb2⟩ := greedy53 (z := lastL k) (k := k) rb ra (by rw [bndL_len]; exact hN) hk6 (lastL_len k) (fun i hi => by rw [lastL_len] at hi; rw [lastL_get hi]; omega) (fun j hj => by
      rw [bndL_len] at hj
      rw [bndL_get hj]
      have := bndV_bd hw hN hj
      omega)
    rw [bnd_gre hk6 hN] at rb2
    have kB := kA.trans kb
    obtain ⟨H', f1, f2, f3⟩ := fin_rowW (ro := ro) (v := v53) (w := .tup [v53, .i .i64 0]) kB rb2 (by simp [AVal.bel, bels])
    refine ⟨v53, H', g31_ok (meansX_ok F1 ro) rfl ?_, f2, by rw [proofR, if_pos he]; simpa using f3⟩
    unfold g31
    have hlen := len_row (HI.row (ro := ro) m2 (m := c.length) (cap := .known c.length) (by simp))
    rw [List.length_replicate] at hlen
    simp only [meansX_call, cp0 (least29 (n := (k : Int)) ha hl), bindP_some, leastT, if_pos he, ext0, ext1, ext2, ext3, bindO_some, asI_i, eqI_self, Bool.not_true, forceB_eq, cond_false, len_row ha, m1, hlen, meansX_loop]
    rw [r1]
    simp only [bindO_some, cM a1 kp.1 kp.1, bindP_some, cM b1 kA.1 kA.1, tupA, he]
    exact f1
  · rintro i t hi ⟨H, z, rfl, kp, hz, hzl, hall⟩
    have hand : i &&& small c < 64 := Nat.lt_of_le_of_lt Nat.and_le_left (by omega)
    have hor : i ||| small c < c.length := by rw [hN] at hi hs ⊢; exact Nat.or_lt_two_pow hi hs
    obtain ⟨t1, Ha, a1, ka, ia⟩ := inside73 (ro := ro) (h := H) (N := c.length) h64 hand
    obtain ⟨u1, Hb, b1, kb, ib⟩ := tests1 (l := h.length) (p := h.length) ia
    obtain ⟨o1, Hc, c1, kc, rc⟩ := groups45 (ro := ro) (h := Hb) hk6 hN ib (by simp)
    have kA := kp.trans ka
    have kB := kA.trans kb
    have kC := kB.trans kc
    have rc' : IsRow ro Hc o1 (nts (insG c (i &&& small c))) := rc
    have d1 := cheap70 (row_by ha kC) rc' (List.length_pos_iff.2 (ins_ne hpos _)) (filt_len _ _ h64) (fun g hg => (mem_ins.1 hg).1) (by omega) (inn_min hpos (i &&& small c))
    obtain ⟨t2, Hd, e1, ke, ie⟩ := around74 (ro := ro) (h := Hc) (N := c.length) h64 (x := i ||| small c) (by omega)
    obtain ⟨u2, He, f1, kf, if1⟩ := tests1 (l := h.length) (p := h.length) ie
    obtain ⟨o2, Hg, g1, kg, rg⟩ := groups45 (ro := ro) (h := He) hk6 hN if1 (by simp)
    have kD := kC.trans ke
    have kE := kD.trans kf
    have kG := kE.trans kg
    have rg' : IsRow ro Hg o2 (nts (arG c (i ||| small c))) := rg
    have d2 := cheap70 (row_by ha kG) rg' (List.length_pos_iff.2 (ar_ne hor)) (filt_len _ _ h64) (fun g hg => (mem_ar.1 hg).1) (by omega) (out_min hor)
    obtain ⟨q, q1, q2⟩ := row_at (l := h.length) (p := h.length) ha kG hs
    have bi := inn_bd hw hpos (i &&& small c)
    have bo := out_bd hw hor
    have bs := hw (small c) hs
    have kHG : Keep H Hg := ((ka.trans kb).trans kc).trans ((ke.trans kf).trans kg)
    obtain ⟨H', w1, w2, w3, w4, w5⟩ := HI.st1 (ro := ro) (k := i) (x := innC c (i &&& small c) + outC c (i ||| small c) - c.getD (small c) 0) (hz.by kHG) (by omega) (Nat.le_refl _) kG
    have hix : evP .e (.ixS 1 (.c (.sl ⟨false, h.length, 0⟩ c.length (.known c.length))) (.c (.i .i64 (i : Int)))) = some (.p (some ⟨false, h.length, 0 + i⟩)) := ix_new hi
    simp only [g31_b0, forceB_eq, ltI_eq, lt_yes hi, cond_true, forceI_eq, and64 (show i < 9223372036854775808 by omega) (show small c < 9223372036854775808 by omega), or64 (show i < 9223372036854775808 by omega) (show small c < 9223372036854775808 by omega), meansX_call, cM a1 kp.1 kp.1, bindP_some, b1, cM c1 kB.1 kB.1, cp2 d1 kC.1 kC.1, asI_i, cM e1 kC.1 kC.1, f1, cM g1 kE.1 kE.1, cp2 d2 kG.1 kG.1]
    rw [wr_id' (x := innC c (i &&& small c) + outC c (i ||| small c)) (by omega) (by omega)]
    simp only [q1, q2, bindO_some, asI_i]
    rw [wr_id' (x := innC c (i &&& small c) + outC c (i ||| small c) - c.getD (small c) 0) (by omega) (by omega)]
    simp only [hix, bindO_some, w1, bindP_some, wr_next (show i ≤ 1000000 by omega)]
    refine ⟨_, rfl, H', _, rfl, w5, w2, by simpa using hzl, fun j hj => ?_⟩
    rw [set_get (by omega)]
    by_cases e : i = j
    · subst e; rw [if_pos rfl]; rfl
    · rw [if_neg e]; exact hall j (by omega)
  · rintro t ⟨H, z, rfl, kp, hz, hzl, hall⟩
    simp only [g31_b0, forceB_eq, ltI_eq, lt_no, cond_false]
    have e : z = bndL c := ext_getD (by rw [hzl, bndL_len]) fun j hj => by rw [hall j (by omega), bndL_get (by omega)]
    exact ⟨_, rfl, H, rfl, kp, by rw [← e]; exact hz⟩
def hiB (k i s : Nat) : Bool := cond (s.testBit i) (Nat.beq ((2 ^ k - 2 ^ i) &&& s) (((2 ^ k - 2 ^ (i + 1)) &&& s) + 2 ^ i) && Nat.beq ((2 ^ k - 2 ^ i) ||| s) ((2 ^ k - 2 ^ (i + 1)) ||| s)) (Nat.beq ((2 ^ k - 2 ^ i) &&& s) ((2 ^ k - 2 ^ (i + 1)) &&& s) && Nat.beq ((2 ^ k - 2 ^ i) ||| s) (((2 ^ k - 2 ^ (i + 1)) ||| s) ||| 2 ^ i))
theorem hi_all : ∀ k, k < 7 → ∀ i, i < k → ∀ s, s < 64 → hiB k i s = true := by decide +kernel
theorem hi_in (k : Nat) (hk : k < 7) (i : Nat) (hi : i < k) (s : Nat) (hs : s < 64) : (s.testBit i = true → (2 ^ k - 2 ^ i) &&& s = ((2 ^ k - 2 ^ (i + 1)) &&& s) + 2 ^ i ∧ (2 ^ k - 2 ^ i) ||| s = (2 ^ k - 2 ^ (i + 1)) ||| s) ∧ (s.testBit i = false → (2 ^ k - 2 ^ i) &&& s = (2 ^ k - 2 ^ (i + 1)) &&& s ∧ (2 ^ k - 2 ^ i) ||| s = ((2 ^ k - 2 ^ (i + 1)) ||| s) ||| 2 ^ i) := by
  have h := hi_all k hk i hi s hs
  unfold hiB at h
  constructor <;> intro hb <;> rw [hb] at h <;> simp only [cond_true, cond_false, Bool.and_eq_true] at h <;> exact ⟨Nat.eq_of_beq_eq_true h.1, Nat.eq_of_beq_eq_true h.2⟩
theorem refProof32 {n : Int} (ha : IsRow ro h va c) (hl : c.length ≤ 9223372036854775807) : ∃ v H, callX F1 ro 32 [.i .i64 n, va] h = some (.tup [v, .i .i64 (errS n c)], H, h.length, h.length) ∧ Keep h H ∧ IsRow ro H v (proofR n c) := by
  by_cases he : errS n c = 0
  rotate_left
  · refine ⟨.nsl, h, g32_ok (meansX_ok F1 ro) rfl ?_, Keep.refl h, .inl ⟨rfl, by rw [proofR, if_neg he]⟩⟩
    unfold g32
    simp only [meansX_call, cp0 (asked54 (n := n) ha hl), bindP_some, asI_i, neqT he, forceB_eq, cond_true, tupA]
    exact fin_pure rfl
  have hc := errS_cost he
  obtain ⟨k, rfl, hk1, hk6, hN, h64⟩ := costN hc
  have hw : withinP c 1000000 := hc.2.2.2
  have hpos : 0 < c.length := by rw [hN]; exact pow_pos k
  have hs := small_lt hN
  obtain ⟨es, -⟩ := and_small (sub_iff.1 (errS_bad he)) hN
  have c72 := ref72 hN hk6 ha
  rw [es] at c72
  obtain ⟨m1, m2⟩ := mkI (ro := ro) (hp := h) (n := k) (by omega) (l := h.length) (p := h.length)
  obtain ⟨H1, eH⟩ : ∃ H1, H1 = h ++ [some (newBlk 3 (.i .i64 0) k)] := ⟨_, rfl⟩
  rw [← eH] at m1 m2
  have k1 : Keep h H1 := by rw [eH]; exact Keep.app _
  have key := loop_gen (b := fun t : Int × Int × Mm => g32_b0 (meansX F1 ro) ro (k : Int) va ((small c : Nat) : Int) (.sl ⟨false, h.length, 0⟩ k (.known k)) t.1 t.2.1 t.2.2) k
    (fun i t => ∃ H z, t = (((2 ^ k - 2 ^ i : Nat) : Int), (i : Int), (⟨H, h.length, h.length⟩ : Mm)) ∧ Keep h H ∧ HI H h.length z ∧ z.length = k ∧ ∀ j, j < i → z.getD j 0 = bndV c (2 ^ k - 2 ^ j) - bndV c (2 ^ k - 2 ^ (j + 1)))
    (fun r => ∃ H, r = (⟨H, h.length, h.length⟩ : Mm) ∧ Keep h H ∧ HI H h.length (proofL k c)) ?_ ?_ k 0 (((c.length - 1 : Nat) : Int), 0, ⟨H1, h.length, h.length⟩) (by omega) ⟨H1, _, by rw [hN]; rfl, k1, m2, by simp, fun j hj => by omega⟩
  · obtain ⟨r, r1, H, rfl, kp, hz⟩ := key
    obtain ⟨H', f1, f2, f3⟩ := fin_rowW (ro := ro) (v := .sl ⟨false, h.length, 0⟩ k (.known k)) (w := .tup [.sl ⟨false, h.length, 0⟩ k (.known k), .i .i64 0]) kp (HI.row hz (by simp [proofL])) (by simp [AVal.bel, bels])
    refine ⟨.sl ⟨false, h.length, 0⟩ k (.known k), H', g32_ok (meansX_ok F1 ro) rfl ?_, f2, by rw [proofR, if_pos he]; simpa using f3⟩
    unfold g32
    simp only [meansX_call, cp0 (asked54 (n := (k : Int)) ha hl), bindP_some, asI_i, neqF he, forceB_eq, cond_false, cp0 c72, ext0, ext1, ext2, bindO_some, m1, len_row ha, forceI_eq, last_cast hpos (by omega), meansX_loop]
    rw [r1]
    simp only [bindO_some, he, tupA]
    exact f1
  · rintro i t hi ⟨H, z, rfl, kp, hz, hzl, hall⟩
    have p2i : 2 ^ i ≤ 64 := pow6 (by omega)
    have hstep : 2 ^ (i + 1) ≤ 2 ^ k := Nat.pow_le_pow_right (by omega) (by omega)
    have hdbl : 2 ^ (i + 1) = 2 * 2 ^ i := by rw [Nat.pow_succ]; omega
    have e1 : (!decide (((i : Nat) : Int) < Int.ofNat 0)) = true := by have := neg_ltI (a := i); rwa [ltI_eq] at this
    have hwl : Go.Vm.wr .i64 (((2 ^ k - 2 ^ i : Nat) : Int) - ((2 ^ i : Nat) : Int)) = ((2 ^ k - 2 ^ (i + 1) : Nat) : Int) := by rw [wr_id' (by omega) (by omega)]; omega
    obtain ⟨hT, hF⟩ := hi_in k (by omega) i hi (small c) (by omega)
    have hix : evP .e (.ixS 1 (.c (.sl ⟨false, h.length, 0⟩ k (.known k))) (.c (.i .i64 (i : Int)))) = some (.p (some ⟨false, h.length, 0 + i⟩)) := ix_new hi
    obtain ⟨L, hL⟩ : ∃ L, L = 2 ^ k - 2 ^ (i + 1) := ⟨_, rfl⟩
    have hLlt : L < c.length := by rw [hL, hN]; exact hi_lt (by omega)
    have hUlt : 2 ^ k - 2 ^ i < c.length := by rw [hN]; exact hi_lt (by omega)
    have hodd := odd_mod (a := small c) (k := i) (by omega)
    obtain ⟨H', w1, w2, w3, w4, w5⟩ := HI.st1 (ro := ro) (k := i) (x := bndV c (2 ^ k - 2 ^ i) - bndV c L) hz (by omega) (Nat.le_refl _) kp
    have fin : ∃ s' : Int × Int × Mm, (some (Sum.inl (((L : Nat) : Int), ((i + 1 : Nat) : Int), (⟨H', h.length, h.length⟩ : Mm))) : Option ((Int × Int × Mm) ⊕ Mm)) = some (.inl s') ∧ ∃ H z, s' = (((L : Nat) : Int), ((i + 1 : Nat) : Int), (⟨H, h.length, h.length⟩ : Mm)) ∧ Keep h H ∧ HI H h.length z ∧ z.length = k ∧ ∀ j, j < i + 1 → z.getD j 0 = bndV c (2 ^ k - 2 ^ j) - bndV c (2 ^ k - 2 ^ (j + 1)) := by
      refine ⟨_, rfl, H', _, rfl, w5, w2, by simpa using hzl, fun j hj => ?_⟩
      rw [set_get (by omega)]
      by_cases e : i = j
      · subst e; rw [if_pos rfl, hL]
      · rw [if_neg e]; exact hall j (by omega)
    simp only [g32_b0, forceB_eq, ltI_eq, lt_yes hi, cond_true, e1, chk_true, forceI_eq, shl1 (show i ≤ 60 by omega), hwl, ← hL, hodd]
    cases hb : (small c).testBit i
    · obtain ⟨g1, g2⟩ := hF hb
      rw [← hL] at g1 g2
      have hor : L ||| small c < c.length := by rw [hN] at hLlt hs ⊢; exact Nat.or_lt_two_pow hLlt hs
      have hor2 : (L ||| small c) ||| 2 ^ i < c.length := by rw [← g2]; rw [hN] at hUlt hs ⊢; exact Nat.or_lt_two_pow hUlt hs
      have o1 := outer77 (row_by ha kp) hN hk6 hor2
      have o2 := outer77 (row_by ha kp) hN hk6 hor
      have b1 := out_bd hw hor2
      have b2 := out_bd hw hor
      have hdiff : bndV c (2 ^ k - 2 ^ i) - bndV c L = outC c ((L ||| small c) ||| 2 ^ i) - outC c (L ||| small c) := by
        unfold bndV; rw [g1, g2]; omega
      rw [hdiff] at w1
      simp only [cond_false, or64 (show L < 9223372036854775808 by omega) (show small c < 9223372036854775808 by omega), or64 (show L ||| small c < 9223372036854775808 by omega) (show 2 ^ i < 9223372036854775808 by omega), meansX_call, cp2 o1 kp.1 kp.1, cp2 o2 kp.1 kp.1, bindP_some, asI_i]
      rw [wr_id' (x := outC c ((L ||| small c) ||| 2 ^ i) - outC c (L ||| small c)) (by omega) (by omega)]
      simp only [hix, bindO_some, w1, bindP_some, wr_next (show i ≤ 1000000 by omega)]
      exact fin
    · obtain ⟨g1, g2⟩ := hT hb
      rw [← hL] at g1 g2
      have ha1 : (L &&& small c) + 2 ^ i < 64 := by rw [← g1]; exact Nat.lt_of_le_of_lt Nat.and_le_left (by omega)
      have o1 := inner76 (row_by ha kp) hpos h64 ha1
      have o2 := inner76 (row_by ha kp) hpos h64 (x := L &&& small c) (by omega)
      have b1 := inn_bd hw hpos ((L &&& small c) + 2 ^ i)
      have b2 := inn_bd hw hpos (L &&& small c)
      have hdiff : bndV c (2 ^ k - 2 ^ i) - bndV c L = innC c ((L &&& small c) + 2 ^ i) - innC c (L &&& small c) := by
        unfold bndV; rw [g1, g2]; omega
      rw [hdiff] at w1
      have hadd : Go.Vm.wr .i64 (((L &&& small c : Nat) : Int) + ((2 ^ i : Nat) : Int)) = (((L &&& small c) + 2 ^ i : Nat) : Int) := by rw [wr_id' (by omega) (by omega)]; omega
      simp only [cond_true, and64 (show L < 9223372036854775808 by omega) (show small c < 9223372036854775808 by omega), hadd, meansX_call, cp2 o1 kp.1 kp.1, cp2 o2 kp.1 kp.1, bindP_some, asI_i]
      rw [wr_id' (x := innC c ((L &&& small c) + 2 ^ i) - innC c (L &&& small c)) (by omega) (by omega)]
      simp only [hix, bindO_some, w1, bindP_some, wr_next (show i ≤ 1000000 by omega)]
      exact fin
  · rintro t ⟨H, z, rfl, kp, hz, hzl, hall⟩
    simp only [g32_b0, forceB_eq, ltI_eq, lt_no, cond_false]
    have e : z = proofL k c := ext_getD (by rw [hzl]; simp [proofL]) fun j hj => by
      rw [hall j (by omega)]
      unfold proofL
      rw [range_get (by omega)]
    exact ⟨_, rfl, H, rfl, kp, by rw [← e]; exact hz⟩
theorem proofR_len (n : Int) (c : List Int) : (proofR n c).length ≤ 1000000 := by
  unfold proofR
  split
  · rename_i he
    obtain ⟨k, rfl, hk1, hk6, -⟩ := costN (errS_cost he)
    simp [proofL]; omega
  · simp
theorem law6 {n : Int} (ha : IsRow ro h va c) (hla : c.length ≤ 9223372036854775807) : callX F1 ro 6 [.i .i64 n, va] h = some (.b true, h, h.length, h.length) := by
  obtain ⟨u, H1, s1, k1, r1⟩ := mats1 (l := h.length) (p := h.length) ha
  have hf := few_ok r1 (by simp)
  refine g6_ok (meansX_ok F1 ro) rfl ?_
  unfold g6
  simp only [s1, pS, mC, cp2 hf k1.1 k1.1, bS, fB]
  by_cases h100 : few [c]
  rotate_left
  · simp only [dF h100, nF, cT, alv k1.1 k1.1, pS, bS, tA]
    exact fin_keep k1 rfl
  have ra := row_by ha k1
  obtain ⟨v, H2, c1, k2, r2⟩ := proof31 (n := n) ra hla
  have k12 := k1.trans k2
  obtain ⟨w, H3, c2, k3, r3⟩ := refProof32 (n := n) (row_by ha k12) hla
  have k13 := k12.trans k3
  have e20 := same_ok (row_by r2 k3) r3 (proofR_len n c)
  simp only [dT h100, nT, cF, cp2 (least29 (n := n) ra hla) k1.1 k1.1, cp2 (least30 (n := n) ra hla) k1.1 k1.1, pS]
  by_cases he : errS n c = 0
  · simp only [leastT, if_pos he, x0, x1, x2, x3, oS, aS, eqI_self, nT, cF, cM c1 k1.1 k1.1, pS, cM c2 k12.1 k12.1, cp2 e20 k13.1 k13.1, bS, decide_true, cT, alv k13.1 k13.1, tA]
    exact fin_keep k13 rfl
  · simp only [leastT, if_neg he, x0, x1, x2, x3, oS, aS, eqI_self, nT, cF, cM c1 k1.1 k1.1, pS, cM c2 k12.1 k12.1, cp2 e20 k13.1 k13.1, bS, decide_true, cT, alv k13.1 k13.1, tA]
    exact fin_keep k13 rfl
end
end Go.Proofs.Ythdglempcfknhaa.T

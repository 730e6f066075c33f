/- Contracts of the functions: what each of them answers. -/
import Derived.Test.YthdglempcfknhaaVmGa0
import Derived.Test.YthdglempcfknhaaVmGa1
import Derived.Test.YthdglempcfknhaaVmFO
import Derived.Test.YthdglempcfknhaaVmGt
import Derived.Test.YthdglempcfknhaaVmAE
import Derived.Test.YthdglempcfknhaaVmAF
import Derived.Test.YthdglempcfknhaaRows
import Derived.WalkKit
import Derived.ProofKit
import Derived.OpenShut
import Derived.Carry
import Derived.Deep.Matrix
import Derived.Deep.Slices
/- From the small machine to the statement: lists of numbers and lists of such lists, in memory that is only read. -/
open Go.Vm
set_option linter.unusedVariables false
namespace Go.Proofs.Ythdglempcfknhaa.T
open Go Go.RowKit Go.Deep Go.WideShapes Go.ChangeShapes

abbrev F1 : Tab := ⟨F, known0 15 (.b true)⟩
def IsRowK (k : IntKind) (ro : List ABlk) (h : Heap) (v : AVal) (z : List Int) : Prop :=
  (v = .nsl ∧ z = []) ∨ ∃ q cap blk, v = .sl q z.length cap ∧ rdB ro h q = some blk ∧ q.off + z.length ≤ blk.n ∧ ∀ j, j < z.length → blk.c.get (q.off + j) = .i k (z.getD j 0)

/-- what is read in the world of a list of numbers -/
structure OpenK (k : IntKind) (W : World) (v0 : Value) (z : List Int) : Prop where
  o : (v0 = .slice none 0 0 ∧ z = []) ∨ ∃ (a : Addr) (cap : Nat) (Z : List Int), v0 = .slice (some a) z.length cap ∧ z.length ≤ cap ∧ Z.length = cap ∧ z = Z.take z.length ∧ ∀ i, i < cap → a.block < W.heap.size ∧ W.cell? (a.add i) = some (.int k (Z.getD i 0))
  len_le : z.length ≤ 9223372036854775807
  z : ∀ n ∈ z, (Lit.int k n).wf = true

theorem cells3 : Try.prog.cellsOf 3 = 1 := by kernel_rfl
theorem laidOut : laidOutB Try.prog = true := by kernel_rfl
theorem own : ownKnob Try.prog.godebug = none := by kernel_rfl

section
variable {H : Type} {enc : TypeId × Value → H} {W : World} {v0 : Value} {d : DataW H} {p : List MemPlace}
theorem opened_ints (hs : ∃ a len cap, v0 = .slice a len cap) (h : DataW.Trod enc Try.prog W 0 (fun _ => true) true 22 v0 d p) : ∃ z, OpenK .i64 W v0 z := by
  obtain ⟨a0, len, cap, rfl⟩ := hs
  obtain ⟨fuel, hf⟩ := h
  have hml : maxLen = 9223372036854775807 := rfl
  rcases open_ints Try.underlying22 Try.underlying3 cells3 hf with ⟨hcs0, hx⟩ | ⟨a, len', cap', zs, hcs0, _, hl, hm, hz, hx, hcell, hw⟩
  · simp [Value.cells] at hcs0
    obtain ⟨rfl, rfl, rfl⟩ := hcs0
    exact ⟨[], .inl ⟨rfl, rfl⟩, by simp, by simp⟩
  · simp [Value.cells] at hcs0
    obtain ⟨rfl, rfl, rfl⟩ := hcs0
    simp only [if_true] at hz
    have hlen : (zs.take len).length = len := by simp; omega
    refine ⟨zs.take len, .inr ⟨a, cap, zs, by rw [hlen], by omega, by omega, by rw [hlen], fun i hi => ?_⟩, by omega, fun n hn => hw n (List.mem_of_mem_take hn)⟩
    have h1 := hcell i (by omega)
    exact ⟨World.block_lt_of_cell? _ _ h1 |> fun h => by simpa [addr_block] using h, h1⟩
end

/-- a slice's room is at least its length -/
def CapO (v : AVal) : Prop := ∀ q n c, v = .sl q n (.known c) → n ≤ c
theorem ro_flat {k : IntKind} {W : World} {v0 : Value} {z : List Int} (h : OpenK k W v0 z) (pre : List ABlk) (prl : Rl) (hp : pre.length = prl.length) : ∃ (ro : List ABlk) (rl : Rl) (v : AVal), ro.length = rl.length ∧ CapO v ∧
    (∀ x y h, IsRowK k (pre ++ ro ++ x) h v z ∧ VR (prl ++ rl ++ y) [] v v0) ∧
    ∀ (i : Nat) (b : ABlk), ro[i]? = some b → ∃ x, rl[i]? = some x ∧ ∀ j, j < b.n → x.block < W.heap.size ∧ ∃ v', W.cell? (x.add j) = some v' ∧ ∀ y, VR y [] (b.c.get j) v' := by
  rcases h.o with ⟨rfl, rfl⟩ | ⟨a, cap, Z, rfl, hcap, hlen, hz, hcell⟩
  · exact ⟨[], [], .nsl, rfl, (fun q n c e => by cases e), fun x y h => ⟨.inl ⟨rfl, rfl⟩, .nsl⟩, fun i b hb => by simp at hb⟩
  · have hget : ∀ j, j < cap → (Tr.mk (Z.map (AVal.i k))).get j = .i k (Z.getD j 0) := fun j hj => by
      rw [get_mk]; simp [List.getD, show j < Z.length by omega]
    refine ⟨[⟨0, cap, Tr.mk (Z.map (AVal.i k)), none⟩], [a], .sl ⟨true, pre.length, 0⟩ z.length (.known cap), rfl, (fun q n c e => by cases e; exact hcap), fun x y h => ⟨.inr ⟨⟨true, pre.length, 0⟩, .known cap, ⟨0, cap, Tr.mk (Z.map (AVal.i k)), none⟩, rfl, ?_, ?_, fun j hj => ?_⟩, ?_⟩, fun i b hb => ?_⟩
    · simp only [rdB, cond_true, lget_eq, List.append_assoc]
      rw [List.getElem?_append_right (Nat.le_refl _)]; simp
    · simpa using hcap
    · have e := hget j (by omega)
      have e2 : Z.getD j 0 = z.getD j 0 := by
        rw [hz, List.getD_eq_getElem?_getD, List.getD_eq_getElem?_getD, List.getElem?_take_of_lt hj]
      rw [e2] at e
      simpa using e
    · refine .slk _ _ _ _ ?_
      show (((prl ++ [a] ++ y)[pre.length]?).map fun x => x.add 0) = some a
      rw [List.append_assoc, List.getElem?_append_right (by omega), hp]; simp [Addr.add]
    · cases i with
      | zero =>
        simp at hb
        subst hb
        refine ⟨a, rfl, fun j hj => ?_⟩
        obtain ⟨h1, h2⟩ := hcell j hj
        refine ⟨h1, _, h2, fun y => ?_⟩
        have := hget j hj
        simp only [this]
        exact .i _ _
      | succ i => simp at hb

theorem env_ok {W : World} {ro : List ABlk} {rl : Rl} (h : ∀ (i : Nat) (b : ABlk), ro[i]? = some b → ∃ x, rl[i]? = some x ∧ ∀ j, j < b.n → x.block < W.heap.size ∧ ∃ v', W.cell? (x.add j) = some v' ∧ VR rl [] (b.c.get j) v') :
    (Env.mk Try.prog W.heap.size W ro rl).Ok := ⟨fun i b hb => h i b hb, Nat.le_refl _⟩
/-- what lies in the read-only blocks; more may come behind -/
def RoP (W : World) (ro : List ABlk) (rl : Rl) : Prop := ∀ (i : Nat) (b : ABlk), ro[i]? = some b → ∃ x, rl[i]? = some x ∧ ∀ j, j < b.n → x.block < W.heap.size ∧ ∃ v', W.cell? (x.add j) = some v' ∧ ∀ y, VR (rl ++ y) [] (b.c.get j) v'
theorem RoP.nil (W : World) : RoP W [] [] := fun i b hb => by simp at hb
theorem RoP.env {W : World} {ro : List ABlk} {rl : Rl} (h : RoP W ro rl) : (Env.mk Try.prog W.heap.size W ro rl).Ok := env_ok fun i b hb => by
  obtain ⟨y, h1, h2⟩ := h i b hb
  refine ⟨y, h1, fun j hj => ?_⟩
  obtain ⟨h3, v', h4, h5⟩ := h2 j hj
  exact ⟨h3, v', h4, by have := h5 []; simpa using this⟩
theorem RoP.snoc {W : World} {ro ro' : List ABlk} {rl rl' : Rl} (hl : ro.length = rl.length) (h : RoP W ro rl)
    (h' : ∀ (i : Nat) (b : ABlk), ro'[i]? = some b → ∃ x, rl'[i]? = some x ∧ ∀ j, j < b.n → x.block < W.heap.size ∧ ∃ v', W.cell? (x.add j) = some v' ∧ ∀ y, VR y [] (b.c.get j) v') : RoP W (ro ++ ro') (rl ++ rl') := by
  intro i b hb
  rcases Nat.lt_or_ge i ro.length with hi | hi
  · rw [List.getElem?_append_left hi] at hb
    obtain ⟨x, h1, h2⟩ := h i b hb
    refine ⟨x, by rw [List.getElem?_append_left (by omega)]; exact h1, fun j hj => ?_⟩
    obtain ⟨h3, v', h4, h5⟩ := h2 j hj
    exact ⟨h3, v', h4, fun y => by rw [List.append_assoc]; exact h5 _⟩
  · rw [List.getElem?_append_right hi] at hb
    obtain ⟨x, h1, h2⟩ := h' _ b hb
    refine ⟨x, by rw [List.getElem?_append_right (by omega), ← hl]; exact h1, fun j hj => ?_⟩
    obtain ⟨h3, v', h4, h5⟩ := h2 j hj
    exact ⟨h3, v', h4, fun y => h5 _⟩

/-- the call of the model: true, and below nothing has turned -/
theorem call_of {W : World} {ro : List ABlk} {rl : Rl} (hE : (Env.mk Try.prog W.heap.size W ro rl).Ok) {K : Nat} {vs : List AVal} {args : Array Value}
    (hv : LR rl [] vs args) {h' : Heap} {lw lp : Nat} (hc : callX F1 ro K vs [] = some (.b true, h', lw, lp)) : Calls Try.prog K args W fun e W' => e = .returned (.bool true) ∧ Below W.heap.size W W' := by
  have hm : (Env.mk Try.prog W.heap.size W ro rl).P.follows .mixedOrders = true := Try.checked.mixed
  have hO : CallOk (Env.mk Try.prog W.heap.size W ro rl) (known0 15 (.b true)) := known0_of hE hm fok alive0 rfl
  obtain ⟨-, h2⟩ := callX_sound hE hm (F := F1) fok hO K vs [] _ _ _ _ hc
  refine Calls.mono (h2 [] W args ⟨Below.refl _ _, rfl, by simp, fun i b r K hl => by simp [Live] at hl, fun i j b b' r K K' hl => by simp [Live] at hl⟩ hv) fun e w' hq => ?_
  obtain ⟨v', rfl, m', hvr, T⟩ := hq
  exact ⟨by rw [hvr.inv_b], T.hr.below⟩
theorem alive_pure {ro : List ABlk} {h : Heap} : callX F1 ro 15 [] h = some (.b true, h, h.length, h.length) := callX_ov rfl
end Go.Proofs.Ythdglempcfknhaa.T

/- Blocks that a function makes for itself; loops whose state is known. -/
open Go.Vm
set_option linter.unusedVariables false
namespace Go.Proofs.Ythdglempcfknhaa.T
open Go

/-- a block of the heap that holds these values -/
def Holds (hp : Heap) (b : Nat) (vs : List AVal) : Prop := ∃ blk : ABlk, lget hp b = some (some blk) ∧ blk.n = vs.length ∧ ∀ j, j < vs.length → blk.c.get j = vs.getD j und
/-- what was there is still there -/
def Keep (h hp : Heap) : Prop := h.length ≤ hp.length ∧ ∀ i, i < h.length → hp[i]? = h[i]?

section
variable {ro : List ABlk} {h hp hp' : Heap} {b k e n l p : Nat} {vs : List AVal}
theorem Keep.refl (h : Heap) : Keep h h := ⟨Nat.le_refl _, fun _ _ => rfl⟩
theorem Keep.trans {h1 : Heap} (a : Keep h h1) (c : Keep h1 hp) : Keep h hp := ⟨Nat.le_trans a.1 c.1, fun i hi => by rw [c.2 i (by have := a.1; omega), a.2 i hi]⟩
theorem Keep.app (x : Heap) : Keep h (h ++ x) := ⟨by simp, fun i hi => List.getElem?_append_left hi⟩
theorem Keep.set (a : Keep h hp) (hb : h.length ≤ b) (x : Option ABlk) : Keep h (hp.set b x) := ⟨by simpa using a.1, fun i hi => by rw [List.getElem?_set_ne (by omega)]; exact a.2 i hi⟩
theorem Keep.eq (a : Keep h hp) : hp.take h.length = h := by
  refine List.ext_getElem? fun i => ?_
  rcases Nat.lt_or_ge i h.length with hi | hi
  · rw [List.getElem?_take_of_lt hi, a.2 i hi]
  · rw [List.getElem?_eq_none (by simp; omega), List.getElem?_eq_none hi]
theorem fin_keep {v : AVal} (a : Keep h hp) (hv : v.bel h.length = true) : finM h.length v ⟨hp, h.length, h.length⟩ = some (v, h, h.length, h.length) := by
  rw [fin_take hv, a.eq]
theorem Holds.lt (a : Holds hp b vs) : b < hp.length := by obtain ⟨blk, h1, -⟩ := a; exact lget_lt h1
theorem Holds.new (hp : Heap) (e : Nat) (vs : List AVal) : Holds (hp ++ [some (blkOf e vs)]) hp.length vs := ⟨_, lget_last _ _, rfl, fun j _ => get_blk e vs j⟩
theorem Holds.keep (a : Holds hp b vs) (hk : hp'[b]? = hp[b]?) : Holds hp' b vs := by
  obtain ⟨blk, h1, h2⟩ := a
  exact ⟨blk, by rw [lget_of hk]; exact h1, h2⟩
theorem Holds.ext (a : Holds hp b vs) (x : Heap) : Holds (hp ++ x) b vs := a.keep (List.getElem?_append_left a.lt)
theorem Holds.by (a : Holds hp b vs) (k : Keep hp hp') : Holds hp' b vs := a.keep (k.2 b a.lt)
theorem Holds.one (a : Holds hp b vs) (hk : k < vs.length) : ldM ro ⟨hp, l, p⟩ true 1 (.p (some ⟨false, b, 0 + k⟩)) = some (vs.getD k und) := by
  obtain ⟨blk, h1, h2, h3⟩ := a
  rw [ld_heap rfl h1 (by omega), ← h3 k hk, Nat.zero_add]
theorem Holds.oneA (a : Holds hp b vs) (hk : k < vs.length) : ldA ro hp true 1 (.p (some ⟨false, b, 0 + k⟩)) = some (vs.getD k und) := by
  obtain ⟨blk, h1, h2, h3⟩ := a
  rw [lda_heap h1 (by omega), ← h3 k hk, Nat.zero_add]
theorem row_list {t : Tr} : ∀ (vs : List AVal) (i : Nat), (∀ j, j < vs.length → t.get (i + j) = vs.getD j und) → t.row i vs.length = vs
  | [], i, _ => rfl
  | v :: vs, i, h => by
    simp only [List.length_cons, Tr.row]
    rw [show t.get i = v by simpa using h 0 (by simp), row_list vs (i + 1) fun j hj => by have := h (j + 1) (by simp; omega); rw [show i + 1 + j = i + (j + 1) by omega, this]; simp]
theorem Holds.rd (a : Holds hp b vs) (hn : n = vs.length) : Go.Vm.rd ro hp false n ⟨false, b, 0⟩ = some (.agg vs) := by
  subst hn
  obtain ⟨blk, h1, h2, h3⟩ := a
  have hc : Nat.ble (0 + vs.length) blk.n = true := by rw [Nat.ble_eq]; omega
  simp only [Go.Vm.rd, rdB_heap h1, cond_false, hc, cond_true]
  rw [row_list vs 0 fun j hj => by rw [Nat.zero_add]; exact h3 j hj]
theorem Holds.all (a : Holds hp b vs) (hn : n = vs.length) : ldM ro ⟨hp, l, p⟩ false n (.p (some ⟨false, b, 0⟩)) = some (.agg vs) := by
  simp only [ldM, a.rd hn]
theorem spliceGet (t : Tr) : ∀ (vs : List AVal) (i j : Nat), (t.splice i vs).get j = if i ≤ j ∧ j < i + vs.length then vs.getD (j - i) und else t.get j
  | [], i, j => by simp [Tr.splice]; intro h1 h2; omega
  | v :: vs, i, j => by
    rw [Tr.splice, spliceGet (t.set i v) vs (i + 1) j, get_set]
    by_cases e : i = j
    · subst e
      rw [if_neg (by omega), if_pos rfl, if_pos (by simp)]; simp
    · by_cases h2 : i ≤ j ∧ j < i + (v :: vs).length
      · have h3 : i + 1 ≤ j ∧ j < i + 1 + vs.length := by simp at h2; omega
        rw [if_pos h2, if_pos h3]
        obtain ⟨q, rfl⟩ : ∃ q, j = i + 1 + q := ⟨j - (i + 1), by omega⟩
        rw [show i + 1 + q - i = q + 1 by omega, show i + 1 + q - (i + 1) = q by omega]
        simp
      · have h3 : ¬ (i + 1 ≤ j ∧ j < i + 1 + vs.length) := by simp at h2; omega
        rw [if_neg h2, if_neg h3, if_neg e]
theorem wrH_all {blk : ABlk} (hb : lget hp b = some (some blk)) (hn : vs.length ≤ blk.n) (ho : ones vs = true) : wrH hp ⟨false, b, 0⟩ vs = some (hp.set b (some { blk with c := blk.c.splice 0 vs })) := by
  have : (Nat.ble (0 + vs.length) blk.n && ones vs) = true := by rw [ho, Bool.and_true, Nat.ble_eq]; omega
  simp only [wrH, cond_false, hb, this, cond_true, lset_eq]
/-- a block is written whole -/
theorem Holds.st {vs' : List AVal} {v : AVal} (a : Holds hp b vs) (hv : v.cells = vs') (hn : n = vs'.length) (hl : vs'.length = vs.length) (ho : ones vs' = true) (hL : h.length ≤ b) (kp : Keep h hp) :
    ∃ hp', stepM ro ⟨hp, h.length, h.length⟩ (.st n (.c (.p (some ⟨false, b, 0⟩))) (.c v)) = some (und, ⟨hp', h.length, h.length⟩) ∧ Holds hp' b vs' ∧ hp'.length = hp.length ∧ (∀ i, i ≠ b → hp'[i]? = hp[i]?) ∧ Keep h hp' := by
  obtain ⟨blk, h1, h2, h3⟩ := a
  subst hv hn
  have hw := wrH_all h1 (vs := v.cells) (by omega) ho
  refine ⟨hp.set b (some { blk with c := blk.c.splice 0 v.cells }), ?_, ⟨_, lget_set h1 _, by simpa using (h2.trans hl.symm), fun j hj => ?_⟩, by simp, fun i hi => List.getElem?_set_ne (Ne.symm hi), kp.set hL _⟩
  · have hbq : Nat.beq v.cells.length v.cells.length = true := Nat.beq_refl _
    have e : (cond (nonp v.cells) h.length h.length) = h.length := by cases nonp v.cells <;> rfl
    simp only [stepM, stepK, opd, st_st, hbq, cond_true, hw, St.mm, Nat.min_eq_left hL, e]
  · show (blk.c.splice 0 v.cells).get j = _
    rw [spliceGet, if_pos (by omega)]; simp
end

theorem ext0 (a : AVal) (l : List AVal) : evP .e (.ext 0 (.c (.tup (a :: l)))) = some a := rfl
theorem ext1 (a b : AVal) (l : List AVal) : evP .e (.ext 1 (.c (.tup (a :: b :: l)))) = some b := rfl
theorem ext2 (a b c : AVal) (l : List AVal) : evP .e (.ext 2 (.c (.tup (a :: b :: c :: l)))) = some c := rfl
section
variable {ro : List ABlk} {h : Heap} {v : AVal}
theorem row_by {hp : Heap} {z : List Int} (a : IsRow ro h v z) (k : Keep h hp) : IsRow ro hp v z := by
  rw [take_eq k.1 k.2]; exact a.ext _
end

/-- one cell of a block is written -/
theorem Holds.set {ro : List ABlk} {h hp : Heap} {b k : Nat} {vs : List AVal} {v : AVal} (a : Holds hp b vs) (hk : k < vs.length) (hv : v.one = true) (hc : v.cells = [v]) (hn : nonp [v] = true) (hL : h.length ≤ b) (kp : Keep h hp) :
    ∃ hp', stepM ro ⟨hp, h.length, h.length⟩ (.st 1 (.c (.p (some ⟨false, b, 0 + k * 1⟩))) (.c v)) = some (und, ⟨hp', h.length, h.length⟩) ∧ Holds hp' b (vs.set k v) ∧ hp'.length = hp.length ∧ (∀ i, i ≠ b → hp'[i]? = hp[i]?) ∧ Keep h hp' := by
  obtain ⟨blk, h1, h2, h3⟩ := a
  have e : 0 + k * 1 = k := by omega
  refine ⟨hp.set b (some { blk with c := blk.c.set k v }), ?_, ⟨_, lget_set h1 _, by simpa using h2, fun j hj => ?_⟩, by simp, fun i hi => List.getElem?_set_ne (Ne.symm hi), kp.set hL _⟩
  · rw [e, st_heap h1 (by omega) hv hc hn, Nat.min_eq_left hL]
  · show (blk.c.set k v).get j = _
    rw [get_set]
    simp only [List.length_set] at hj
    by_cases e : k = j
    · subst e; simp [List.getD, hj]
    · rw [if_neg e, h3 j hj]
      simp [List.getD, List.getElem?_set_ne e]


/-- a loop whose state is known for each round -/
theorem loop_st {S R : Type} {b : S → Option (S ⊕ R)} (st : Nat → S) (n : Nat) (step : Nat → Option R) (r0 : R) (hout : b (st n) = some (.inr r0)) (hin : ∀ i, i < n → b (st i) = some (match step i with | some r => .inr r | none => .inl (st (i + 1)))) :
    ∀ (k i : Nat), i + k = n → loopX b (st i) = some ((firstS step k i).getD r0)
  | 0, i, hi => by
    simp only [Nat.add_zero] at hi
    subst hi
    exact loopX_out hout
  | k + 1, i, hi => by
    have h1 := hin i (by omega)
    unfold firstS
    cases hs : step i with
    | some r => rw [hs] at h1; exact loopX_out h1
    | none =>
      rw [hs] at h1
      exact loopX_on h1 (loop_st st n step r0 hout hin k (i + 1) (by omega))
/-- one that runs to its end -/
theorem loop_run {S R : Type} {b : S → Option (S ⊕ R)} (st : Nat → S) (n : Nat) {r0 : R} (hout : b (st n) = some (.inr r0)) (hin : ∀ i, i < n → b (st i) = some (.inl (st (i + 1)))) : loopX b (st 0) = some r0 := by
  have := loop_st st n (fun _ => none) r0 hout hin n 0 (by omega)
  rw [firstS_none.2 fun _ _ _ => rfl] at this
  exact this
/-- one that looks for something -/
theorem loop_if {S R : Type} {b : S → Option (S ⊕ R)} (st : Nat → S) (n : Nat) (P : Nat → Prop) [DecidablePred P] (r0 r1 : R) (hout : b (st n) = some (.inr r0)) (hin : ∀ i, i < n → P i → b (st i) = some (.inl (st (i + 1)))) (hno : ∀ i, i < n → ¬ P i → b (st i) = some (.inr r1)) :
    loopX b (st 0) = some (if (∀ i, i < n → P i) then r0 else r1) := by
  have := loop_st st n (fun i => if P i then none else some r1) r0 hout (fun i hi => by
    by_cases hp : P i
    · rw [if_pos hp]; exact hin i hi hp
    · rw [if_neg hp]; exact hno i hi hp) n 0 (by omega)
  rw [this]
  by_cases hall : ∀ i, i < n → P i
  · rw [if_pos hall, firstS_none.2 fun j _ h2 => by rw [if_pos (hall j (by omega))]]; rfl
  · rw [if_neg hall]
    cases hf : firstS (fun i => if P i then none else some r1) n 0 with
    | none =>
      refine absurd (fun i hi => ?_) hall
      have := firstS_none.1 hf i (by omega) (by omega)
      simpa using this
    | some r =>
      obtain ⟨j, -, -, h3, -⟩ := firstS_some hf
      by_cases hc : P j
      · rw [if_pos hc] at h3; cases h3
      · rw [if_neg hc] at h3; cases h3; rfl

theorem dT {p : Prop} [Decidable p] (h : p) : decide p = true := decide_eq_true h
theorem dF {p : Prop} [Decidable p] (h : ¬ p) : decide p = false := decide_eq_false h
theorem at_rowK {ro : List ABlk} {h : Heap} {v : AVal} {z : List Int} (hr : IsRow ro h v z) {i : Nat} (hi : i < z.length) : ∃ p, evP .e (.ixS 1 (.c v) (.c (.i .i64 (i : Int)))) = some p ∧ ∀ {hp : Heap} {l q : Nat}, Keep h hp → ldM ro ⟨hp, l, q⟩ true 1 p = some (.i .i64 (z.getD i 0)) ∧ ldA ro hp true 1 p = some (.i .i64 (z.getD i 0)) := by
  obtain ⟨p, h1, -⟩ := at_row (m := ⟨h, 0, 0⟩) rfl hr hi
  refine ⟨p, h1, fun {hp l q} k => ?_⟩
  obtain ⟨p', g1, g2, g3⟩ := at_row (m := ⟨hp, l, q⟩) rfl (row_by hr k) hi
  rw [h1] at g1; cases g1
  exact ⟨g2, g3⟩
abbrev nthR (x : List (List Int)) (i : Nat) : List Int := x.getD i []
theorem cp0 {F : Tab} {ro : List ABlk} {h : Heap} {f : Nat} {a : List AVal} {v : AVal} (e : callX F ro f a h = some (v, h, h.length, h.length)) : callM (callX F ro) ⟨h, h.length, h.length⟩ f a = some (v, ⟨h, h.length, h.length⟩) :=
  callM_pure e (Nat.le_refl _) (Nat.le_refl _)


theorem cM {F : Tab} {ro : List ABlk} {h H : Heap} {f : Nat} {a : List AVal} {v : AVal} {l p : Nat} (e : callX F ro f a h = some (v, H, h.length, h.length)) (hl : l ≤ h.length) (hp : p ≤ h.length) : callM (callX F ro) ⟨h, l, p⟩ f a = some (v, ⟨H, l, p⟩) := by
  rw [callM_eq e, Nat.min_eq_left hl, Nat.min_eq_left hp]
theorem fin_any {h H : Heap} {w : AVal} (k : Keep h H) : ∃ H', finM h.length w ⟨H, h.length, h.length⟩ = some (w, H', h.length, h.length) ∧ Keep h H' ∧ (w.bel h.length = false → H' = H) := by
  obtain ⟨y, h1, h2⟩ := fin_gen (h := h) (h' := H) (v := w) (l := h.length) (p := h.length) k.1 k.2
  exact ⟨h ++ y, h1, Keep.app y, h2⟩
/-- a list read in a heap that keeps another one, below that one's length, is in that one -/
theorem row_down {ro : List ABlk} {h H : Heap} {v : AVal} {z : List Int} (k : Keep h H) (a : IsRow ro H v z) (hb : v.bel h.length = true) : IsRow ro h v z := by
  rcases a with ⟨rfl, rfl⟩ | ⟨q, cap, blk, rfl, hb2, hn, hc⟩
  · exact .inl ⟨rfl, rfl⟩
  · refine .inr ⟨q, cap, blk, rfl, ?_, hn, hc⟩
    have h1 : (q.ro || Nat.blt q.b h.length) = true := by simpa [AVal.bel] using hb
    unfold rdB at hb2 ⊢
    cases hr : q.ro
    · rw [hr] at h1 hb2
      have h2 : q.b < h.length := by simpa [Nat.blt_eq] using h1
      simp only [cond_false] at hb2 ⊢
      rw [← lget_of (k.2 q.b h2)]; exact hb2
    · rw [hr] at hb2; exact hb2
theorem fin_rowW {ro : List ABlk} {h H : Heap} {v w : AVal} {z : List Int} (k : Keep h H) (a : IsRow ro H v z) (hw : w.bel h.length = v.bel h.length) :
    ∃ H', finM h.length w ⟨H, h.length, h.length⟩ = some (w, H', h.length, h.length) ∧ Keep h H' ∧ IsRow ro H' v z := by
  obtain ⟨H', h1, h2, h3⟩ := fin_any (w := w) k
  refine ⟨H', h1, h2, ?_⟩
  cases hb : w.bel h.length
  · rw [h3 hb]; exact a
  · exact row_by (row_down k a (by rw [← hw]; exact hb)) h2
theorem loop_gen {S R : Type} {b : S → Option (S ⊕ R)} (n : Nat) (I : Nat → S → Prop) (Q : R → Prop)
    (hin : ∀ i s, i < n → I i s → ∃ s', b s = some (.inl s') ∧ I (i + 1) s') (hout : ∀ s, I n s → ∃ r, b s = some (.inr r) ∧ Q r) :
    ∀ (k i : Nat) (s : S), i + k = n → I i s → ∃ r, loopX b s = some r ∧ Q r
  | 0, i, s, hk, hi => by
    obtain rfl : i = n := by omega
    obtain ⟨r, h1, h2⟩ := hout s hi
    exact ⟨r, loopX_out h1, h2⟩
  | k + 1, i, s, hk, hi => by
    obtain ⟨s1, h1, h2⟩ := hin i s (by omega) hi
    obtain ⟨r, h3, h4⟩ := loop_gen n I Q hin hout k (i + 1) s1 (by omega) h2
    exact ⟨r, loopX_on h1 h3, h4⟩
theorem loop_exit {S R : Type} {b : S → Option (S ⊕ R)} (n : Nat) (I : Nat → S → Prop) (Q : R → Prop)
    (hin : ∀ i s, i < n → I i s → (∃ s', b s = some (.inl s') ∧ I (i + 1) s') ∨ ∃ r, b s = some (.inr r) ∧ Q r) (hout : ∀ s, I n s → ∃ r, b s = some (.inr r) ∧ Q r) :
    ∀ (k i : Nat) (s : S), i + k = n → I i s → ∃ r, loopX b s = some r ∧ Q r
  | 0, i, s, hk, hi => by
    obtain rfl : i = n := by omega
    obtain ⟨r, h1, h2⟩ := hout s hi
    exact ⟨r, loopX_out h1, h2⟩
  | k + 1, i, s, hk, hi => by
    rcases hin i s (by omega) hi with ⟨s1, h1, h2⟩ | ⟨r, h1, h2⟩
    · obtain ⟨r, h3, h4⟩ := loop_exit n I Q hin hout k (i + 1) s1 (by omega) h2
      exact ⟨r, loopX_on h1 h3, h4⟩
    · exact ⟨r, loopX_out h1, h2⟩

/- the laws' own: few, same -/
def few (x : List (List Int)) : Prop := ∀ i, i < x.length → (nthR x i).length ≤ 100
instance (x : List (List Int)) : Decidable (few x) := inferInstanceAs (Decidable (∀ i, i < x.length → (nthR x i).length ≤ 100))
theorem few_ok {ro : List ABlk} {h : Heap} {a : AVal} {x : List (List Int)} (ha : IsMat ro h a x) (hx : x.length ≤ 9223372036854775807) : callX F1 ro 14 [a] h = some (.b (decide (few x)), h, h.length, h.length) := by
  refine g14_ok (meansX_ok F1 ro) rfl ?_
  unfold g14
  simp only [meansX_loop]
  have hloop := loop_if (b := fun s => g14_b0 (meansX F1 ro) ro a ⟨h, h.length, h.length⟩ s) (fun i => (i : Int)) x.length (fun i => (nthR x i).length ≤ 100) (.inl ()) (.inr false) ?_ ?_ ?_
  · have e0 : ((0 : Nat) : Int) = 0 := rfl
    rw [e0] at hloop
    rw [hloop]
    by_cases hf : ∀ i, i < x.length → (nthR x i).length ≤ 100
    · rw [if_pos hf]
      simp only [bindO_some, tupA, dT (show few x from hf)]
      exact fin_pure rfl
    · rw [if_neg hf]
      simp only [bindO_some, tupA, dF (show ¬ few x from hf)]
      exact fin_pure rfl
  · simp only [g14_b0, len_mat ha, bindO_some, asI_i, forceB_eq, ltI_eq]
    simp
  · intro i hi hp
    obtain ⟨p, u, h1, h2, h3, h4⟩ := at_mat (m := ⟨h, h.length, h.length⟩) rfl ha hi
    have e := lt_yes hi
    have h5 : (x.getD i []).length ≤ 100 := hp
    have e3 : decide ((100 : Int) < ((x.getD i []).length : Int)) = false := dF (by omega)
    simp only [g14_b0, len_mat ha, bindO_some, asI_i, forceB_eq, ltI_eq, e, cond_true, cond_false, h1, h2, len_row h4, e3, forceI_eq]
    rw [wr_id' (by omega) (by omega)]
    rfl
  · intro i hi hp
    obtain ⟨p, u, h1, h2, h3, h4⟩ := at_mat (m := ⟨h, h.length, h.length⟩) rfl ha hi
    have e := lt_yes hi
    have h5 : ¬ (x.getD i []).length ≤ 100 := hp
    have e3 : decide ((100 : Int) < ((x.getD i []).length : Int)) = true := dT (by omega)
    simp only [g14_b0, len_mat ha, bindO_some, asI_i, forceB_eq, ltI_eq, e, cond_true, h1, h2, len_row h4, e3]

end Go.Proofs.Ythdglempcfknhaa.T

/- Lists that a function makes by append. -/
open Go.Vm
set_option linter.unusedVariables false
namespace Go.Proofs.Ythdglempcfknhaa.T
open Go

/-- a list made by append, in a block from L on -/
def GV (hp : Heap) (L e es : Nat) (v : AVal) (k : Nat) (cs : List AVal) : Prop :=
  (v = .nsl ∧ k = 0 ∧ cs = []) ∨ ∃ b blk, v = .sl ⟨false, b, 0⟩ k .grow ∧ 0 < k ∧ L ≤ b ∧ lget hp b = some (some blk) ∧ blk.e = e ∧ cs.length = k * es ∧ k * es ≤ blk.n ∧ ∀ j, j < k * es → blk.c.get j = cs.getD j und
theorem GV.nil (hp : Heap) (L e es : Nat) : GV hp L e es .nsl 0 [] := .inl ⟨rfl, rfl, rfl⟩
/-- blocks below L, and those above that are kept, hold the list as before -/
theorem GV.by {hp hp' : Heap} {L e es k : Nat} {v : AVal} {cs : List AVal} (g : GV hp L e es v k cs) (kp : Keep hp hp') : GV hp' L e es v k cs := by
  rcases g with h | ⟨b, blk, h1, h2, h3, h4, h5⟩
  · exact .inl h
  · exact .inr ⟨b, blk, h1, h2, h3, by rw [lget_of (kp.2 b (lget_lt h4))]; exact h4, h5⟩
theorem row_row {t : Tr} : ∀ (n i : Nat) (cs : List AVal), cs.length = n → (∀ j, j < n → t.get (i + j) = cs.getD j und) → t.row i n = cs := by
  intro n i cs hl h
  subst hl
  exact row_list cs i h
theorem GV.push {ro : List ABlk} {hp : Heap} {L0 L e es bytes k : Nat} {z : List AVal} {v w : AVal} {cs ws : List AVal} (g : GV hp L e es v k cs) (hL0 : L0 ≤ L) (hL : L ≤ hp.length) (hk : k ≤ 100000) (hb : bytes ≤ 1000) (hes : 0 < es) (hz : z.length = es) (hw : w.cells = ws) (hwl : ws.length = es) (ho : ones ws = true) (hsp : splice z 0 ws = ws) :
    ∃ v2 hp2 v3 hp3, stepM ro ⟨hp, L0, L0⟩ (.bsl e es z 1 [((0, es), .c w)]) = some (v2, ⟨hp2, L0, L0⟩) ∧ stepM ro ⟨hp2, L0, L0⟩ (.app e es bytes z (.c v) (.c v2)) = some (v3, ⟨hp3, L0, L0⟩) ∧
      GV hp3 L e es v3 (k + 1) (cs ++ ws) ∧ hp.length ≤ hp3.length ∧ ∀ i, i < L → hp3[i]? = hp[i]? := by
  have s1 : stepM ro ⟨hp, L0, L0⟩ (.bsl e es z 1 [((0, es), .c w)]) = some (.sl ⟨false, hp.length, 0⟩ 1 (.known 1), ⟨hp ++ [some (blkOf e ws)], L0, L0⟩) := by
    simp [stepM, stepK, st_bsl, rep, fillA, opd, hw, hwl, hz, hsp, newB, St.mm]
  have src : app_src ro (hp ++ [some (blkOf e ws)]) es (.sl ⟨false, hp.length, 0⟩ 1 (.known 1)) = some (ws, 1) := by
    have hbq : rdB ro (hp ++ [some (blkOf e ws)]) ⟨false, hp.length, 0⟩ = some (blkOf e ws) := by simp [rdB, lget_eq]
    have hg : (blkOf e ws).c.row 0 es = ws := row_row es 0 ws hwl fun j hj => by rw [Nat.zero_add, get_blk]
    have hble : Nat.ble (0 + 1 * es) (blkOf e ws).n = true := by rw [Nat.ble_eq]; show 0 + 1 * es ≤ ws.length; omega
    simp only [app_src, hbq, hble, cond_true]
    rw [show 1 * es = es by omega, hg]
  rcases g with ⟨rfl, rfl, rfl⟩ | ⟨b, blk, rfl, hpos, hLb, hbk, hbe, hcl, hbn, hrows⟩
  · refine ⟨_, _, .sl ⟨false, hp.length + 1, 0⟩ 1 .grow, hp ++ [some (blkOf e ws)] ++ [some (blkOf e ws)], s1, ?_, .inr ⟨hp.length + 1, blkOf e ws, rfl, by omega, by omega, ?_, rfl, by simp; omega, by show 1 * es ≤ ws.length; omega, fun j hj => ?_⟩, by simp, fun i hi => ?_⟩
    · have hb1 : Nat.beq 1 0 = false := rfl
      simp only [stepM, stepK, opd, st_app, src, hb1, cond_false, fits_small (by omega : 1 ≤ 1000000) hb, cond_true, newB, St.mm, List.length_append, List.length_cons, List.length_nil, Nat.zero_add]
    · have := lget_last (hp ++ [some (blkOf e ws)]) (some (blkOf e ws))
      rwa [List.length_append, List.length_singleton] at this
    · rw [get_blk]; simp
    · rw [List.append_assoc, List.getElem?_append_left (by omega)]
  · obtain ⟨hp2, e2⟩ : ∃ hp2, hp2 = hp ++ [some (blkOf e ws)] := ⟨_, rfl⟩
    rw [← e2] at src s1
    have hlt : b < hp.length := lget_lt hbk
    have hb2 : lget hp2 b = some (some blk) := by rw [e2]; exact lget_ext hbk _
    have hlen2 : hp2.length = hp.length + 1 := by rw [e2]; simp
    have hrow : blk.c.row 0 (k * es) = cs := row_row (k * es) 0 cs hcl fun j hj => by rw [Nat.zero_add]; exact hrows j hj
    have hke : 0 < k * es := Nat.mul_pos hpos hes
    refine ⟨_, _, .sl ⟨false, hp2.length, 0⟩ (k + 1) .grow, lset none hp2 b ++ [some (blkOf e (cs ++ ws))], s1, ?_, .inr ⟨hp2.length, blkOf e (cs ++ ws), rfl, by omega, by omega, ?_, rfl, ?_, ?_, fun j hj => ?_⟩, ?_, fun i hi => ?_⟩
    · have h1 : (Nat.beq blk.e e && Nat.ble (k * es) blk.n && fits (k + 1) bytes && ones ws) = true := by
        rw [hbe, fits_small (by omega : k + 1 ≤ 1000000) hb]
        simp [ho, Nat.ble_eq]; omega
      have h2 : (!Nat.beq 0 0) = false := rfl
      have h3 : Nat.blt 0 blk.n = true := by rw [Nat.blt_eq]; omega
      have hb10 : Nat.beq 1 0 = false := rfl
      simp only [stepM, stepK, opd, st_app, src, app_grow, hb10, h2, cond_false, Bool.or_false, Bool.false_or, hb2, h1, h3, Bool.and_self, cond_true, St.mm, hrow, Nat.min_eq_left (Nat.le_trans hL0 hLb)]
    · rw [lget_eq, lset_eq, List.getElem?_append_right (by simp)]
      simp
    · rw [List.length_append, hcl, hwl, Nat.add_mul]; omega
    · show (k + 1) * es ≤ (cs ++ ws).length
      rw [List.length_append, hcl, hwl, Nat.add_mul]; omega
    · rw [get_blk]
    · simp [lset_eq]; omega
    · rw [lset_eq, List.getElem?_append_left (by simp; omega), List.getElem?_set_ne (by omega), e2, List.getElem?_append_left (by omega)]
theorem GV.row {ro : List ABlk} {hp : Heap} {L e : Nat} {v : AVal} {k : Nat} {z : List Int} (g : GV hp L e 1 v k (z.map (AVal.i .i64))) (hk : z.length = k) : IsRow ro hp v z := by
  subst hk
  rcases g with ⟨rfl, h2, -⟩ | ⟨b, blk, rfl, hpos, hLb, hbk, hbe, hcl, hbn, hrows⟩
  · exact .inl ⟨rfl, List.length_eq_zero_iff.1 h2⟩
  · refine .inr ⟨_, _, blk, rfl, rdB_heap hbk 0, by simpa using hbn, fun j hj => ?_⟩
    rw [Nat.zero_add, hrows j (by omega), map_getD hj]
end Go.Proofs.Ythdglempcfknhaa.T

/- Groups as bits: the operations on them. -/
open Go.Vm
set_option linter.unusedVariables false
namespace Go.Proofs.Ythdglempcfknhaa.T
open Go

theorem ofInt64 {a : Nat} (ha : a < 9223372036854775808) : (BitVec.ofInt 64 (a : Int)).toNat = a := by
  rw [BitVec.ofInt_natCast, BitVec.toNat_ofNat]; exact Nat.mod_eq_of_lt (by omega)
theorem and64 {a b : Nat} (ha : a < 9223372036854775808) (hb : b < 9223372036854775808) : bitV .and .i64 (a : Int) (b : Int) = ((a &&& b : Nat) : Int) := by
  have hx : a &&& b < 2 ^ 63 := Nat.and_lt_two_pow _ (by omega)
  show numA (some (mkI .i64 (IntKind.i64.wrap ((BitVec.ofInt 64 (a : Int) &&& BitVec.ofInt 64 (b : Int)).toNat : Int)))) = _
  rw [mkI_eq, BitVec.toNat_and, ofInt64 ha, ofInt64 hb, wrap_i64_in _ (by omega) (by omega)]
  rfl
theorem or64 {a b : Nat} (ha : a < 9223372036854775808) (hb : b < 9223372036854775808) : bitV .or .i64 (a : Int) (b : Int) = ((a ||| b : Nat) : Int) := by
  have hx : a ||| b < 2 ^ 63 := Nat.or_lt_two_pow (by omega) (by omega)
  show numA (some (mkI .i64 (IntKind.i64.wrap ((BitVec.ofInt 64 (a : Int) ||| BitVec.ofInt 64 (b : Int)).toNat : Int)))) = _
  rw [mkI_eq, BitVec.toNat_or, ofInt64 ha, ofInt64 hb, wrap_i64_in _ (by omega) (by omega)]
  rfl
theorem shl64 {a c : Nat} (hc : c ≤ 60) (hr : a * 2 ^ c < 9223372036854775808) : shlV .i64 (a : Int) (c : Int) = ((a * 2 ^ c : Nat) : Int) := by
  unfold shlV
  have : min ((c : Int).toNat) (IntKind.i64.bits) = c := by
    show min c 64 = c
    omega
  rw [this]
  have e : ((a : Int) * ((2 ^ c : Nat) : Int)) = ((a * 2 ^ c : Nat) : Int) := (Int.natCast_mul _ _).symm
  show Go.Vm.wr .i64 ((a : Int) * ((2 ^ c : Nat) : Int)) = _
  rw [e, wr_id' (by omega) (by omega)]
theorem shr64 {a c : Nat} (hc : c ≤ 60) : shrV .i64 (a : Int) (c : Int) = ((a / 2 ^ c : Nat) : Int) := by
  unfold shrV
  have : min ((c : Int).toNat) (IntKind.i64.bits) = c := by
    show min c 64 = c
    omega
  rw [this]
  show Int.fdiv (a : Int) (((2 ^ c : Nat)) : Int) = _
  rw [Int.fdiv_eq_ediv_of_nonneg _ (Int.natCast_nonneg _)]
  norm_cast
theorem neg_ltI {a : Nat} : (!ltI (a : Int) (.ofNat 0)) = true := by
  rw [ltI_eq]
  have : decide ((a : Int) < Int.ofNat 0) = false := decide_eq_false (by show ¬ ((a : Int) < 0); omega)
  rw [this]; rfl
theorem shl1 {a : Nat} (ha : a ≤ 60) : shlV .i64 1 (a : Int) = ((2 ^ a : Nat) : Int) := by
  have h2 : 2 ^ a ≤ 2 ^ 60 := Nat.pow_le_pow_right (by omega) ha
  have := shl64 (a := 1) (c := a) ha (by omega)
  rw [Nat.one_mul] at this
  exact this
theorem bit_odd (a k : Nat) : ((a / 2 ^ k : Nat) &&& 1) = if a.testBit k then 1 else 0 := by
  rw [Nat.and_one_is_mod, Nat.testBit_eq_decide_div_mod_eq]
  by_cases h : a / 2 ^ k % 2 = 1
  · simp [h]
  · have : a / 2 ^ k % 2 = 0 := by omega
    simp [this]
theorem odd_and {a k : Nat} (ha : a < 9223372036854775808) (hk : k ≤ 60) : eqI (bitV .and .i64 (shrV .i64 (a : Int) (k : Int)) 1) 1 = a.testBit k := by
  rw [shr64 hk]
  have hlt : a / 2 ^ k < 9223372036854775808 := Nat.lt_of_le_of_lt (Nat.div_le_self _ _) ha
  have e := and64 hlt (show 1 < 9223372036854775808 by omega)
  have e1 : ((1 : Nat) : Int) = 1 := rfl
  rw [e1] at e
  rw [e, bit_odd, eqI_eq]
  cases a.testBit k <;> rfl
theorem odd_mod {a k : Nat} (hk : k ≤ 60) : eqI (Int.tmod (shrV .i64 (a : Int) (k : Int)) 2) 1 = a.testBit k := by
  rw [shr64 hk]
  have e : Int.tmod ((a / 2 ^ k : Nat) : Int) 2 = ((a / 2 ^ k % 2 : Nat) : Int) := tmod_nat _ 2
  rw [e, eqI_eq, Nat.testBit_eq_decide_div_mod_eq]
  by_cases h : a / 2 ^ k % 2 = 1
  · simp [h]
  · have : a / 2 ^ k % 2 = 0 := by omega
    simp [this]
theorem has60 {ro : List ABlk} {h : Heap} {a k : Nat} (ha : a < 9223372036854775808) (hk : k ≤ 60) : callX F1 ro 60 [.i .i64 (a : Int), .i .i64 (k : Int)] h = some (.b (a.testBit k), h, h.length, h.length) := by
  refine g60_ok (meansX_ok F1 ro) rfl ?_
  unfold g60
  simp only [neg_ltI, chk_true, forceI_eq, odd_and ha hk, forceB_eq, tupA]
  exact fin_pure rfl
end Go.Proofs.Ythdglempcfknhaa.T

/- What a cost is: the program and the reference. -/
open Go.Vm
set_option linter.unusedVariables false
namespace Go.Proofs.Ythdglempcfknhaa.T
open Go

/-- all numbers within a limit -/
def withinP (c : List Int) (L : Int) : Prop := ∀ j, j < c.length → -L ≤ c.getD j 0 ∧ c.getD j 0 ≤ L
instance (c : List Int) (L : Int) : Decidable (withinP c L) := inferInstanceAs (Decidable (∀ j, j < c.length → -L ≤ c.getD j 0 ∧ c.getD j 0 ≤ L))
def costP (n : Int) (c : List Int) : Prop := (1 ≤ n ∧ n ≤ 6) ∧ (c.length : Int) = ((2 ^ n.toNat : Nat) : Int) ∧ c.getD 0 0 = 0 ∧ withinP c 1000000
instance (n : Int) (c : List Int) : Decidable (costP n c) := inferInstanceAs (Decidable ((1 ≤ n ∧ n ≤ 6) ∧ (c.length : Int) = ((2 ^ n.toNat : Nat) : Int) ∧ c.getD 0 0 = 0 ∧ withinP c 1000000))
def sharP (n : Int) (s : List Int) : Prop := (s.length : Int) = n ∧ withinP s 6000000
instance (n : Int) (s : List Int) : Decidable (sharP n s) := inferInstanceAs (Decidable (_ ∧ _))

section
variable {ro : List ABlk} {h : Heap} {a : AVal} {c : List Int}
theorem within50 {x L : Int} (h0 : 0 ≤ L) (h1 : L ≤ 1000000000) : callX F1 ro 50 [.i .i64 x, .i .i64 L] h = some (.b (decide (-L ≤ x ∧ x ≤ L)), h, h.length, h.length) := by
  refine g50_ok (meansX_ok F1 ro) rfl ?_
  unfold g50
  simp only [forceI_eq, forceB_eq, ltI_eq]
  rw [wr_id' (by omega) (by omega)]
  by_cases h2 : -L ≤ x
  · by_cases h3 : x ≤ L
    · simp only [dF (show ¬ x < 0 - L by omega), dF (show ¬ L < x by omega), Bool.not_false, cond_true, bindO_some, dT (show -L ≤ x ∧ x ≤ L from ⟨h2, h3⟩), tupA]; exact fin_pure rfl
    · simp only [dF (show ¬ x < 0 - L by omega), dT (show L < x by omega), Bool.not_false, Bool.not_true, cond_true, bindO_some, dF (show ¬ (-L ≤ x ∧ x ≤ L) from fun hh => h3 hh.2), tupA]; exact fin_pure rfl
  · simp only [dT (show x < 0 - L by omega), Bool.not_true, cond_false, bindO_some, dF (show ¬ (-L ≤ x ∧ x ≤ L) from fun hh => h2 hh.1), tupA]; exact fin_pure rfl
theorem all87 {L : Int} (ha : IsRow ro h a c) (hl : c.length ≤ 9223372036854775807) (h0 : 0 ≤ L) (h1 : L ≤ 1000000000) : callX F1 ro 87 [a, .i .i64 L] h = some (.b (decide (withinP c L)), h, h.length, h.length) := by
  refine g87_ok (meansX_ok F1 ro) rfl ?_
  unfold g87
  simp only [len_row ha, bindO_some, asI_i, meansX_loop]
  have hloop := loop_if (b := fun s : Int × Mm => g87_b0 (meansX F1 ro) ro L a c.length s.1 s.2) (fun i => ((i : Int), (⟨h, h.length, h.length⟩ : Mm))) c.length (fun i => -L ≤ c.getD i 0 ∧ c.getD i 0 ≤ L) (.inl ⟨h, h.length, h.length⟩) (.inr (false, ⟨h, h.length, h.length⟩)) ?_ ?_ ?_
  · have e0 : ((0 : Nat) : Int) = 0 := rfl
    rw [e0] at hloop
    rw [hloop]
    by_cases hf : withinP c L
    · rw [if_pos (show ∀ i, i < c.length → _ from hf)]
      simp only [bindO_some, dT hf, tupA]; exact fin_pure rfl
    · rw [if_neg (show ¬ ∀ i, i < c.length → _ from hf)]
      simp only [bindO_some, dF hf, tupA]; exact fin_pure rfl
  · simp only [g87_b0, forceB_eq, ltI_eq, lt_no, cond_false]
  · intro i hi hp
    obtain ⟨p, q1, q2, q3⟩ := at_row (m := ⟨h, h.length, h.length⟩) rfl ha hi
    simp only [g87_b0, forceB_eq, ltI_eq, lt_yes hi, cond_true, q1, q2, bindO_some, asI_i, meansX_call, cp0 (within50 h0 h1), bindP_some, asB_b, dT hp, Bool.not_true, cond_false, forceI_eq]
    rw [wr_id' (by omega) (by omega)]; rfl
  · intro i hi hp
    obtain ⟨p, q1, q2, q3⟩ := at_row (m := ⟨h, h.length, h.length⟩) rfl ha hi
    simp only [g87_b0, forceB_eq, ltI_eq, lt_yes hi, cond_true, q1, q2, bindO_some, asI_i, meansX_call, cp0 (within50 h0 h1), bindP_some, asB_b, dF hp, Bool.not_false]
theorem count84 {n : Int} : callX F1 ro 84 [.i .i64 n] h = some (.b (decide (1 ≤ n ∧ n ≤ 6)), h, h.length, h.length) := by
  refine g84_ok (meansX_ok F1 ro) rfl ?_
  unfold g84
  simp only [forceB_eq, ltI_eq]
  by_cases h1 : 1 ≤ n
  · by_cases h2 : n ≤ 6
    · simp only [dF (show ¬ n < 1 by omega), dF (show ¬ 6 < n by omega), Bool.not_false, cond_true, bindO_some, dT (show 1 ≤ n ∧ n ≤ 6 from ⟨h1, h2⟩), tupA]; exact fin_pure rfl
    · simp only [dF (show ¬ n < 1 by omega), dT (show 6 < n by omega), Bool.not_false, Bool.not_true, cond_true, bindO_some, dF (show ¬ (1 ≤ n ∧ n ≤ 6) from fun hh => h2 hh.2), tupA]; exact fin_pure rfl
  · simp only [dT (show n < 1 by omega), Bool.not_true, cond_false, bindO_some, dF (show ¬ (1 ≤ n ∧ n ≤ 6) from fun hh => h1 hh.1), tupA]; exact fin_pure rfl
theorem pow_pos (k : Nat) : 0 < 2 ^ k := Nat.two_pow_pos k
theorem pow6 {k : Nat} (h : k ≤ 6) : 2 ^ k ≤ 64 := Nat.pow_le_pow_right (by omega) h
theorem shl_n {n : Int} (h1 : 1 ≤ n) (h2 : n ≤ 6) : (!ltI n (.ofNat 0)) = true ∧ shlV .i64 1 n = ((2 ^ n.toNat : Nat) : Int) := by
  obtain ⟨k, rfl⟩ : ∃ k : Nat, n = (k : Int) := ⟨n.toNat, by omega⟩
  exact ⟨neg_ltI, shl1 (by omega)⟩
theorem cost44 {n : Int} (ha : IsRow ro h a c) (hl : c.length ≤ 9223372036854775807) : callX F1 ro 44 [.i .i64 n, a] h = some (.b (decide (costP n c)), h, h.length, h.length) := by
  refine g44_ok (meansX_ok F1 ro) rfl ?_
  unfold g44
  simp only [meansX_call, cp0 count84, bindP_some, asB_b]
  by_cases h1 : 1 ≤ n ∧ n ≤ 6
  · obtain ⟨e1, e2⟩ := shl_n h1.1 h1.2
    simp only [dT h1, cond_true, len_row ha, bindO_some, asI_i, e1, e2, chk_true, forceI_eq, forceB_eq, eqI_eq]
    by_cases h2 : (c.length : Int) = ((2 ^ n.toNat : Nat) : Int)
    · have hc : 0 < c.length := by have := pow_pos n.toNat; omega
      obtain ⟨p, q1, q2, q3⟩ := at_row (m := ⟨h, h.length, h.length⟩) rfl ha hc
      have e0 : ((0 : Nat) : Int) = 0 := rfl
      rw [e0] at q1
      have b2 : ((c.length : Int) == ((2 ^ n.toNat : Nat) : Int)) = true := by rw [h2]; simp
      simp only [b2, cond_true, q1, q2, bindO_some, asI_i, eqI_eq]
      by_cases h3 : c.getD 0 0 = 0
      · have b3 : (c.getD 0 0 == 0) = true := by rw [h3]; rfl
        simp only [b3, cond_true, cp0 (all87 (L := 1000000) ha hl (by omega) (by omega)), bindP_some, asB_b, bindO_some]
        by_cases h4 : withinP c 1000000
        · simp only [dT h4, dT (show costP n c from ⟨h1, h2, h3, h4⟩), tupA]; exact fin_pure rfl
        · simp only [dF h4, dF (show ¬ costP n c from fun hh => h4 hh.2.2.2), tupA]; exact fin_pure rfl
      · have b3 : (c.getD 0 0 == 0) = false := by simpa using h3
        simp only [b3, cond_false, bindO_some, dF (show ¬ costP n c from fun hh => h3 hh.2.2.1), tupA]; exact fin_pure rfl
    · have b2 : ((c.length : Int) == ((2 ^ n.toNat : Nat) : Int)) = false := by simpa using h2
      simp only [b2, cond_false, bindO_some, dF (show ¬ costP n c from fun hh => h2 hh.2.1), tupA]; exact fin_pure rfl
  · simp only [dF h1, cond_false, bindO_some, dF (show ¬ costP n c from fun hh => h1 hh.1), tupA]; exact fin_pure rfl
theorem cost48 {n : Int} (ha : IsRow ro h a c) (hl : c.length ≤ 9223372036854775807) : callX F1 ro 48 [.i .i64 n, a] h = some (.b (decide (costP n c)), h, h.length, h.length) := by
  refine g48_ok (meansX_ok F1 ro) rfl ?_
  unfold g48
  simp only [forceB_eq, ltI_eq, meansX_loop]
  by_cases h0 : n < 1
  · simp only [dT h0, cond_true, bindO_some, dF (show ¬ costP n c from fun hh => by have := hh.1.1; omega), tupA]; exact fin_pure rfl
  by_cases h6 : 6 < n
  · simp only [dF h0, dT h6, cond_true, cond_false, bindO_some, dF (show ¬ costP n c from fun hh => by have := hh.1.2; omega), tupA]; exact fin_pure rfl
  have h1 : 1 ≤ n ∧ n ≤ 6 := by omega
  obtain ⟨e1, e2⟩ := shl_n h1.1 h1.2
  rw [ltI_eq] at e1
  simp only [dF h0, dF h6, cond_false, len_row ha, bindO_some, asI_i, e1, e2, chk_true, forceI_eq, eqI_eq]
  by_cases h2 : (c.length : Int) = ((2 ^ n.toNat : Nat) : Int)
  · have hc : 0 < c.length := by have := pow_pos n.toNat; omega
    obtain ⟨p, q1, q2, q3⟩ := at_row (m := ⟨h, h.length, h.length⟩) rfl ha hc
    have e0 : ((0 : Nat) : Int) = 0 := rfl
    rw [e0] at q1
    have b2 : ((c.length : Int) == ((2 ^ n.toNat : Nat) : Int)) = true := by rw [h2]; simp
    simp only [b2, Bool.not_true, cond_false, q1, q2, bindO_some, asI_i, eqI_eq]
    by_cases h3 : c.getD 0 0 = 0
    · have b3 : (c.getD 0 0 == 0) = true := by rw [h3]; rfl
      simp only [b3, Bool.not_true, cond_false]
      have hloop := loop_if (b := fun s : Int => g48_b3 (meansX F1 ro) ro a ⟨h, h.length, h.length⟩ s) (fun i => (i : Int)) c.length (fun i => -1000000 ≤ c.getD i 0 ∧ c.getD i 0 ≤ 1000000) (.inl ()) (.inr false) ?_ ?_ ?_
      · rw [e0] at hloop
        rw [hloop]
        by_cases hf : withinP c 1000000
        · rw [if_pos (show ∀ i, i < c.length → _ from hf)]
          simp only [bindO_some, dT (show costP n c from ⟨h1, h2, h3, hf⟩), tupA]; exact fin_pure rfl
        · rw [if_neg (show ¬ ∀ i, i < c.length → _ from hf)]
          simp only [bindO_some, dF (show ¬ costP n c from fun hh => hf hh.2.2.2), tupA]; exact fin_pure rfl
      · simp only [g48_b3, len_row ha, bindO_some, asI_i, forceB_eq, ltI_eq, lt_no, cond_false]
      · intro i hi hp
        obtain ⟨p, q1, q2, q3⟩ := at_row (m := ⟨h, h.length, h.length⟩) rfl ha hi
        simp only [g48_b3, len_row ha, bindO_some, asI_i, forceB_eq, ltI_eq, lt_yes hi, cond_true, q1, q2, dF (show ¬ c.getD i 0 < -1000000 by omega), dF (show ¬ (1000000 : Int) < c.getD i 0 by omega), cond_false, forceI_eq]
        rw [wr_id' (by omega) (by omega)]; rfl
      · intro i hi hp
        obtain ⟨p, q1, q2, q3⟩ := at_row (m := ⟨h, h.length, h.length⟩) rfl ha hi
        by_cases hlo : c.getD i 0 < -1000000
        · simp only [g48_b3, len_row ha, bindO_some, asI_i, forceB_eq, ltI_eq, lt_yes hi, cond_true, q1, q2, dT hlo]
        · simp only [g48_b3, len_row ha, bindO_some, asI_i, forceB_eq, ltI_eq, lt_yes hi, cond_true, q1, q2, dF hlo, cond_false, dT (show (1000000 : Int) < c.getD i 0 by omega)]
    · have b3 : (c.getD 0 0 == 0) = false := by simpa using h3
      simp only [b3, Bool.not_false, cond_true, dF (show ¬ costP n c from fun hh => h3 hh.2.2.1), tupA]; exact fin_pure rfl
  · have b2 : ((c.length : Int) == ((2 ^ n.toNat : Nat) : Int)) = false := by simpa using h2
    simp only [b2, Bool.not_false, cond_true, bindO_some, dF (show ¬ costP n c from fun hh => h2 hh.2.1), tupA]; exact fin_pure rfl
end
end Go.Proofs.Ythdglempcfknhaa.T

/- Tests as function values, the groups that pass them. -/
open Go.Vm
set_option linter.unusedVariables false
namespace Go.Proofs.Ythdglempcfknhaa.T
open Go

/-- a function value that answers a test for groups below N, whatever more there is in memory -/
def IsTest (ro : List ABlk) (h : Heap) (v : AVal) (N : Nat) (P : Nat → Bool) : Prop :=
  ∃ f capt, v = .fn f [] capt ∧ ∀ H, Keep h H → ∀ g, g < N → callX F1 ro f ([] ++ [.i .i64 (g : Int)] ++ capt) H = some (.b (P g), H, H.length, H.length)
theorem IsTest.by {ro : List ABlk} {h H : Heap} {v : AVal} {N : Nat} {P : Nat → Bool} (a : IsTest ro h v N P) (k : Keep h H) : IsTest ro H v N P := by
  obtain ⟨f, c, rfl, h1⟩ := a
  exact ⟨f, c, rfl, fun H' k' => h1 H' (k.trans k')⟩
abbrev tru : Nat → Bool := fun _ => true
def IsTests (ro : List ABlk) (h : Heap) (v : AVal) (N : Nat) (Ps : List (Nat → Bool)) : Prop :=
  (v = .nsl ∧ Ps = []) ∨ ∃ q cap blk, v = .sl q Ps.length cap ∧ rdB ro h q = some blk ∧ q.off + Ps.length ≤ blk.n ∧ ∀ j, j < Ps.length → IsTest ro h (blk.c.get (q.off + j)) N (Ps.getD j tru)
theorem rdB_keep {ro : List ABlk} {h H : Heap} {q : Vm.Loc} {blk : ABlk} (k : Keep h H) (a : rdB ro h q = some blk) : rdB ro H q = some blk := by
  rw [take_eq k.1 k.2]; exact rdB_ext _ a
theorem IsTests.by {ro : List ABlk} {h H : Heap} {v : AVal} {N : Nat} {Ps : List (Nat → Bool)} (a : IsTests ro h v N Ps) (k : Keep h H) : IsTests ro H v N Ps := by
  rcases a with h1 | ⟨q, cap, blk, rfl, h1, h2, h3⟩
  · exact .inl h1
  · exact .inr ⟨q, cap, blk, rfl, rdB_keep k h1, h2, fun j hj => (h3 j hj).by k⟩
/-- a list in memory that a function made itself -/
def New (L : Nat) (v : AVal) : Prop := v = .nsl ∨ ∃ b n cap, v = .sl ⟨false, b, 0⟩ n cap ∧ L ≤ b
theorem GV.new {hp : Heap} {L e es k : Nat} {v : AVal} {cs : List AVal} (g : GV hp L e es v k cs) : New L v := by
  rcases g with ⟨rfl, -⟩ | ⟨b, blk, rfl, -, hL, -⟩
  · exact .inl rfl
  · exact .inr ⟨b, _, _, rfl, hL⟩
/-- such a list is kept if its memory is -/
theorem New.row {ro : List ABlk} {H H' : Heap} {L : Nat} {v : AVal} {z : List Int} (n : New L v) (a : IsRow ro H v z) (h : ∀ b, L ≤ b → b < H.length → H'[b]? = H[b]?) : IsRow ro H' v z := by
  rcases n with rfl | ⟨b, m, cap, rfl, hL⟩
  · rcases a with ⟨-, rfl⟩ | ⟨q, cap, blk, e, -⟩
    · exact .inl ⟨rfl, rfl⟩
    · cases e
  · rcases a with ⟨e, -⟩ | ⟨q, cap', blk, e, hb, hn, hc⟩
    · cases e
    · cases e
      refine .inr ⟨_, _, blk, rfl, ?_, hn, hc⟩
      have hlt := rdB_lt hb
      unfold rdB at hb ⊢
      simp only [cond_false, Bool.false_or] at hb hlt ⊢
      rw [lget_of (h b hL (by simpa [Nat.blt_eq] using hlt))]; exact hb
section
variable {ro : List ABlk} {h : Heap} {v : AVal} {N : Nat} {Ps : List (Nat → Bool)}
theorem len_tests (a : IsTests ro h v N Ps) : evP .e (.len false (.c v)) = some (.i .i64 (Ps.length : Int)) := by
  rcases a with ⟨rfl, rfl⟩ | ⟨q, cap, blk, rfl, -⟩
  · rfl
  · simp [evP, ev_len, opd, mkI_eq]
theorem all_iff (g : Nat) : (Ps.all fun P => P g) = true ↔ ∀ i, i < Ps.length → Ps.getD i tru g = true := by
  rw [List.all_eq_true]
  constructor
  · intro hh i hi
    have : Ps.getD i tru = Ps[i] := by simp [List.getD, hi]
    rw [this]; exact hh _ (List.getElem_mem hi)
  · intro hh P hP
    obtain ⟨i, hi, rfl⟩ := List.getElem_of_mem hP
    have := hh i hi
    simpa [List.getD, hi] using this
theorem passes88 (a : IsTests ro h v N Ps) (hl : Ps.length ≤ 1000) {g : Nat} (hg : g < N) : callX F1 ro 88 [.i .i64 (g : Int), v] h = some (.b (Ps.all fun P => P g), h, h.length, h.length) := by
  refine g88_ok (meansX_ok F1 ro) rfl ?_
  unfold g88
  simp only [len_tests a, bindO_some, asI_i, meansX_loop]
  have at_t : ∀ i, i < Ps.length → ∃ p f capt, evP .e (.ixS 1 (.c v) (.c (.i .i64 (i : Int)))) = some p ∧ ldM ro ⟨h, h.length, h.length⟩ true 1 p = some (.fn f [] capt) ∧ callX F1 ro f ([] ++ [.i .i64 (g : Int)] ++ capt) h = some (.b (Ps.getD i tru g), h, h.length, h.length) := by
    intro i hi
    rcases a with ⟨rfl, rfl⟩ | ⟨q, cap, blk, rfl, h1, h2, h3⟩
    · simp at hi
    · obtain ⟨f, c, e, h4⟩ := h3 i hi
      have h5 := rd_one (i := i) h1 (by omega)
      exact ⟨_, f, c, ixS_eq hi, by simp only [ldM, h5, e], h4 h (Keep.refl h) g hg⟩
  have hloop := loop_if (b := fun s : Int × Mm => g88_b0 (meansX F1 ro) ro (g : Int) v Ps.length s.1 s.2) (fun i => ((i : Int), (⟨h, h.length, h.length⟩ : Mm))) Ps.length (fun i => Ps.getD i tru g = true) (.inl ⟨h, h.length, h.length⟩) (.inr (false, ⟨h, h.length, h.length⟩)) ?_ ?_ ?_
  · have e0 : ((0 : Nat) : Int) = 0 := rfl
    rw [e0] at hloop
    rw [hloop]
    by_cases hf : ∀ i, i < Ps.length → Ps.getD i tru g = true
    · rw [if_pos hf, (all_iff g).2 hf]
      simp only [bindO_some, tupA]; exact fin_pure rfl
    · have : (Ps.all fun P => P g) = false := by
        cases hh : (Ps.all fun P => P g)
        · rfl
        · exact absurd ((all_iff g).1 hh) hf
      rw [if_neg hf, this]
      simp only [bindO_some, tupA]; exact fin_pure rfl
  · simp only [g88_b0, forceB_eq, ltI_eq, lt_no, cond_false]
  · intro i hi hp
    obtain ⟨p, f, c, q1, q2, q3⟩ := at_t i hi
    simp only [g88_b0, forceB_eq, ltI_eq, lt_yes hi, cond_true, q1, q2, bindO_some, callyM, callvM, meansX_call, cp0 q3, bindP_some, asB_b, hp, Bool.not_true, cond_false, forceI_eq]
    rw [wr_id' (by omega) (by omega)]; rfl
  · intro i hi hp
    obtain ⟨p, f, c, q1, q2, q3⟩ := at_t i hi
    have hp' : Ps.getD i tru g = false := by simpa using hp
    simp only [g88_b0, forceB_eq, ltI_eq, lt_yes hi, cond_true, q1, q2, bindO_some, callyM, callvM, meansX_call, cp0 q3, bindP_some, asB_b, hp', Bool.not_false]
/-- the groups below N that pass all tests -/
def grp (N : Nat) (Ps : List (Nat → Bool)) : List Nat := (List.range N).filter fun g => Ps.all fun P => P g
theorem filter_succ (f : Nat → Bool) (i : Nat) : (List.range (i + 1)).filter f = (List.range i).filter f ++ cond (f i) [i] [] := by
  rw [List.range_succ, List.filter_append]
  cases h : f i <;> simp [h]
theorem groups45N {k : Nat} (hk : k ≤ 6) (hN : N = 2 ^ k) (a : IsTests ro h v N Ps) (hl : Ps.length ≤ 1000) :
    ∃ out H, callX F1 ro 45 [.i .i64 (k : Int), v] h = some (out, H, h.length, h.length) ∧ Keep h H ∧ IsRow ro H out (nts (grp N Ps)) ∧ New h.length out := by
  have h64 : N ≤ 64 := by rw [hN]; exact pow6 hk
  have key : ∃ r, loopX (fun s : AVal × Int × Mm => g45_b0 (meansX F1 ro) ro v ((N : Nat) : Int) s.1 s.2.1 s.2.2) (AVal.nsl, 0, ⟨h, h.length, h.length⟩) = some r ∧ ∃ w H, r = (w, ⟨H, h.length, h.length⟩) ∧ Keep h H ∧ IsRow ro H w (nts (grp N Ps)) ∧ New h.length w := by
    refine loop_gen N (fun i s => ∃ w H, s = (w, (i : Int), ⟨H, h.length, h.length⟩) ∧ Keep h H ∧ GV H h.length 3 1 w ((List.range i).filter fun g => Ps.all fun P => P g).length ((nts ((List.range i).filter fun g => Ps.all fun P => P g)).map (AVal.i .i64))) _ ?_ ?_ N 0 _ (by omega) ⟨.nsl, h, rfl, Keep.refl h, GV.nil _ _ _ _⟩
    · rintro i s hi ⟨w, H, rfl, kp, g⟩
      have hlen : ((List.range i).filter fun g => Ps.all fun P => P g).length ≤ 100000 := by
        have := List.length_filter_le (fun g => Ps.all fun P => P g) (List.range i)
        rw [List.length_range] at this
        omega
      have hpass := passes88 (a.by kp) hl (g := i) (by omega)
      simp only [g45_b0, forceB_eq, ltI_eq, lt_yes hi, cond_true, meansX_call, callM_pure hpass kp.1 kp.1, bindP_some, asB_b]
      rw [filter_succ]
      cases hf : (Ps.all fun P => P i)
      · simp only [cond_false, bindO_some, forceI_eq, wr_next (show i ≤ 1000000 by omega)]
        exact ⟨_, rfl, w, H, rfl, kp, by simpa using g⟩
      · obtain ⟨v2, hp2, v3, hp3, s1, s2, g2, k1, k2⟩ := GV.push (ro := ro) (L0 := h.length) (bytes := 8) (z := [AVal.i .i64 0]) (w := .i .i64 (i : Int)) (ws := [.i .i64 (i : Int)]) g (Nat.le_refl _) kp.1 hlen (by omega) (by omega) rfl rfl rfl rfl rfl
        simp only [cond_true, s1, bindP_some, s2, bindO_some, forceI_eq, wr_next (show i ≤ 1000000 by omega)]
        refine ⟨_, rfl, v3, hp3, rfl, ⟨Nat.le_trans kp.1 k1, fun j hj => by rw [k2 j hj, kp.2 j hj]⟩, ?_⟩
        rw [List.length_append, nts_app]
        simpa using g2
    · rintro s ⟨w, H, rfl, kp, g⟩
      simp only [g45_b0, forceB_eq, ltI_eq, lt_no, cond_false]
      exact ⟨_, rfl, w, H, rfl, kp, GV.row g (by rw [nts_len]; rfl), g.new⟩
  obtain ⟨r, h1, w, H, rfl, kp, hrow, hnew⟩ := key
  obtain ⟨H', f1, f2, f3⟩ := fin_rowW (w := w) kp hrow rfl
  refine ⟨w, H', g45_ok (meansX_ok F1 ro) rfl ?_, f2, f3, hnew⟩
  unfold g45
  have hs : shlV .i64 1 (k : Int) = ((N : Nat) : Int) := by rw [hN]; exact shl1 (by omega)
  simp only [neg_ltI, chk_true, forceI_eq, hs, meansX_loop]
  rw [h1]
  simp only [bindO_some, tupA]
  exact f1
theorem groups45 {k : Nat} (hk : k ≤ 6) (hN : N = 2 ^ k) (a : IsTests ro h v N Ps) (hl : Ps.length ≤ 1000) :
    ∃ out H, callX F1 ro 45 [.i .i64 (k : Int), v] h = some (out, H, h.length, h.length) ∧ Keep h H ∧ IsRow ro H out (nts (grp N Ps)) := by
  obtain ⟨out, H, h1, h2, h3, -⟩ := groups45N hk hN a hl
  exact ⟨out, H, h1, h2, h3⟩
end
theorem row_cells {ro : List ABlk} {h : Heap} {v : AVal} {z : List Int} (a : IsRow ro h v z) : v.cells = [v] ∧ v.one = true := by
  rcases a with ⟨rfl, -⟩ | ⟨q, cap, blk, rfl, -⟩ <;> exact ⟨rfl, rfl⟩
theorem bx1 {ro : List ABlk} {hp : Heap} {l p e : Nat} {v : AVal} (hv : v.cells = [v]) : stepM ro ⟨hp, l, p⟩ (.bx e 1 (.c v)) = some (.p (some ⟨false, hp.length, 0⟩), ⟨hp ++ [some (blkOf e [v])], l, p⟩) := by
  simp only [stepM, stepK, opd, st_bx, hv]
  rfl
/-- a captured variable -/
theorem cap_ld {ro : List ABlk} {hp : Heap} {b l p : Nat} {v : AVal} (a : Holds hp b [v]) : ldM ro ⟨hp, l, p⟩ true 1 (.p (some ⟨false, b, 0⟩)) = some v := a.one (k := 0) (by simp)
theorem cap_ldA {ro : List ABlk} {hp : Heap} {b : Nat} {v : AVal} (a : Holds hp b [v]) : ldA ro hp true 1 (.p (some ⟨false, b, 0⟩)) = some v := a.oneA (k := 0) (by simp)
/-- slices of tests -/
theorem tests1 {ro : List ABlk} {h : Heap} {N l p : Nat} {v : AVal} {P : Nat → Bool} (a : IsTest ro h v N P) : ∃ u H, stepM ro ⟨h, l, p⟩ (.bsl 53 1 [AVal.nfn] 1 [((0, 1), .c v)]) = some (u, ⟨H, l, p⟩) ∧ Keep h H ∧ IsTests ro H u N [P] := by
  have a' := a
  obtain ⟨f, c, rfl, -⟩ := a'
  refine ⟨.sl ⟨false, h.length, 0⟩ 1 (.known 1), h ++ [some (blkOf 53 [.fn f [] c])], rfl, Keep.app _, .inr ⟨⟨false, h.length, 0⟩, .known 1, blkOf 53 [.fn f [] c], rfl, rdB_heap (lget_last _ _) 0, by simp [blkOf], fun j hj => ?_⟩⟩
  obtain rfl : j = 0 := by simp at hj; omega
  rw [Nat.zero_add, get_blk]
  exact a.by (Keep.app _)
theorem tests2 {ro : List ABlk} {h : Heap} {N l p : Nat} {v w : AVal} {P Q : Nat → Bool} (a : IsTest ro h v N P) (b : IsTest ro h w N Q) : ∃ u H, stepM ro ⟨h, l, p⟩ (.bsl 53 1 [AVal.nfn] 2 [((0, 1), .c v), ((1, 1), .c w)]) = some (u, ⟨H, l, p⟩) ∧ Keep h H ∧ IsTests ro H u N [P, Q] := by
  have a' := a; have b' := b
  obtain ⟨f, c, rfl, -⟩ := a'
  obtain ⟨f2, c2, rfl, -⟩ := b'
  refine ⟨.sl ⟨false, h.length, 0⟩ 2 (.known 2), h ++ [some (blkOf 53 [.fn f [] c, .fn f2 [] c2])], rfl, Keep.app _, .inr ⟨⟨false, h.length, 0⟩, .known 2, blkOf 53 [.fn f [] c, .fn f2 [] c2], rfl, rdB_heap (lget_last _ _) 0, by simp [blkOf], fun j hj => ?_⟩⟩
  have hj2 : j = 0 ∨ j = 1 := by simp at hj; omega
  rcases hj2 with rfl | rfl
  · rw [Nat.zero_add, get_blk]
    exact a.by (Keep.app _)
  · rw [Nat.zero_add, get_blk]
    exact b.by (Keep.app _)
end Go.Proofs.Ythdglempcfknhaa.T

/- The tests, what a group pays. -/
open Go.Vm
set_option linter.unusedVariables false
namespace Go.Proofs.Ythdglempcfknhaa.T
open Go

abbrev cs (c : List Int) (g : Nat) : Int := c.getD g 0
/-- what a group pays, of the first i gardeners -/
def payS (s : List Int) (g : Nat) : Nat → Int
  | 0 => 0
  | i + 1 => payS s g i + cond (g.testBit i) (s.getD i 0) 0
theorem payS_succ (s : List Int) (g i : Nat) : payS s g (i + 1) = payS s g i + cond (g.testBit i) (s.getD i 0) 0 := rfl
theorem payS_bd {s : List Int} {L : Int} (hs : withinP s L) (hL : 0 ≤ L) (g : Nat) : ∀ i, i ≤ s.length → -(L * i) ≤ payS s g i ∧ payS s g i ≤ L * i
  | 0, _ => by simp [payS]
  | i + 1, hi => by
    obtain ⟨h1, h2⟩ := payS_bd hs hL g i (by omega)
    obtain ⟨h3, h4⟩ := hs i (by omega)
    have e : L * ((i + 1 : Nat) : Int) = L * i + L := by rw [Int.natCast_add, Int.mul_add]; simp
    rw [e, payS_succ]
    cases g.testBit i
    · simp only [cond_false]; omega
    · simp only [cond_true]; omega
def brk (c : List Int) (a b : Nat) : Bool := decide (cs c a + cs c b < cs c (a ||| b) + cs c (a &&& b))
section
variable {ro : List ABlk} {h : Heap} {a b : AVal} {c s : List Int} {N : Nat}
theorem payS_bd6 (hs : withinP s 6000000) (g : Nat) {i : Nat} (hi : i ≤ s.length) (hl : s.length ≤ 1000) : -6000000000 ≤ payS s g i ∧ payS s g i ≤ 6000000000 := by
  have := payS_bd hs (by omega) g i hi
  omega
theorem total67 (ha : IsRow ro h a s) (hs : withinP s 6000000) (hl : s.length ≤ 60) {g : Nat} (hg : g < 9223372036854775808) : callX F1 ro 67 [a, .i .i64 (g : Int)] h = some (.i .i64 (payS s g s.length), h, h.length, h.length) := by
  refine g67_ok (meansX_ok F1 ro) rfl ?_
  unfold g67
  simp only [len_row ha, bindO_some, asI_i, meansX_loop]
  have hloop := loop_run (b := fun t : Int × Int × Mm => g67_b0 (meansX F1 ro) ro (g : Int) a s.length t.1 t.2.1 t.2.2) (fun i => (payS s g i, (i : Int), (⟨h, h.length, h.length⟩ : Mm))) s.length (r0 := (payS s g s.length, ⟨h, h.length, h.length⟩)) ?_ ?_
  · have e0 : (payS s g 0, ((0 : Nat) : Int), (⟨h, h.length, h.length⟩ : Mm)) = (0, 0, ⟨h, h.length, h.length⟩) := rfl
    rw [e0] at hloop
    rw [hloop]
    simp only [bindO_some, tupA]; exact fin_pure rfl
  · simp only [g67_b0, forceB_eq, ltI_eq, lt_no, cond_false]
  · intro i hi
    obtain ⟨p, q1, q2, q3⟩ := at_row (m := ⟨h, h.length, h.length⟩) rfl ha hi
    have hb := payS_bd6 hs g (i := i + 1) (by omega) (by omega)
    simp only [g67_b0, forceB_eq, ltI_eq, lt_yes hi, cond_true, q1, q2, bindO_some, asI_i, meansX_call, cp0 (has60 (k := i) hg (by omega)), bindP_some, asB_b]
    rw [payS_succ] at hb
    simp only [payS_succ]
    cases ht : g.testBit i
    · simp only [cond_false, bindO_some, forceI_eq, wr_next (show i ≤ 1000000 by omega), Int.add_zero]
    · rw [ht] at hb
      simp only [cond_true] at hb
      simp only [cond_true, bindO_some, forceI_eq, wr_next (show i ≤ 1000000 by omega)]
      rw [wr_id' (by omega) (by omega)]
/-- a function value that captures something new -/
theorem fin_fn {H : Heap} {f : Nat} {l : List AVal} {b : Nat} {w : AVal} (kp : Keep h H) (hw : w = .fn f [] l) (hm : AVal.p (some ⟨false, b, 0⟩) ∈ l) (hb : h.length ≤ b) : finM h.length w ⟨H, h.length, h.length⟩ = some (w, H, h.length, h.length) := by
  obtain ⟨H', h1, h2, h3⟩ := fin_any (w := w) kp
  have : w.bel h.length = false := by
    subst hw
    have : ∀ l : List AVal, AVal.p (some ⟨false, b, 0⟩) ∈ l → bels h.length l = false := by
      intro l hl
      induction l with
      | nil => cases hl
      | cons x l ih =>
        rcases List.mem_cons.1 hl with e | hl
        · subst e
          have : Nat.blt b h.length = false := by
            cases hh : Nat.blt b h.length
            · rfl
            · rw [Nat.blt_eq] at hh; omega
          simp [bels, AVal.bel, this]
        · simp [bels, ih hl]
    simp [AVal.bel, bels, this l hm]
  rw [h3 this] at h1
  exact h1
theorem above46 {x : Nat} : ∃ v H, callX F1 ro 46 [.i .i64 (x : Int)] h = some (v, H, h.length, h.length) ∧ Keep h H ∧ IsTest ro H v N fun g => decide (x < g) := by
  have hold : Holds (h ++ [some (blkOf 3 [.i .i64 (x : Int)])]) h.length [.i .i64 (x : Int)] := Holds.new _ _ _
  have kp : Keep h (h ++ [some (blkOf 3 [.i .i64 (x : Int)])]) := Keep.app _
  refine ⟨.fn 89 [] [.p (some ⟨false, h.length, 0⟩)], h ++ [some (blkOf 3 [.i .i64 (x : Int)])], g46_ok (meansX_ok F1 ro) rfl ?_, kp, _, _, rfl, fun H k g hg => ?_⟩
  · unfold g46
    simp only [bx1 (show (AVal.i .i64 (x : Int)).cells = [.i .i64 (x : Int)] from rfl), bindP_some, bindO_some, tupA]
    exact fin_fn kp rfl (by simp) (Nat.le_refl _)
  · refine g89_ok (meansX_ok F1 ro) rfl ?_
    unfold g89
    simp only [cap_ld (hold.by k), bindO_some, asI_i, forceB_eq, ltI_eq, tupA]
    have e : decide ((x : Int) < (g : Int)) = decide (x < g) := decide_eq_decide.2 (by omega)
    rw [e]
    exact fin_pure rfl
theorem two_cap {e1 e2 : Nat} {v w : AVal} (hp : Heap) : Keep hp (hp ++ [some (blkOf e1 [v])] ++ [some (blkOf e2 [w])]) ∧ Holds (hp ++ [some (blkOf e1 [v])] ++ [some (blkOf e2 [w])]) hp.length [v] ∧ Holds (hp ++ [some (blkOf e1 [v])] ++ [some (blkOf e2 [w])]) (hp.length + 1) [w] := by
  refine ⟨(Keep.app _).trans (Keep.app _), (Holds.new _ _ _).ext _, ?_⟩
  have := Holds.new (hp ++ [some (blkOf e1 [v])]) e2 [w]
  rwa [List.length_append, List.length_singleton] at this
theorem breaks47 {k : Nat} (hN : N = 2 ^ k) (hk : k ≤ 6) (ha : IsRow ro h a c) (hc : c.length = N) (hw : withinP c 1000000) {x : Nat} (hx : x < N) : ∃ v H, callX F1 ro 47 [a, .i .i64 (x : Int)] h = some (v, H, h.length, h.length) ∧ Keep h H ∧ IsTest ro H v N (brk c x) := by
  obtain ⟨kp, o1, o2⟩ := two_cap (e1 := 22) (e2 := 3) (v := a) (w := .i .i64 (x : Int)) h
  obtain ⟨H, hH⟩ : ∃ H, H = h ++ [some (blkOf 22 [a])] ++ [some (blkOf 3 [.i .i64 (x : Int)])] := ⟨_, rfl⟩
  rw [← hH] at kp o1 o2
  have h64 : N ≤ 64 := by rw [hN]; exact pow6 hk
  refine ⟨.fn 90 [] [.p (some ⟨false, h.length, 0⟩), .p (some ⟨false, h.length + 1, 0⟩)], H, g47_ok (meansX_ok F1 ro) rfl ?_, kp, _, _, rfl, fun H' k' g hg => ?_⟩
  · unfold g47
    simp only [bx1 (row_cells ha).1, bx1 (show (AVal.i .i64 (x : Int)).cells = [.i .i64 (x : Int)] from rfl), bindP_some, bindO_some, tupA, List.length_append, List.length_singleton, ← hH]
    exact fin_fn kp rfl (by simp) (Nat.le_refl _)
  · refine g90_ok (meansX_ok F1 ro) rfl ?_
    unfold g90
    have ko : x ||| g < N := by rw [hN] at hx hg ⊢; exact Nat.or_lt_two_pow hx hg
    have ka : x &&& g < N := by rw [hN] at hx ⊢; exact Nat.lt_of_le_of_lt Nat.and_le_left hx
    have r := row_by ha (kp.trans k')
    obtain ⟨p1, u1, -, u2⟩ := at_row (m := ⟨H', H'.length, H'.length⟩) rfl r (show x < c.length by omega)
    obtain ⟨p2, v1, -, v2⟩ := at_row (m := ⟨H', H'.length, H'.length⟩) rfl r (show g < c.length by omega)
    obtain ⟨p3, w1, -, w2⟩ := at_row (m := ⟨H', H'.length, H'.length⟩) rfl r (show x ||| g < c.length by omega)
    obtain ⟨p4, y1, -, y2⟩ := at_row (m := ⟨H', H'.length, H'.length⟩) rfl r (show x &&& g < c.length by omega)
    have b1 := hw x (by omega); have b2 := hw g (by omega); have b3 := hw (x ||| g) (by omega); have b4 := hw (x &&& g) (by omega)
    simp only [cap_ldA (o1.by k'), cap_ldA (o2.by k'), bindO_some, asI_i, u1, u2, v1, v2, forceI_eq, or64 (show x < 9223372036854775808 by omega) (show g < 9223372036854775808 by omega), and64 (show x < 9223372036854775808 by omega) (show g < 9223372036854775808 by omega), w1, w2, y1, y2, forceB_eq, ltI_eq, tupA]
    rw [wr_id' (by omega) (by omega), wr_id' (by omega) (by omega)]
    exact fin_pure rfl
theorem pays66 (hN : N ≤ 64) (ha : IsRow ro h a c) (hc : c.length = N) (hb : IsRow ro h b s) (hs : withinP s 6000000) (hl : s.length ≤ 60) : ∃ v H, callX F1 ro 66 [a, b] h = some (v, H, h.length, h.length) ∧ Keep h H ∧ IsTest ro H v N fun g => decide (cs c g < payS s g s.length) := by
  obtain ⟨kp, o1, o2⟩ := two_cap (e1 := 22) (e2 := 22) (v := a) (w := b) h
  obtain ⟨H, hH⟩ : ∃ H, H = h ++ [some (blkOf 22 [a])] ++ [some (blkOf 22 [b])] := ⟨_, rfl⟩
  rw [← hH] at kp o1 o2
  refine ⟨.fn 95 [] [.p (some ⟨false, h.length + 1, 0⟩), .p (some ⟨false, h.length, 0⟩)], H, g66_ok (meansX_ok F1 ro) rfl ?_, kp, _, _, rfl, fun H' k' g hg => ?_⟩
  · unfold g66
    simp only [bx1 (row_cells ha).1, bx1 (row_cells hb).1, bindP_some, bindO_some, tupA, List.length_append, List.length_singleton, ← hH]
    exact fin_fn kp rfl (b := h.length) (by simp) (Nat.le_refl _)
  · refine g95_ok (meansX_ok F1 ro) rfl ?_
    unfold g95
    have ra := row_by ha (kp.trans k')
    have rb := row_by hb (kp.trans k')
    obtain ⟨p2, v1, -, v2⟩ := at_row (m := ⟨H', H'.length, H'.length⟩) rfl ra (show g < c.length by omega)
    have hlt : Nat.blt H'.length H'.length = false := by
      cases hh : Nat.blt H'.length H'.length
      · rfl
      · rw [Nat.blt_eq] at hh; omega
    simp only [bindO_some, Mm.base, cap_ld (o2.by k'), meansX_call, cp0 (total67 rb hs hl (g := g) (by omega)), bindP_some, asI_i, hlt, Bool.not_false, chk_true, cap_ldA (o1.by k'), v1, v2, forceB_eq, ltI_eq, Mm.join, Nat.min_self, tupA]
    exact fin_pure rfl
end
end Go.Proofs.Ythdglempcfknhaa.T

/- Check: the first groups for which a cost is not submodular. -/
open Go.Vm
set_option linter.unusedVariables false
namespace Go.Proofs.Ythdglempcfknhaa.T
open Go

/-- the groups after a with which a breaks -/
def badG (c : List Int) (N a : Nat) : List Nat := grp N [fun g => decide (a < g), brk c a]
def badS (c : List Int) (N a : Nat) : Option (Nat × Nat) := (badG c N a).head?.map fun b => (a, b)
def bad (c : List Int) : Option (Nat × Nat) := firstS (badS c c.length) c.length 0
def chkT (n : Int) (c : List Int) : Int × Int × Int := if costP n c then (match bad c with | none => (0, 0, 10) | some (a, b) => ((a : Int), (b : Int), 0)) else (0, 0, 2)
def errS (n : Int) (c : List Int) : Int := if costP n c then (match bad c with | none => 0 | some _ => 5) else 2
def tupT (t : Int × Int × Int) : AVal := .tup [.i .i64 t.1, .i .i64 t.2.1, .i .i64 t.2.2]
theorem first_head {R : Type} (p : Nat → Bool) (f : Nat → R) (N i : Nat) (hi : i ≤ N) : firstS (fun b => if p b = true then some (f b) else none) (N - i) i = ((List.range N).filter fun g => decide (i ≤ g) && p g).head?.map f := by
  rw [List.head?_filter]
  cases hh : (List.range N).find? fun g => decide (i ≤ g) && p g with
  | none =>
    rw [List.find?_range_eq_none] at hh
    refine firstS_none.2 fun j h1 h2 => ?_
    have := hh j (by omega)
    have h3 : p j = false := by simpa [h1] using this
    simp [h3]
  | some b =>
    rw [List.find?_range_eq_some] at hh
    obtain ⟨h1, h2, h3⟩ := hh
    simp only [Bool.and_eq_true, decide_eq_true_eq] at h1
    refine firstS_at h1.1 (by simp at h2; omega) (fun j' h4 h5 => ?_) (by simp [h1.2])
    have := h3 j' h5
    have h6 : p j' = false := by simpa [h4] using this
    simp [h6]
theorem badS_first (c : List Int) {N a : Nat} (ha : a < N) : firstS (fun b => if brk c a b = true then some (a, b) else none) (N - (a + 1)) (a + 1) = badS c N a := by
  rw [first_head (brk c a) (fun b => (a, b)) N (a + 1) (by omega)]
  unfold badS badG grp
  congr 2
  refine List.filter_congr fun g _ => ?_
  simp only [List.all_cons, List.all_nil, Bool.and_true]
  rfl
section
variable {ro : List ABlk} {h : Heap} {a b : AVal} {c s : List Int}
theorem at_nts {ro : List ABlk} {h : Heap} {v : AVal} {z : List Nat} (hr : IsRow ro h v (nts z)) {i : Nat} (hi : i < z.length) : ∃ p, evP .e (.ixS 1 (.c v) (.c (.i .i64 (i : Int)))) = some p ∧ ∀ {hp : Heap} {l q : Nat}, Keep h hp → ldM ro ⟨hp, l, q⟩ true 1 p = some (.i .i64 ((z.getD i 0 : Nat) : Int)) ∧ ldA ro hp true 1 p = some (.i .i64 ((z.getD i 0 : Nat) : Int)) := by
  obtain ⟨p, h1, h2⟩ := at_rowK hr (i := i) (by rw [nts_len]; exact hi)
  refine ⟨p, h1, fun {hp l q} k => ?_⟩
  have := h2 (l := l) (q := q) k
  rw [nts_get] at this
  exact this
theorem costN {n : Int} (hp : costP n c) : ∃ k : Nat, n = (k : Int) ∧ 1 ≤ k ∧ k ≤ 6 ∧ c.length = 2 ^ k ∧ c.length ≤ 64 := by
  obtain ⟨⟨h1, h2⟩, h3, -⟩ := hp
  refine ⟨n.toNat, by omega, by omega, by omega, by omega, ?_⟩
  have := pow6 (k := n.toNat) (by omega)
  omega
theorem grp_all (N : Nat) : grp N [] = List.range N := by
  unfold grp
  simp
/-- all groups -/
theorem all45 {k : Nat} (hk : k ≤ 6) : ∃ out H, callX F1 ro 45 [.i .i64 (k : Int), .nsl] h = some (out, H, h.length, h.length) ∧ Keep h H ∧ IsRow ro H out (nts (List.range (2 ^ k))) := by
  obtain ⟨out, H, h1, h2, h3⟩ := groups45 (ro := ro) (h := h) (v := .nsl) (N := 2 ^ k) (Ps := []) hk rfl (.inl ⟨rfl, rfl⟩) (by simp)
  rw [grp_all] at h3
  exact ⟨out, H, h1, h2, h3⟩
theorem check16 {n : Int} (ha : IsRow ro h a c) (hl : c.length ≤ 9223372036854775807) : callX F1 ro 16 [.i .i64 n, a] h = some (tupT (chkT n c), h, h.length, h.length) := by
  refine g16_ok (meansX_ok F1 ro) rfl ?_
  unfold g16
  simp only [meansX_call, cp0 (cost44 (n := n) ha hl), bindP_some, asB_b]
  by_cases hc : costP n c
  · obtain ⟨k, rfl, hk1, hk6, hlen, h64⟩ := costN hc
    have hw : withinP c 1000000 := hc.2.2.2
    simp only [dT hc, Bool.not_true, forceB_eq, cond_false]
    obtain ⟨out, H1, q1, kp1, hrow⟩ := all45 (ro := ro) (h := h) hk6
    rw [← hlen] at hrow
    simp only [cM q1 (Nat.le_refl _) (Nat.le_refl _), bindP_some, len_row hrow, nts_len, List.length_range, bindO_some, asI_i, meansX_loop]
    have key : ∃ r, loopX (fun s : Int × Mm => g16_b0 (meansX F1 ro) ro (k : Int) a out ((c.length : Nat) : Int) s.1 s.2) (0, ⟨H1, h.length, h.length⟩) = some r ∧ ∃ H, Keep h H ∧ ((r = .inl ⟨H, h.length, h.length⟩ ∧ bad c = none) ∨ ∃ x y : Nat, r = .inr ((x : Int), (y : Int), 0, ⟨H, h.length, h.length⟩) ∧ bad c = some (x, y)) := by
      refine loop_exit c.length (fun i s => ∃ H, s = ((i : Int), (⟨H, h.length, h.length⟩ : Mm)) ∧ Keep H1 H ∧ ∀ j, j < i → badS c c.length j = none) _ ?_ ?_ c.length 0 _ (by omega) ⟨H1, rfl, Keep.refl _, fun j hj => by omega⟩
      · rintro i s hi ⟨H, rfl, kp, hno⟩
        obtain ⟨p, p1, p2⟩ := at_nts hrow (i := i) (by rw [List.length_range]; exact hi)
        have p3 := (p2 (l := h.length) (q := h.length) kp).1
        have e : (List.range c.length).getD i 0 = i := by simp [List.getD, hi]
        rw [e] at p3
        have kh := kp1.trans kp
        obtain ⟨t1, Ha, a1, ka, ia⟩ := above46 (ro := ro) (h := H) (N := c.length) (x := i)
        obtain ⟨t2, Hb, b1, kb, ib⟩ := breaks47 (h := Ha) hlen hk6 (row_by ha (kh.trans ka)) rfl hw hi
        obtain ⟨u, Hc, c1, kc, ic⟩ := tests2 (l := h.length) (p := h.length) (ia.by kb) ib
        obtain ⟨o2, Hd, d1, kd, rd⟩ := groups45 (ro := ro) (h := Hc) hk6 hlen ic (by simp)
        have kA := kh.trans ka
        have kB := kA.trans kb
        have kC := kB.trans kc
        have kD := kC.trans kd
        have hG : grp c.length [fun g => decide (i < g), brk c i] = badG c c.length i := rfl
        rw [hG] at rd
        simp only [g16_b0, forceB_eq, ltI_eq, lt_yes hi, cond_true, p1, p3, bindO_some, asI_i, meansX_call, cM a1 kh.1 kh.1, bindP_some, cM b1 kA.1 kA.1, c1, cM d1 kC.1 kC.1, len_row rd, nts_len]
        by_cases hb : 0 < (badG c c.length i).length
        · right
          obtain ⟨p', p1', p2'⟩ := at_nts rd (i := 0) hb
          have e0 : ((0 : Nat) : Int) = 0 := rfl
          rw [e0] at p1'
          have p3' := (p2' (l := h.length) (q := h.length) (Keep.refl Hd)).1
          simp only [dT (show (0 : Int) < ((badG c c.length i).length : Int) by omega), cond_true, p1', p3', bindO_some, asI_i]
          refine ⟨_, rfl, Hd, kD, .inr ⟨i, _, rfl, ?_⟩⟩
          refine firstS_at (Nat.zero_le _) (by omega) (fun j' _ hj => hno j' hj) ?_
          unfold badS
          rw [List.head?_eq_getElem?, List.getElem?_eq_getElem hb]
          simp [List.getD, hb]
        · left
          simp only [dF (show ¬ (0 : Int) < ((badG c c.length i).length : Int) by omega), cond_false, forceI_eq, wr_next (show i ≤ 1000000 by omega)]
          refine ⟨_, rfl, Hd, rfl, ((kp.trans ka).trans (kb.trans (kc.trans kd))), fun j hj => ?_⟩
          by_cases hji : j < i
          · exact hno j hji
          · obtain rfl : j = i := by omega
            unfold badS
            rw [List.eq_nil_of_length_eq_zero (by omega : (badG c c.length j).length = 0)]
            rfl
      · rintro s ⟨H, rfl, kp, hno⟩
        simp only [g16_b0, forceB_eq, ltI_eq, lt_no, cond_false]
        exact ⟨_, rfl, H, kp1.trans kp, .inl ⟨rfl, firstS_none.2 fun j _ hj => hno j (by omega)⟩⟩
    obtain ⟨r, e1, H, kp, hr⟩ := key
    rw [e1]
    rcases hr with ⟨rfl, hb⟩ | ⟨x, y, rfl, hb⟩
    · simp only [bindO_some, tupA, chkT, if_pos hc, hb]
      exact fin_keep kp rfl
    · simp only [bindO_some, tupA, chkT, if_pos hc, hb]
      exact fin_keep kp rfl
  · simp only [dF hc, Bool.not_false, forceB_eq, cond_true, tupA, chkT, if_neg hc]
    exact fin_pure rfl
theorem broken49 {n : Int} (hc : costP n c) (ha : IsRow ro h a c) : callX F1 ro 49 [a] h = some (match bad c with | none => .tup [.i .i64 0, .i .i64 0, .b false] | some (x, y) => .tup [.i .i64 x, .i .i64 y, .b true], h, h.length, h.length) := by
  obtain ⟨k, rfl, hk1, hk6, hlen, h64⟩ := costN hc
  have hw : withinP c 1000000 := hc.2.2.2
  refine g49_ok (meansX_ok F1 ro) rfl ?_
  unfold g49
  simp only [meansX_loop]
  let enc : Nat × Nat → Unit ⊕ (Int × Int × Bool) := fun p => .inr ((p.1 : Int), (p.2 : Int), true)
  have inner : ∀ i, i < c.length → loopX (fun s : Int => g49_b1 (meansX F1 ro) ro a (i : Int) ⟨h, h.length, h.length⟩ s) (((i + 1 : Nat) : Int)) = some (((badS c c.length i).map enc).getD (.inl ())) := by
    intro i hi
    have hst := loop_st (b := fun s : Int => g49_b1 (meansX F1 ro) ro a (i : Int) ⟨h, h.length, h.length⟩ s) (fun j => (j : Int)) c.length (fun j => if brk c i j = true then some (enc (i, j)) else none) (.inl ()) ?_ ?_ (c.length - (i + 1)) (i + 1) (by omega)
    · rw [hst, ← badS_first c hi, first_head (brk c i) (fun j => enc (i, j)) c.length (i + 1) (by omega), first_head (brk c i) (fun j => (i, j)) c.length (i + 1) (by omega), Option.map_map]
      rfl
    · simp only [g49_b1, len_row ha, bindO_some, asI_i, forceB_eq, ltI_eq, lt_no, cond_false]
    · intro g hg
      have ko : i ||| g < c.length := by rw [hlen] at hi hg ⊢; exact Nat.or_lt_two_pow hi hg
      have ka : i &&& g < c.length := by rw [hlen] at hi ⊢; exact Nat.lt_of_le_of_lt Nat.and_le_left hi
      obtain ⟨p1, u1, -, u2⟩ := at_row (m := ⟨h, h.length, h.length⟩) rfl ha hi
      obtain ⟨p2, v1, -, v2⟩ := at_row (m := ⟨h, h.length, h.length⟩) rfl ha hg
      obtain ⟨p3, w1, -, w2⟩ := at_row (m := ⟨h, h.length, h.length⟩) rfl ha ko
      obtain ⟨p4, y1, -, y2⟩ := at_row (m := ⟨h, h.length, h.length⟩) rfl ha ka
      have b1 := hw i (by omega); have b2 := hw g (by omega); have b3 := hw (i ||| g) (by omega); have b4 := hw (i &&& g) (by omega)
      simp only [g49_b1, len_row ha, bindO_some, asI_i, forceB_eq, ltI_eq, lt_yes hg, cond_true, u1, u2, v1, v2, forceI_eq, or64 (show i < 9223372036854775808 by omega) (show g < 9223372036854775808 by omega), and64 (show i < 9223372036854775808 by omega) (show g < 9223372036854775808 by omega), w1, w2, y1, y2]
      rw [wr_id' (by omega) (by omega), wr_id' (by omega) (by omega)]
      by_cases hb : c.getD i 0 + c.getD g 0 < c.getD (i ||| g) 0 + c.getD (i &&& g) 0
      · simp only [dT hb, cond_true, if_pos (show brk c i g = true from dT hb)]
        rfl
      · simp only [dF hb, cond_false, if_neg (show ¬ brk c i g = true from fun hh => hb (of_decide_eq_true hh)), wr_next (show g ≤ 1000000 by omega)]
  have hst := loop_st (b := fun s : Int => g49_b0 (meansX F1 ro) ro a ⟨h, h.length, h.length⟩ s) (fun j => (j : Int)) c.length (fun j => (badS c c.length j).map enc) (.inl ()) ?_ ?_ c.length 0 (by omega)
  · have e0 : ((0 : Nat) : Int) = 0 := rfl
    rw [e0] at hst
    rw [hst]
    have hm : firstS (fun j => (badS c c.length j).map enc) c.length 0 = (bad c).map enc := by
      cases hb : bad c with
      | none =>
        refine firstS_none.2 fun j h1 h2 => ?_
        have := firstS_none.1 hb j h1 h2
        rw [this]; rfl
      | some p =>
        obtain ⟨j, h1, h2, h3, h4⟩ := firstS_some hb
        refine firstS_at h1 h2 (fun j' h5 h6 => by rw [h4 j' h5 h6]; rfl) ?_
        rw [h3]; rfl
    rw [hm]
    cases hb : bad c with
    | none =>
      simp only [Option.map_none, Option.getD_none, bindO_some, tupA]
      exact fin_pure rfl
    | some p =>
      obtain ⟨x, y⟩ := p
      simp only [Option.map_some, Option.getD_some, bindO_some, tupA, enc]
      exact fin_pure rfl
  · simp only [g49_b0, len_row ha, bindO_some, asI_i, forceB_eq, ltI_eq, lt_no, cond_false]
  · intro i hi
    simp only [g49_b0, len_row ha, bindO_some, asI_i, forceB_eq, ltI_eq, lt_yes hi, cond_true, forceI_eq, wr_next (show i ≤ 1000000 by omega), meansX_loop, inner i hi]
    cases badS c c.length i <;> rfl
theorem refCheck17 {n : Int} (ha : IsRow ro h a c) (hl : c.length ≤ 9223372036854775807) : callX F1 ro 17 [.i .i64 n, a] h = some (tupT (chkT n c), h, h.length, h.length) := by
  refine g17_ok (meansX_ok F1 ro) rfl ?_
  unfold g17
  simp only [meansX_call, cp0 (cost48 (n := n) ha hl), bindP_some, asB_b]
  by_cases hc : costP n c
  · simp only [dT hc, Bool.not_true, forceB_eq, cond_false, cp0 (broken49 hc ha), bindP_some, chkT, if_pos hc]
    cases hb : bad c with
    | none => simp only [ext0, ext1, ext2, bindO_some, asI_i, asB_b, Bool.not_false, cond_true, tupA]; exact fin_pure rfl
    | some p => simp only [ext0, ext1, ext2, bindO_some, asI_i, asB_b, Bool.not_true, cond_false, tupA]; exact fin_pure rfl
  · simp only [dF hc, Bool.not_false, forceB_eq, cond_true, tupA, chkT, if_neg hc]
    exact fin_pure rfl
theorem fault51 {n : Int} (ha : IsRow ro h a c) (hl : c.length ≤ 9223372036854775807) : callX F1 ro 51 [.i .i64 n, a] h = some (.i .i64 (errS n c), h, h.length, h.length) := by
  refine g51_ok (meansX_ok F1 ro) rfl ?_
  unfold g51
  simp only [meansX_call, cp0 (check16 (n := n) ha hl), bindP_some, tupT, ext0, ext1, ext2, bindO_some, asI_i, forceB_eq, eqI_eq]
  unfold chkT errS
  by_cases hc : costP n c
  · rw [if_pos hc, if_pos hc]
    cases hb : bad c with
    | none =>
      simp only [show ((10 : Int) == 0) = false from rfl, show ((10 : Int) == 10) = true from rfl, cond_true, cond_false, tupA]; exact fin_pure rfl
    | some p =>
      simp only [show ((0 : Int) == 0) = true from rfl, cond_true, tupA]; exact fin_pure rfl
  · rw [if_neg hc, if_neg hc]
    simp only [show ((2 : Int) == 0) = false from rfl, show ((2 : Int) == 10) = false from rfl, cond_false, tupA]; exact fin_pure rfl
end
end Go.Proofs.Ythdglempcfknhaa.T

/- Blocks of numbers that a function makes and writes; copies. -/
open Go.Vm
set_option linter.unusedVariables false
namespace Go.Proofs.Ythdglempcfknhaa.T
open Go

abbrev ints (z : List Int) : List AVal := z.map (AVal.i .i64)
/-- a block of numbers -/
abbrev HI (hp : Heap) (b : Nat) (z : List Int) : Prop := Holds hp b (ints z)
theorem rep_ints (n : Nat) : rep [AVal.i .i64 0] n = ints (List.replicate n 0) := by
  induction n with
  | zero => rfl
  | succ n ih => simp [rep, ih, List.replicate_succ]
section
variable {ro : List ABlk} {h hp : Heap} {b k n : Nat} {z : List Int} {v : AVal}
theorem HI.row (a : HI hp b z) {m : Nat} {cap : Cap} (hm : m = z.length) : IsRow ro hp (.sl ⟨false, b, 0⟩ m cap) z := by
  subst hm
  obtain ⟨blk, h1, h2, h3⟩ := a
  refine .inr ⟨_, _, blk, rfl, rdB_heap h1 0, by rw [h2]; simp, fun j hj => ?_⟩
  rw [Nat.zero_add, h3 j (by simpa using hj), map_getD hj]
theorem mkI (hn : n ≤ 1000) {l p : Nat} : stepM ro ⟨hp, l, p⟩ (.mk 3 1 8 [.i .i64 0] (.c (.i .i64 (n : Int))) (.c (.i .i64 (n : Int)))) = some (.sl ⟨false, hp.length, 0⟩ n (.known n), ⟨hp ++ [some (newBlk 3 (.i .i64 0) n)], l, p⟩) ∧ HI (hp ++ [some (newBlk 3 (.i .i64 0) n)]) hp.length (List.replicate n 0) := by
  refine ⟨mk_ok hn (by omega), ?_⟩
  unfold newBlk
  rw [rep_ints]
  exact Holds.new _ _ _
theorem HI.wr {x : Int} (a : HI hp b z) (hk : k < z.length) (hL : h.length ≤ b) (kp : Keep h hp) : ∃ hp', writesM ro [] [(⟨false, b, 0 + k⟩, AVal.cells (.i .i64 x))] ⟨hp, h.length, h.length⟩ = some ⟨hp', h.length, h.length⟩ ∧ HI hp' b (z.set k x) ∧ hp'.length = hp.length ∧ (∀ i, i ≠ b → hp'[i]? = hp[i]?) ∧ Keep h hp' := by
  have a0 := a
  obtain ⟨blk, h1, h2, h3⟩ := a
  rw [List.length_map] at h2 h3
  have e0 : 0 + k = k := by omega
  refine ⟨hp.set b (some { blk with c := blk.c.set k (.i .i64 x) }), ?_, ⟨_, lget_set h1 _, by simpa using h2, fun j hj => ?_⟩, by simp, fun i hi => List.getElem?_set_ne (Ne.symm hi), kp.set hL _⟩
  · rw [e0]
    have := wr_heap (ro := ro) (l := h.length) (p := h.length) (off := k) (v := .i .i64 x) h1 (by omega) rfl rfl
    rw [Nat.min_eq_left hL] at this
    exact this
  · show (blk.c.set k (.i .i64 x)).get j = _
    rw [get_set]
    simp only [List.length_map, List.length_set] at hj
    rw [map_getD (by simpa using hj)]
    by_cases e : k = j
    · subst e; simp [List.getD, hj]
    · rw [if_neg e, h3 j hj, map_getD hj]
      simp [List.getD, List.getElem?_set_ne e]
theorem HI.st1 {x : Int} (a : HI hp b z) (hk : k < z.length) (hL : h.length ≤ b) (kp : Keep h hp) : ∃ hp', stepM ro ⟨hp, h.length, h.length⟩ (.st 1 (.c (.p (some ⟨false, b, 0 + k⟩))) (.c (.i .i64 x))) = some (und, ⟨hp', h.length, h.length⟩) ∧ HI hp' b (z.set k x) ∧ hp'.length = hp.length ∧ (∀ i, i ≠ b → hp'[i]? = hp[i]?) ∧ Keep h hp' := by
  obtain ⟨hp', h1, h2, h3⟩ := Holds.set (ro := ro) (k := k) (v := .i .i64 x) a (by simpa using hk) rfl rfl rfl hL kp
  rw [Nat.mul_one] at h1
  exact ⟨hp', h1, by unfold HI ints; rw [List.map_set]; exact h2, h3⟩
theorem ix_new {m : Nat} {cap : Cap} (hk : k < m) : evP .e (.ixS 1 (.c (.sl ⟨false, b, 0⟩ m cap)) (.c (.i .i64 (k : Int)))) = some (.p (some ⟨false, b, 0 + k⟩)) := ixS_eq hk
/-- a block that holds numbers is kept -/
theorem HI.by {hp' : Heap} (a : HI hp b z) (k : Keep hp hp') : HI hp' b z := Holds.by a k
end
end Go.Proofs.Ythdglempcfknhaa.T

/- Sum; the law ShareChecks. -/
open Go.Vm
set_option linter.unusedVariables false
namespace Go.Proofs.Ythdglempcfknhaa.T
open Go

def sumL (a b : List Int) : List Int := (List.range a.length).map fun i => a.getD i 0 + b.getD i 0
theorem sumL_len (a b : List Int) : (sumL a b).length = a.length := by simp [sumL]
theorem sumL_get {a b : List Int} {i : Nat} (hi : i < a.length) : (sumL a b).getD i 0 = a.getD i 0 + b.getD i 0 := range_get hi
theorem ext_getD {a b : List Int} (hl : a.length = b.length) (h : ∀ i, i < a.length → a.getD i 0 = b.getD i 0) : a = b := by
  refine List.ext_getElem hl fun i h1 h2 => ?_
  have := h i h1
  simpa [List.getD, h1, h2] using this
theorem set_get {z : List Int} {k j : Nat} {x : Int} (hk : k < z.length) : (z.set k x).getD j 0 = if k = j then x else z.getD j 0 := by
  by_cases e : k = j
  · subst e; simp [List.getD, hk]
  · rw [if_neg e]; simp [List.getD, List.getElem?_set_ne e]
section
variable {ro : List ABlk} {h : Heap} {va vb : AVal} {a b : List Int}
theorem cp2 {F : Tab} {ro : List ABlk} {H : Heap} {l p : Nat} {f : Nat} {a : List AVal} {v : AVal} (e : callX F ro f a H = some (v, H, H.length, H.length)) (hl : l ≤ H.length) (hp : p ≤ H.length) : callM (callX F ro) ⟨H, l, p⟩ f a = some (v, ⟨H, l, p⟩) := callM_pure e hl hp
end
end Go.Proofs.Ythdglempcfknhaa.T

/- The reference of Sum; the law ShareChecks. -/
open Go.Vm
set_option linter.unusedVariables false
namespace Go.Proofs.Ythdglempcfknhaa.T
open Go

section
variable {ro : List ABlk} {h : Heap} {va vb : AVal} {a b : List Int}
theorem sumL_take {i : Nat} (hi : i < a.length) : (sumL a b).take (i + 1) = (sumL a b).take i ++ [a.getD i 0 + b.getD i 0] := by
  rw [List.take_add_one, List.getElem?_eq_getElem (by rw [sumL_len]; exact hi)]
  simp [sumL, List.getD, hi]
/-- alive, wherever -/
theorem alv {H : Heap} {l p : Nat} (hl : l ≤ H.length) (hp : p ≤ H.length) : callM (callX F1 ro) ⟨H, l, p⟩ 15 [] = some (.b true, ⟨H, l, p⟩) := cp2 alive_pure hl hp
theorem bindP_of {β : Type} {o : Option (AVal × Mm)} {v : AVal} {m : Mm} {f : AVal → Mm → Option β} (h : o = some (v, m)) : bindP o f = f v m := by rw [h]; rfl
theorem bindO_of {α β : Type} {o : Option α} {v : α} {f : α → Option β} (h : o = some v) : bindO o f = f v := by rw [h]; rfl
theorem pS {β : Type} (v : AVal) (m : Mm) (f : AVal → Mm → Option β) : bindP (some (v, m)) f = f v m := bindP_of (Eq.trans rfl rfl)
theorem oS {α β : Type} (v : α) (f : α → Option β) : bindO (some v) f = f v := bindO_of (Eq.trans rfl rfl)
theorem cT {α : Type} (a b : α) : cond true a b = a := by rw [cond_true]
theorem cF {α : Type} (a b : α) : cond false a b = b := by rw [cond_false]
theorem bS {β : Type} (b : Bool) (f : Bool → Option β) : asB (.b b) f = f b := (asB_b b f).trans (Eq.trans rfl rfl)
theorem x0 (a : AVal) (l : List AVal) : evP .e (.ext 0 (.c (.tup (a :: l)))) = some a := (ext0 a l).trans (Eq.trans rfl rfl)
theorem x1 (a b : AVal) (l : List AVal) : evP .e (.ext 1 (.c (.tup (a :: b :: l)))) = some b := (ext1 a b l).trans (Eq.trans rfl rfl)
theorem x2 (a b c : AVal) (l : List AVal) : evP .e (.ext 2 (.c (.tup (a :: b :: c :: l)))) = some c := (ext2 a b c l).trans (Eq.trans rfl rfl)
theorem tA (v : AVal) : tupA [v] = v := Eq.trans rfl rfl
theorem nT : (!true) = false := Eq.trans rfl rfl
theorem nF : (!false) = true := Eq.trans rfl rfl
theorem fB {α : Type} (n : Bool) (f : Bool → α) : forceB n f = f n := (forceB_eq n f).trans (Eq.trans rfl rfl)
theorem mC (F : Tab) (ro : List ABlk) : (meansX F ro).call = callX F ro := (meansX_call F ro).trans (Eq.trans rfl rfl)
theorem exC {ro : List ABlk} {k : Nat} {l : List AVal} {h : Heap} {n m : Nat} {H : Heap} (e : callX F1 ro k l h = some (.b true, H, n, m)) : ∃ h' lw lp, callX F1 ro k l h = some (.b true, h', lw, lp) := ⟨_, _, _, e⟩
theorem eqI_self (x : Int) : eqI x x = true := by rw [eqI_eq]; simp
end
end Go.Proofs.Ythdglempcfknhaa.T

/- Fair and Proves; the law ShareFair. -/
open Go.Vm
set_option linter.unusedVariables false
namespace Go.Proofs.Ythdglempcfknhaa.T
open Go

/-- a group that pays too much -/
def dear (c s : List Int) : Option Nat := (grp c.length [fun g => decide (cs c g < payS s g s.length)]).head?
def allP (c s : List Int) : Bool := decide (payS s (c.length - 1) s.length = cs c (c.length - 1))
def fairB (c s : List Int) : Bool := match dear c s with | some _ => false | none => allP c s
def fairT (n : Int) (c s : List Int) : Int × Bool × Int := if costP n c ∧ sharP n s then (match dear c s with | some g => ((g : Int), false, 0) | none => (((c.length - 1 : Nat) : Int), allP c s, 0)) else (0, false, 2)
def tupF (t : Int × Bool × Int) : AVal := .tup [.i .i64 t.1, .b t.2.1, .i .i64 t.2.2]
theorem errS_cost {n : Int} {c : List Int} (h : errS n c = 0) : costP n c := by
  by_cases hc : costP n c
  · exact hc
  · rw [errS, if_neg hc] at h; omega
theorem errS_bad {n : Int} {c : List Int} (h : errS n c = 0) : bad c = none := by
  have hc := errS_cost h
  rw [errS, if_pos hc] at h
  cases hb : bad c with
  | none => rfl
  | some p => rw [hb] at h; simp at h
section
variable {ro : List ABlk} {h : Heap} {va vb : AVal} {c s : List Int}
theorem shar65 {n : Int} (hb : IsRow ro h vb s) (hl : s.length ≤ 9223372036854775807) : callX F1 ro 65 [.i .i64 n, vb] h = some (.b (decide (sharP n s)), h, h.length, h.length) := by
  refine g65_ok (meansX_ok F1 ro) rfl ?_
  unfold g65
  simp only [len_row hb, bindO_some, asI_i, forceB_eq, eqI_eq, meansX_call]
  by_cases h1 : (s.length : Int) = n
  · have b1 : ((s.length : Int) == n) = true := by rw [h1]; simp
    simp only [b1, cond_true, cp0 (all87 (L := 6000000) hb hl (by omega) (by omega)), bindP_some, asB_b, bindO_some]
    by_cases h2 : withinP s 6000000
    · simp only [dT h2, dT (show sharP n s from ⟨h1, h2⟩), tupA]; exact fin_pure rfl
    · simp only [dF h2, dF (show ¬ sharP n s from fun hh => h2 hh.2), tupA]; exact fin_pure rfl
  · have b1 : ((s.length : Int) == n) = false := by simpa using h1
    simp only [b1, cond_false, bindO_some, dF (show ¬ sharP n s from fun hh => h1 hh.1), tupA]; exact fin_pure rfl
theorem head_getD {l : List Nat} (h : 0 < l.length) : l.head? = some (l.getD 0 0) := by
  cases l with
  | nil => simp at h
  | cons x l => rfl
theorem blt_self (n : Nat) : Nat.blt n n = false := by
  cases hh : Nat.blt n n
  · rfl
  · rw [Nat.blt_eq] at hh; omega
theorem last_cast {N : Nat} (h1 : 1 ≤ N) (h2 : N ≤ 1000000) : Go.Vm.wr .i64 (((N : Nat) : Int) - 1) = ((N - 1 : Nat) : Int) := by
  rw [wr_id' (by omega) (by omega)]; omega
theorem fair25 {n : Int} (ha : IsRow ro h va c) (hla : c.length ≤ 9223372036854775807) (hb : IsRow ro h vb s) (hlb : s.length ≤ 9223372036854775807) : callX F1 ro 25 [.i .i64 n, va, vb] h = some (tupF (fairT n c s), h, h.length, h.length) := by
  refine g25_ok (meansX_ok F1 ro) rfl ?_
  unfold g25
  simp only [meansX_call, cp0 (cost44 (n := n) ha hla), bindP_some, asB_b, forceB_eq]
  by_cases hc : costP n c
  rotate_left
  · simp only [dF hc, Bool.not_false, cond_true, bindO_some, fairT, if_neg (show ¬ (costP n c ∧ sharP n s) from fun hh => hc hh.1), tupA]; exact fin_pure rfl
  simp only [dT hc, Bool.not_true, cond_false, cp0 (shar65 (n := n) hb hlb), bindP_some, asB_b, bindO_some]
  by_cases hs : sharP n s
  rotate_left
  · simp only [dF hs, Bool.not_false, cond_true, bindO_some, fairT, if_neg (show ¬ (costP n c ∧ sharP n s) from fun hh => hs hh.2), tupA]; exact fin_pure rfl
  obtain ⟨k, rfl, hk1, hk6, hlen, h64⟩ := costN hc
  have hsl : s.length = k := by have := hs.1; omega
  obtain ⟨t1, Ha, a1, ka, ia⟩ := pays66 (N := c.length) h64 ha rfl hb hs.2 (by omega)
  obtain ⟨u, Hc, c1, kc, ic⟩ := tests1 (l := h.length) (p := h.length) ia
  obtain ⟨o2, Hd, d1, kd, rd⟩ := groups45 (ro := ro) (h := Hc) hk6 hlen ic (by simp)
  have kC := ka.trans kc
  have kD := kC.trans kd
  simp only [dT hs, Bool.not_true, cond_false, cM a1 (Nat.le_refl _) (Nat.le_refl _), bindP_some, c1, cM d1 kC.1 kC.1, len_row rd, nts_len, bindO_some, asI_i, ltI_eq]
  by_cases hg : 0 < (grp c.length [fun g => decide (cs c g < payS s g s.length)]).length
  · obtain ⟨p', p1', p2'⟩ := at_nts rd (i := 0) hg
    have e0 : ((0 : Nat) : Int) = 0 := rfl
    rw [e0] at p1'
    have p3' := (p2' (l := h.length) (q := h.length) (Keep.refl Hd)).1
    have hd : dear c s = some ((grp c.length [fun g => decide (cs c g < payS s g s.length)]).getD 0 0) := by
      unfold dear
      exact head_getD hg
    simp only [dT (show (0 : Int) < ((grp c.length [fun g => decide (cs c g < payS s g s.length)]).length : Int) by omega), cond_true, p1', p3', bindO_some, asI_i, fairT, if_pos (show costP (k : Int) c ∧ sharP (k : Int) s from ⟨hc, hs⟩), hd, tupA]
    exact fin_keep kD rfl
  · have hd : dear c s = none := by
      unfold dear
      rw [List.eq_nil_of_length_eq_zero (by omega : (grp c.length [fun g => decide (cs c g < payS s g s.length)]).length = 0)]
      rfl
    obtain ⟨e1, e2⟩ := shl_n (n := (k : Int)) (by omega) (by omega)
    have e2' : shlV .i64 1 (k : Int) = ((c.length : Nat) : Int) := by rw [hlen]; exact e2
    rw [ltI_eq] at e1
    have hpos : 1 ≤ c.length := by rw [hlen]; exact pow_pos k
    obtain ⟨p, p1, p2⟩ := at_rowK ha (i := c.length - 1) (by omega)
    have p3 := (p2 (l := h.length) (q := h.length) kD).2
    have hcall := cp2 (l := Hd.length) (p := Hd.length) (total67 (row_by hb kD) hs.2 (by omega) (g := c.length - 1) (by omega)) (Nat.le_refl _) (Nat.le_refl _)
    simp only [dF (show ¬ (0 : Int) < ((grp c.length [fun g => decide (cs c g < payS s g s.length)]).length : Int) by omega), cond_false, e1, chk_true, forceI_eq, e2', last_cast hpos (by omega), bindO_some, Mm.base, hcall, bindP_some, asI_i, blt_self, Bool.not_false, p1, p3, eqI_eq, Mm.join, Nat.min_eq_left kD.1, fairT, if_pos (show costP (k : Int) c ∧ sharP (k : Int) s from ⟨hc, hs⟩), hd, tupA]
    have ea : allP c s = (payS s (c.length - 1) s.length == c.getD (c.length - 1) 0) := by
      unfold allP
      by_cases hq : payS s (c.length - 1) s.length = cs c (c.length - 1)
      · rw [dT hq]
        have hq' : payS s (c.length - 1) s.length = c.getD (c.length - 1) 0 := hq
        rw [hq']; simp
      · rw [dF hq]; exact (beq_eq_false_iff_ne.2 hq).symm
    rw [ea]
    exact fin_keep kD rfl
end
end Go.Proofs.Ythdglempcfknhaa.T

/- Submodular costs: the groups of the least cost. -/
open Go.Vm
set_option linter.unusedVariables false
namespace Go.Proofs.Ythdglempcfknhaa.T
open Go

def Sub (c : List Int) : Prop := ∀ a b, a < c.length → b < c.length → cs c (a ||| b) + cs c (a &&& b) ≤ cs c a + cs c b
theorem bad_none {c : List Int} : bad c = none ↔ ∀ a b, a < b → b < c.length → brk c a b = false := by
  unfold bad
  rw [firstS_none]
  constructor
  · intro h a b hab hb
    have h1 := h a (Nat.zero_le _) (by omega)
    unfold badS badG at h1
    rw [Option.map_eq_none_iff, List.head?_eq_none_iff] at h1
    cases hh : brk c a b
    · rfl
    · have : b ∈ grp c.length [fun g => decide (a < g), brk c a] := by
        unfold grp
        rw [List.mem_filter]
        exact ⟨List.mem_range.2 hb, by simp [hab, hh]⟩
      rw [h1] at this; cases this
  · intro h j _ hj
    unfold badS badG
    rw [Option.map_eq_none_iff, List.head?_eq_none_iff]
    unfold grp
    rw [List.filter_eq_nil_iff]
    intro g hg
    have hg := List.mem_range.1 hg
    simp only [List.all_cons, List.all_nil, Bool.and_true, Bool.and_eq_true, decide_eq_true_eq, not_and]
    intro h1
    simp [h j g h1 hg]
theorem sub_iff {c : List Int} : bad c = none ↔ Sub c := by
  rw [bad_none]
  constructor
  · intro h a b ha hb
    rcases Nat.lt_trichotomy a b with h1 | h1 | h1
    · have := of_decide_eq_false (h a b h1 hb); omega
    · subst h1
      rw [Nat.or_self, Nat.and_self]; omega
    · have := of_decide_eq_false (h b a h1 ha)
      rw [Nat.or_comm a b, Nat.and_comm a b]; omega
  · intro h a b hab hb
    exact decide_eq_false (by have := h a b (by omega) hb; omega)
def minC (c : List Int) : List Nat → Int
  | [] => 0
  | [g] => cs c g
  | g :: k :: l => if cs c g < minC c (k :: l) then cs c g else minC c (k :: l)
def low (c : List Int) : Int := minC c (List.range c.length)
def tied (c : List Int) : List Nat := grp c.length [fun g => cs c g == low c]
def small (c : List Int) : Nat := (tied c).getD 0 0
section
variable {c : List Int} {k : Nat}
end
section
variable {ro : List ABlk} {h : Heap} {va vb : AVal} {c s : List Int}
theorem sub39 {n : Int} (ha : IsRow ro h va c) (hl : c.length ≤ 9223372036854775807) : callX F1 ro 39 [.i .i64 n, va] h = some (.b (decide (errS n c = 0)), h, h.length, h.length) := by
  refine g39_ok (meansX_ok F1 ro) rfl ?_
  unfold g39
  simp only [meansX_call, cp0 (refCheck17 (n := n) ha hl), bindP_some, tupT, ext0, ext1, ext2, bindO_some, asI_i, forceB_eq, eqI_eq]
  unfold chkT errS
  by_cases hc : costP n c
  · rw [if_pos hc, if_pos hc]
    cases hb : bad c with
    | none => simp only [show ((10 : Int) == 10) = true from rfl, decide_true, tupA]; exact fin_pure rfl
    | some p => simp only [show ((0 : Int) == 10) = false from rfl, show decide ((5 : Int) = 0) = false from rfl, tupA]; exact fin_pure rfl
  · rw [if_neg hc, if_neg hc]
    simp only [show ((2 : Int) == 10) = false from rfl, show decide ((2 : Int) = 0) = false from rfl, tupA]; exact fin_pure rfl
end
end Go.Proofs.Ythdglempcfknhaa.T

/- The law ShareLattice. -/
open Go.Vm
set_option linter.unusedVariables false
namespace Go.Proofs.Ythdglempcfknhaa.T
open Go

section
variable {ro : List ABlk} {h : Heap} {va vb : AVal} {c s : List Int}
theorem neqF {x y : Int} (e : x = y) : (!eqI x y) = false := by subst e; rw [eqI_self]; rfl
theorem eqT {x y : Int} (e : x = y) : eqI x y = true := by subst e; exact eqI_self x
theorem eqF {x y : Int} (e : x ≠ y) : eqI x y = false := by rw [eqI_eq]; exact beq_eq_false_iff_ne.2 e
theorem neqT {x y : Int} (e : x ≠ y) : (!eqI x y) = true := by rw [eqF e]; rfl
theorem row_at {ro : List ABlk} {h H : Heap} {v : AVal} {z : List Int} {l p : Nat} (a : IsRow ro h v z) (k : Keep h H) {i : Nat} (hi : i < z.length) : ∃ q, evP .e (.ixS 1 (.c v) (.c (.i .i64 (i : Int)))) = some q ∧ ldM ro ⟨H, l, p⟩ true 1 q = some (.i .i64 (z.getD i 0)) := by
  obtain ⟨q, q1, q2⟩ := at_rowK a hi
  exact ⟨q, q1, (q2 k).1⟩
theorem aS {β : Type} (k : IntKind) (x : Int) (f : Int → Option β) : asI k (.i k x) f = f x := asI_i k x f
theorem iS {α : Type} (n : Int) (f : Int → α) : forceI n f = f n := (forceI_eq n f).trans (Eq.trans rfl rfl)
theorem kT {β : Type} (f : Option β) : chk true f = f := (chk_true f).trans (Eq.trans rfl rfl)
theorem tmod_u8 {x : Int} {N : Nat} (hx : 0 ≤ x ∧ x ≤ 255) (hN : 0 < N) : ∃ m : Nat, m < N ∧ Int.tmod (Go.Vm.wr .i64 x) (N : Int) = (m : Int) ∧ m = x.toNat % N := by
  obtain ⟨k, rfl⟩ : ∃ k : Nat, x = (k : Int) := ⟨x.toNat, by omega⟩
  rw [wr_id' (by omega) (by omega), tmod_nat]
  exact ⟨k % N, Nat.mod_lt _ hN, rfl, by simp⟩
theorem wf_u8 {n : Int} (h : (Lit.int .u8 n).wf = true) : 0 ≤ n ∧ n ≤ 255 := by
  simp [Lit.wf, IntKind.min, IntKind.max, IntKind.signed, IntKind.bits] at h
  constructor <;> omega
end
end Go.Proofs.Ythdglempcfknhaa.T

/- Cut; the law ShareCuts. -/
open Go.Vm
set_option linter.unusedVariables false
namespace Go.Proofs.Ythdglempcfknhaa.T
open Go

def hedP (n : Int) (z : List Int) : Prop := z.length = 3 ∧ (0 ≤ z.getD 0 0 ∧ z.getD 0 0 < n) ∧ (0 ≤ z.getD 1 0 ∧ z.getD 1 0 < n) ∧ z.getD 0 0 ≠ z.getD 1 0 ∧ 0 ≤ z.getD 2 0 ∧ z.getD 2 0 ≤ 1000
instance (n : Int) (z : List Int) : Decidable (hedP n z) := inferInstanceAs (Decidable (z.length = 3 ∧ (0 ≤ z.getD 0 0 ∧ z.getD 0 0 < n) ∧ (0 ≤ z.getD 1 0 ∧ z.getD 1 0 < n) ∧ z.getD 0 0 ≠ z.getD 1 0 ∧ 0 ≤ z.getD 2 0 ∧ z.getD 2 0 ≤ 1000))
def hedsP (n : Int) (x : List (List Int)) : Prop := ∀ i, i < x.length → hedP n (nthR x i)
instance (n : Int) (x : List (List Int)) : Decidable (hedsP n x) := inferInstanceAs (Decidable (∀ i, i < x.length → hedP n (nthR x i)))
section
variable {ro : List ABlk} {h : Heap} {va vb : AVal} {x : List (List Int)} {z : List Int}
theorem mem_grp1 {N : Nat} {P : Nat → Bool} {g : Nat} : g ∈ grp N [P] ↔ g < N ∧ P g = true := by
  unfold grp
  rw [List.mem_filter, List.mem_range]
  simp
end
end Go.Proofs.Ythdglempcfknhaa.T

/- The reference of Cut; the law ShareCuts. -/
open Go.Vm
set_option linter.unusedVariables false
namespace Go.Proofs.Ythdglempcfknhaa.T
open Go

section
variable {ro : List ABlk} {h : Heap} {va vb : AVal} {x : List (List Int)} {z : List Int}
theorem odd_mod' {a k : Nat} (hk : k ≤ 60) : Int.tmod (shrV .i64 (a : Int) (k : Int)) 2 = if a.testBit k then 1 else 0 := by
  have := odd_mod (a := a) (k := k) hk
  rw [shr64 hk] at this ⊢
  have e : Int.tmod ((a / 2 ^ k : Nat) : Int) 2 = ((a / 2 ^ k % 2 : Nat) : Int) := tmod_nat _ 2
  rw [e] at this ⊢
  cases hb : a.testBit k
  · rw [hb, eqI_eq] at this
    have h2 := beq_eq_false_iff_ne.1 this
    simp only [Bool.false_eq_true, if_false]
    omega
  · rw [hb, eqI_eq] at this
    have h2 := eq_of_beq this
    simp only [if_true]
    exact h2
end
end Go.Proofs.Ythdglempcfknhaa.T

/- Cuts are submodular; the law ShareHedges. -/
open Go.Vm
set_option linter.unusedVariables false
namespace Go.Proofs.Ythdglempcfknhaa.T
open Go

section
variable {x : List (List Int)} {N k : Nat}
end
section
variable {ro : List ABlk} {h : Heap} {va vb : AVal} {x : List (List Int)} {c : List Int}
end
end Go.Proofs.Ythdglempcfknhaa.T

/- Proof on both sides; the law ShareLeast. -/
open Go.Vm
set_option linter.unusedVariables false
namespace Go.Proofs.Ythdglempcfknhaa.T
open Go

/-- the greedy sharing of an order -/
def greG (z : List Nat) : Nat → Nat
  | 0 => 0
  | i + 1 => greG z i ||| 2 ^ (z.getD i 0)
def greL (c : List Int) (z : List Nat) : Nat → List Int
  | 0 => List.replicate z.length 0
  | i + 1 => (greL c z i).set (z.getD i 0) (cs c (greG z (i + 1)) - cs c (greG z i))
theorem greL_len (c : List Int) (z : List Nat) : ∀ i, (greL c z i).length = z.length
  | 0 => by simp [greL]
  | i + 1 => by unfold greL; rw [List.length_set, greL_len c z i]
theorem greG_lt {z : List Nat} {k : Nat} (hz : ∀ i, i < z.length → z.getD i 0 < k) : ∀ i, i ≤ z.length → greG z i < 2 ^ k
  | 0, _ => Nat.two_pow_pos k
  | i + 1, hi => Nat.or_lt_two_pow (greG_lt hz i (by omega)) (Nat.pow_lt_pow_right (by omega) (hz i (by omega)))
def lastL (k : Nat) : List Nat := (List.range k).map fun i => k - 1 - i
theorem lastL_len (k : Nat) : (lastL k).length = k := by simp [lastL]
theorem lastL_get {k i : Nat} (hi : i < k) : (lastL k).getD i 0 = k - 1 - i := by simp [lastL, List.getD, hi]
section
variable {ro : List ABlk} {h : Heap} {va vb : AVal} {c : List Int}
theorem lastFirst75 {k : Nat} (hk : k ≤ 60) : ∃ v H, callX F1 ro 75 [.i .i64 (k : Int)] h = some (v, H, h.length, h.length) ∧ Keep h H ∧ IsRow ro H v (nts (lastL k)) ∧ New h.length v ∧ v.cells = [v] ∧ (∃ b n cap, v = .sl ⟨false, b, 0⟩ n cap ∧ HI H b (nts (lastL k)) ∧ n = k ∧ h.length ≤ b) := by
  obtain ⟨m1, m2⟩ := mkI (ro := ro) (hp := h) (n := k) (by omega) (l := h.length) (p := h.length)
  obtain ⟨H1, eH⟩ : ∃ H1, H1 = h ++ [some (newBlk 3 (.i .i64 0) k)] := ⟨_, rfl⟩
  rw [← eH] at m1 m2
  have k1 : Keep h H1 := by rw [eH]; exact Keep.app _
  have key := loop_gen (b := fun t : Int × Mm => g75_b0 (meansX F1 ro) ro (k : Int) (.sl ⟨false, h.length, 0⟩ k (.known k)) (k : Int) t.1 t.2) k
    (fun i t => ∃ H z, t = ((i : Int), (⟨H, h.length, h.length⟩ : Mm)) ∧ Keep h H ∧ HI H h.length z ∧ z.length = k ∧ ∀ j, j < i → z.getD j 0 = ((k - 1 - j : Nat) : Int))
    (fun r => ∃ H, r = (⟨H, h.length, h.length⟩ : Mm) ∧ Keep h H ∧ HI H h.length (nts (lastL k))) ?_ ?_ k 0 (0, ⟨H1, h.length, h.length⟩) (by omega) ⟨H1, _, rfl, k1, m2, by simp, fun j hj => by omega⟩
  · obtain ⟨r, r1, H, rfl, kp, hz⟩ := key
    obtain ⟨H', f1, f2, f3⟩ := fin_any (h := h) (w := .sl ⟨false, h.length, 0⟩ k (.known k)) kp
    have hbel : (AVal.sl ⟨false, h.length, 0⟩ k (.known k)).bel h.length = false := not_bel (Nat.le_refl _)
    have e := f3 hbel
    subst e
    refine ⟨.sl ⟨false, h.length, 0⟩ k (.known k), H', g75_ok (meansX_ok F1 ro) rfl ?_, f2, HI.row hz (by rw [nts_len, lastL_len]), .inr ⟨_, _, _, rfl, Nat.le_refl _⟩, rfl, _, _, _, rfl, hz, rfl, Nat.le_refl _⟩
    unfold g75
    have hlen := len_row (HI.row (ro := ro) m2 (m := k) (cap := .known k) (by simp))
    rw [List.length_replicate] at hlen
    simp only [m1, bindP_some, hlen, bindO_some, asI_i, meansX_loop]
    rw [r1]
    simp only [bindO_some, tupA]
    exact f1
  · rintro i t hi ⟨H, z, rfl, kp, hz, hzl, hall⟩
    obtain ⟨H', w1, w2, w3, w4, w5⟩ := HI.st1 (ro := ro) (k := i) (x := ((k - 1 - i : Nat) : Int)) hz (by omega) (Nat.le_refl _) kp
    have hix : evP .e (.ixS 1 (.c (.sl ⟨false, h.length, 0⟩ k (.known k))) (.c (.i .i64 (i : Int)))) = some (.p (some ⟨false, h.length, 0 + i⟩)) := ix_new hi
    have e1 : Go.Vm.wr .i64 ((k : Int) - 1) = ((k - 1 : Nat) : Int) := last_cast (by omega) (by omega)
    have e2 : Go.Vm.wr .i64 (((k - 1 : Nat) : Int) - (i : Int)) = ((k - 1 - i : Nat) : Int) := by rw [wr_id' (by omega) (by omega)]; omega
    simp only [g75_b0, forceB_eq, ltI_eq, lt_yes hi, cond_true, forceI_eq, e1, e2, hix, bindO_some, w1, bindP_some, wr_next (show i ≤ 1000000 by omega)]
    refine ⟨_, rfl, H', _, rfl, w5, w2, by simpa using hzl, fun j hj => ?_⟩
    rw [set_get (by omega)]
    by_cases e : i = j
    · subst e; rw [if_pos rfl]
    · rw [if_neg e]; exact hall j (by omega)
  · rintro t ⟨H, z, rfl, kp, hz, hzl, hall⟩
    simp only [g75_b0, forceB_eq, ltI_eq, lt_no, cond_false]
    have e : z = nts (lastL k) := ext_getD (by rw [hzl, nts_len, lastL_len]) fun j hj => by
      rw [hall j (by omega), nts_get, lastL_get (by omega)]
    exact ⟨_, rfl, H, rfl, kp, by rw [← e]; exact hz⟩
theorem greedy53 {z : List Nat} {k : Nat} (ha : IsRow ro h va c) (hb : IsRow ro h vb (nts z)) (hc : c.length = 2 ^ k) (hk : k ≤ 6) (hzl : z.length = k) (hz : ∀ i, i < z.length → z.getD i 0 < k) (hw : withinP c 1000000000) :
    ∃ v H, callX F1 ro 53 [va, vb] h = some (v, H, h.length, h.length) ∧ Keep h H ∧ IsRow ro H v (greL c z z.length) := by
  have h64 : c.length ≤ 64 := by rw [hc]; exact pow6 hk
  obtain ⟨m1, m2⟩ := mkI (ro := ro) (hp := h) (n := z.length) (by omega) (l := h.length) (p := h.length)
  obtain ⟨H1, eH⟩ : ∃ H1, H1 = h ++ [some (newBlk 3 (.i .i64 0) z.length)] := ⟨_, rfl⟩
  rw [← eH] at m1 m2
  have k1 : Keep h H1 := by rw [eH]; exact Keep.app _
  have key := loop_gen (b := fun t : Int × Int × Mm => g53_b0 (meansX F1 ro) ro va (.sl ⟨false, h.length, 0⟩ z.length (.known z.length)) vb (z.length : Int) t.1 t.2.1 t.2.2) z.length
    (fun i t => ∃ H, t = (((greG z i : Nat) : Int), (i : Int), (⟨H, h.length, h.length⟩ : Mm)) ∧ Keep h H ∧ HI H h.length (greL c z i))
    (fun r => ∃ H, r = (⟨H, h.length, h.length⟩ : Mm) ∧ Keep h H ∧ HI H h.length (greL c z z.length)) ?_ ?_ z.length 0 (0, 0, ⟨H1, h.length, h.length⟩) (by omega) ⟨H1, rfl, k1, m2⟩
  · obtain ⟨r, r1, H, rfl, kp, hz⟩ := key
    obtain ⟨H', f1, f2, f3⟩ := fin_rowW (ro := ro) (v := .sl ⟨false, h.length, 0⟩ z.length (.known z.length)) (w := .sl ⟨false, h.length, 0⟩ z.length (.known z.length)) kp (HI.row hz (by rw [greL_len])) rfl
    refine ⟨_, H', g53_ok (meansX_ok F1 ro) rfl ?_, f2, f3⟩
    unfold g53
    simp only [len_row hb, nts_len, bindO_some, asI_i, m1, bindP_some, meansX_loop]
    rw [r1]
    simp only [bindO_some, tupA]
    exact f1
  · rintro i t hi ⟨H, rfl, kp, hg⟩
    obtain ⟨p, p1, p2⟩ := at_nts hb hi
    have p3 := (p2 (l := h.length) (q := h.length) kp).1
    have gl := greG_lt hz i (by omega)
    have gl1 := greG_lt hz (i + 1) (by omega)
    have hzi := hz i hi
    obtain ⟨q, q1, q2⟩ := row_at (l := h.length) (p := h.length) ha kp (i := greG z i) (by omega)
    obtain ⟨q', q1', q2'⟩ := row_at (l := h.length) (p := h.length) ha kp (i := greG z (i + 1)) (by omega)
    have b1 := hw (greG z i) (by omega)
    have b2 := hw (greG z (i + 1)) (by omega)
    have hp2 : 2 ^ z.getD i 0 ≤ 64 := pow6 (by omega)
    have eor : bitV .or .i64 ((greG z i : Nat) : Int) ((2 ^ z.getD i 0 : Nat) : Int) = ((greG z (i + 1) : Nat) : Int) := or64 (by omega) (by omega)
    have e1 : (!decide (((z.getD i 0 : Nat) : Int) < Int.ofNat 0)) = true := by have := neg_ltI (a := z.getD i 0); rwa [ltI_eq] at this
    obtain ⟨H', w1, w2, w3, w4, w5⟩ := HI.st1 (ro := ro) (k := z.getD i 0) (x := c.getD (greG z (i + 1)) 0 - c.getD (greG z i) 0) hg (by rw [greL_len]; omega) (Nat.le_refl _) kp
    have hix : evP .e (.ixS 1 (.c (.sl ⟨false, h.length, 0⟩ z.length (.known z.length))) (.c (.i .i64 ((z.getD i 0 : Nat) : Int)))) = some (.p (some ⟨false, h.length, 0 + z.getD i 0⟩)) := ix_new (by omega)
    simp only [g53_b0, forceB_eq, ltI_eq, lt_yes hi, cond_true, p1, p3, bindO_some, asI_i, q1, q2, e1, chk_true, forceI_eq, shl1 (show z.getD i 0 ≤ 60 by omega), eor, q1', q2']
    rw [wr_id' (x := c.getD (greG z (i + 1)) 0 - c.getD (greG z i) 0) (by omega) (by omega)]
    simp only [hix, bindO_some, w1, bindP_some, wr_next (show i ≤ 1000000 by omega)]
    exact ⟨_, rfl, H', rfl, w5, w2⟩
  · rintro t ⟨H, rfl, kp, hg⟩
    simp only [g53_b0, forceB_eq, ltI_eq, lt_no, cond_false]
    exact ⟨_, rfl, H, rfl, kp, hg⟩
end
end Go.Proofs.Ythdglempcfknhaa.T

/- Proof on both sides; the law ShareLeast. -/
open Go.Vm
set_option linter.unusedVariables false
namespace Go.Proofs.Ythdglempcfknhaa.T
open Go

section
variable {ro : List ABlk} {h : Heap} {va vb : AVal} {c : List Int} {k : Nat}
end
end Go.Proofs.Ythdglempcfknhaa.T

/- Greedy sharings are fair; sums along groups. -/
open Go.Vm
set_option linter.unusedVariables false
namespace Go.Proofs.Ythdglempcfknhaa.T
open Go

/-- sums along groups -/
abbrev pay (s : List Int) (g : Nat) : Int := payS s g s.length
theorem payS_mod (s : List Int) (a b : Nat) : ∀ i, payS s (a ||| b) i + payS s (a &&& b) i = payS s a i + payS s b i
  | 0 => rfl
  | i + 1 => by
    have ih := payS_mod s a b i
    rw [payS_succ, payS_succ, payS_succ, payS_succ, Nat.testBit_or, Nat.testBit_and]
    cases a.testBit i <;> cases b.testBit i <;> simp only [Bool.or_true, Bool.or_false, Bool.and_true, Bool.and_false, cond_true, cond_false] <;> omega
theorem payS_zero (s : List Int) : ∀ i, payS s 0 i = 0
  | 0 => rfl
  | i + 1 => by rw [payS_succ, payS_zero s i]; simp
theorem payS_one (s : List Int) (j : Nat) : ∀ i, payS s (2 ^ j) i = if j < i then s.getD j 0 else 0
  | 0 => rfl
  | i + 1 => by
    rw [payS_succ, payS_one s j i, Nat.testBit_two_pow]
    by_cases h : j = i
    · subst h
      rw [if_neg (Nat.lt_irrefl _), if_pos (Nat.lt_succ_self _)]; simp
    · rw [decide_eq_false h, cond_false, Int.add_zero]
      by_cases h2 : j < i
      · rw [if_pos h2, if_pos (by omega)]
      · rw [if_neg h2, if_neg (by omega)]
theorem bit_new {m j : Nat} (h : m.testBit j = false) : m &&& 2 ^ j = 0 := by
  refine Nat.eq_of_testBit_eq fun i => ?_
  rw [Nat.testBit_and, Nat.testBit_two_pow, Nat.zero_testBit]
  by_cases e : j = i
  · subst e; rw [h]; rfl
  · rw [decide_eq_false e, Bool.and_false]
theorem pay_add {s : List Int} {m j : Nat} (hj : j < s.length) (h : m.testBit j = false) : pay s (m ||| 2 ^ j) = pay s m + s.getD j 0 := by
  have h1 := payS_mod s m (2 ^ j) s.length
  rw [bit_new h, payS_zero, payS_one, if_pos hj] at h1
  unfold pay; omega
/-- an order of k gardeners -/
structure Ord (z : List Nat) (k : Nat) : Prop where
  len : z.length = k
  lt : ∀ i, i < k → z.getD i 0 < k
  inj : ∀ i j, i < k → j < k → z.getD i 0 = z.getD j 0 → i = j
  all : ∀ m, m < k → ∃ i, i < k ∧ z.getD i 0 = m
section
variable {c : List Int} {z : List Nat} {k : Nat}
theorem greG_bit (o : Ord z k) : ∀ i, i ≤ k → ∀ m, (greG z i).testBit m = true ↔ ∃ j, j < i ∧ z.getD j 0 = m
  | 0, _, m => by simp [greG]
  | i + 1, hi, m => by
    unfold greG
    rw [Nat.testBit_or, Bool.or_eq_true, greG_bit o i (by omega) m, Nat.testBit_two_pow, decide_eq_true_eq]
    constructor
    · rintro (⟨j, h1, h2⟩ | h)
      · exact ⟨j, by omega, h2⟩
      · exact ⟨i, by omega, h⟩
    · rintro ⟨j, h1, h2⟩
      by_cases e : j = i
      · subst e; exact .inr h2
      · exact .inl ⟨j, by omega, h2⟩
theorem greG_new (o : Ord z k) {i : Nat} (hi : i < k) : (greG z i).testBit (z.getD i 0) = false := by
  cases h : (greG z i).testBit (z.getD i 0)
  · rfl
  · obtain ⟨j, h1, h2⟩ := (greG_bit o i (by omega) _).1 h
    have := o.inj j i (by omega) hi h2
    omega
theorem greG_all (o : Ord z k) : greG z k = 2 ^ k - 1 := by
  refine Nat.eq_of_testBit_eq fun m => ?_
  rw [Nat.testBit_two_pow_sub_one]
  by_cases hm : m < k
  · rw [decide_eq_true hm]
    exact (greG_bit o k (Nat.le_refl _) m).2 (o.all m hm)
  · rw [decide_eq_false hm]
    cases h : (greG z k).testBit m
    · rfl
    · obtain ⟨j, h1, h2⟩ := (greG_bit o k (Nat.le_refl _) m).1 h
      have := o.lt j h1
      omega
theorem greL_get (o : Ord z k) : ∀ n, n ≤ k → ∀ i, i < n → (greL c z n).getD (z.getD i 0) 0 = cs c (greG z (i + 1)) - cs c (greG z i)
  | 0, _, i, hi => by omega
  | n + 1, hn, i, hi => by
    have hlt : z.getD n 0 < (greL c z n).length := by rw [greL_len, o.len]; exact o.lt n (by omega)
    conv => lhs; unfold greL
    rw [set_get hlt]
    by_cases e : i = n
    · subst e; rw [if_pos rfl]
    · rw [if_neg (fun h => e (o.inj n i (by omega) (by omega) h).symm)]
      exact greL_get o n (by omega) i (by omega)
/-- the greedy sharing of an order -/
abbrev gre (c : List Int) (z : List Nat) : List Int := greL c z z.length
theorem gre_len (o : Ord z k) : (gre c z).length = k := by rw [greL_len, o.len]
theorem gre_get (o : Ord z k) {i : Nat} (hi : i < k) : (gre c z).getD (z.getD i 0) 0 = cs c (greG z (i + 1)) - cs c (greG z i) := by
  unfold gre; rw [o.len]; exact greL_get o k (Nat.le_refl _) i hi
theorem gre_pre (o : Ord z k) (h0 : cs c 0 = 0) : ∀ i, i ≤ k → pay (gre c z) (greG z i) = cs c (greG z i)
  | 0, _ => by show payS _ 0 _ = _; rw [payS_zero]; exact h0.symm
  | i + 1, hi => by
    have ih := gre_pre o h0 i (by omega)
    show pay (gre c z) (greG z i ||| 2 ^ z.getD i 0) = _
    rw [pay_add (by rw [gre_len o]; exact o.lt i (by omega)) (greG_new o (by omega)), ih, gre_get o (by omega)]
    omega
theorem and_or_pow {g m j : Nat} : g &&& (m ||| 2 ^ j) = cond (g.testBit j) ((g &&& m) ||| 2 ^ j) (g &&& m) := by
  refine Nat.eq_of_testBit_eq fun i => ?_
  cases hg : g.testBit j
  · simp only [cond_false]
    rw [Nat.testBit_and, Nat.testBit_or, Nat.testBit_two_pow, Nat.testBit_and]
    by_cases e : j = i
    · subst e; rw [hg]; rfl
    · rw [decide_eq_false e, Bool.or_false]
  · simp only [cond_true]
    rw [Nat.testBit_and, Nat.testBit_or, Nat.testBit_or, Nat.testBit_and, Nat.testBit_two_pow]
    by_cases e : j = i
    · subst e; rw [hg]; simp
    · rw [decide_eq_false e, Bool.or_false, Bool.or_false]
theorem gre_le (o : Ord z k) (hN : c.length = 2 ^ k) (hs : Sub c) (h0 : cs c 0 = 0) {g : Nat} (hg : g < 2 ^ k) : ∀ i, i ≤ k → pay (gre c z) (g &&& greG z i) ≤ cs c (g &&& greG z i)
  | 0, _ => by
    show pay _ (g &&& 0) ≤ cs c (g &&& 0)
    rw [Nat.and_zero, h0]
    show payS _ 0 _ ≤ 0
    rw [payS_zero]; exact Int.le_refl _
  | i + 1, hi => by
    have ih := gre_le o hN hs h0 hg i (by omega)
    show pay _ (g &&& (greG z i ||| 2 ^ z.getD i 0)) ≤ cs c (g &&& (greG z i ||| 2 ^ z.getD i 0))
    rw [and_or_pow]
    cases hb : g.testBit (z.getD i 0)
    · exact ih
    · simp only [cond_true]
      have hnew : (g &&& greG z i).testBit (z.getD i 0) = false := by rw [Nat.testBit_and, greG_new o (by omega), Bool.and_false]
      rw [pay_add (by rw [gre_len o]; exact o.lt i (by omega)) hnew, gre_get o (by omega)]
      have hlt : ∀ i, i < z.length → z.getD i 0 < k := fun i hi => o.lt i (by rw [← o.len]; exact hi)
      have l1 : greG z i < c.length := by rw [hN]; exact greG_lt hlt i (by rw [o.len]; omega)
      have l3 : (g &&& greG z i) ||| 2 ^ z.getD i 0 < c.length := by
        rw [hN]
        exact Nat.or_lt_two_pow (Nat.lt_of_le_of_lt Nat.and_le_left hg) (Nat.pow_lt_pow_right (by omega) (o.lt i (by omega)))
      have h := hs ((g &&& greG z i) ||| 2 ^ z.getD i 0) (greG z i) l3 l1
      have e1 : ((g &&& greG z i) ||| 2 ^ z.getD i 0) ||| greG z i = greG z (i + 1) := by
        show _ = greG z i ||| 2 ^ z.getD i 0
        refine Nat.eq_of_testBit_eq fun m => ?_
        simp only [Nat.testBit_or, Nat.testBit_and]
        cases g.testBit m <;> cases (greG z i).testBit m <;> cases (2 ^ z.getD i 0).testBit m <;> rfl
      have e2 : ((g &&& greG z i) ||| 2 ^ z.getD i 0) &&& greG z i = g &&& greG z i := by
        refine Nat.eq_of_testBit_eq fun m => ?_
        simp only [Nat.testBit_or, Nat.testBit_and, Nat.testBit_two_pow]
        by_cases e : z.getD i 0 = m
        · subst e; rw [greG_new o (by omega)]; simp
        · rw [decide_eq_false e]
          cases g.testBit m <;> cases (greG z i).testBit m <;> rfl
      rw [e1, e2] at h
      omega
theorem gre_fair (o : Ord z k) (hN : c.length = 2 ^ k) (hs : Sub c) (h0 : cs c 0 = 0) : (∀ g, g < c.length → pay (gre c z) g ≤ cs c g) ∧ pay (gre c z) (c.length - 1) = cs c (c.length - 1) := by
  constructor
  · intro g hg
    rw [hN] at hg
    have := gre_le o hN hs h0 hg k (Nat.le_refl _)
    rw [greG_all o, Nat.and_two_pow_sub_one_eq_mod, Nat.mod_eq_of_lt hg] at this
    exact this
  · have := gre_pre o h0 k (Nat.le_refl _)
    rw [greG_all o, ← hN] at this
    exact this
theorem lastL_ord (k : Nat) : Ord (lastL k) k := ⟨lastL_len k, fun i hi => by rw [lastL_get hi]; omega, fun i j hi hj h => by rw [lastL_get hi, lastL_get hj] at h; omega, fun m hm => ⟨k - 1 - m, by omega, by rw [lastL_get (by omega)]; omega⟩⟩
end
/-- a fair sharing -/
theorem fairB_iff {c s : List Int} (hp : 0 < c.length) : fairB c s = true ↔ (∀ g, g < c.length → pay s g ≤ cs c g) ∧ pay s (c.length - 1) = cs c (c.length - 1) := by
  unfold fairB dear
  cases hh : (grp c.length [fun g => decide (cs c g < payS s g s.length)]).head? with
  | none =>
    rw [List.head?_eq_none_iff] at hh
    have hno : ∀ g, g < c.length → pay s g ≤ cs c g := fun g hg => by
      refine Int.not_lt.1 fun h => ?_
      have : g ∈ grp c.length [fun g => decide (cs c g < payS s g s.length)] := mem_grp1.2 ⟨hg, decide_eq_true h⟩
      rw [hh] at this; cases this
    simp only [allP, decide_eq_true_eq]
    exact ⟨fun h => ⟨hno, h⟩, fun h => h.2⟩
  | some g =>
    have hm : g ∈ grp c.length [fun g => decide (cs c g < payS s g s.length)] := List.mem_of_head? hh
    obtain ⟨h1, h2⟩ := mem_grp1.1 hm
    have h2 := of_decide_eq_true h2
    constructor
    · intro h; cases h
    · intro h
      have h3 := h.1 g h1
      exfalso
      unfold pay at h3
      omega
end Go.Proofs.Ythdglempcfknhaa.T

/- Edmonds: the sharing that proves the least cost; the law ShareEdmonds. -/
open Go.Vm
set_option linter.unusedVariables false
namespace Go.Proofs.Ythdglempcfknhaa.T
open Go

section
variable {c s : List Int} {k : Nat}
end
/-- the lexicographic order, as far as both lists reach -/
def lexB (a b : List Int) : Bool := (firstS (fun i => if a.getD i 0 = b.getD i 0 then none else some (decide (a.getD i 0 < b.getD i 0))) (min a.length b.length) 0).getD false
theorem lexB_true {a b : List Int} (h : lexB a b = true) : ∃ i, i < a.length ∧ i < b.length ∧ a.getD i 0 < b.getD i 0 ∧ ∀ j, j < i → a.getD j 0 = b.getD j 0 := by
  unfold lexB at h
  cases hf : firstS (fun i => if a.getD i 0 = b.getD i 0 then none else some (decide (a.getD i 0 < b.getD i 0))) (min a.length b.length) 0 with
  | none => rw [hf] at h; cases h
  | some r =>
    rw [hf] at h
    obtain ⟨i, h1, h2, h3, h4⟩ := firstS_some hf
    simp only [Option.getD_some] at h
    subst h
    by_cases e : a.getD i 0 = b.getD i 0
    · rw [if_pos e] at h3; cases h3
    · rw [if_neg e] at h3
      have h5 : decide (a.getD i 0 < b.getD i 0) = true := by simpa using h3
      refine ⟨i, by omega, by omega, of_decide_eq_true h5, fun j hj => ?_⟩
      have := h4 j (by omega) hj
      by_cases e2 : a.getD j 0 = b.getD j 0
      · exact e2
      · rw [if_neg e2] at this; cases this
section
variable {ro : List ABlk} {h : Heap} {va vb : AVal} {c s : List Int}
theorem before42 {a b : List Int} (ha : IsRow ro h va a) (hb : IsRow ro h vb b) (hl : min a.length b.length ≤ 1000000) : callX F1 ro 42 [va, vb] h = some (.b (lexB a b), h, h.length, h.length) := by
  refine g42_ok (meansX_ok F1 ro) rfl ?_
  unfold g42
  simp only [meansX_loop]
  have hst := loop_st (b := fun t : Int => g42_b0 (meansX F1 ro) ro va vb ⟨h, h.length, h.length⟩ t) (fun j => (j : Int)) (min a.length b.length) (fun i => (if a.getD i 0 = b.getD i 0 then none else some (decide (a.getD i 0 < b.getD i 0)) : Option Bool).map Sum.inr) (.inl ()) ?_ ?_ (min a.length b.length) 0 (by omega)
  · have e0 : ((0 : Nat) : Int) = 0 := rfl
    rw [e0] at hst
    rw [hst]
    unfold lexB
    have hm : firstS (fun i => (if a.getD i 0 = b.getD i 0 then none else some (decide (a.getD i 0 < b.getD i 0)) : Option Bool).map (Sum.inr (α := Unit))) (min a.length b.length) 0 = (firstS (fun i => if a.getD i 0 = b.getD i 0 then none else some (decide (a.getD i 0 < b.getD i 0))) (min a.length b.length) 0).map Sum.inr := by
      cases hf : firstS (fun i => if a.getD i 0 = b.getD i 0 then none else some (decide (a.getD i 0 < b.getD i 0))) (min a.length b.length) 0 with
      | none =>
        refine firstS_none.2 fun j h1 h2 => ?_
        rw [firstS_none.1 hf j h1 h2]; rfl
      | some r =>
        obtain ⟨j, h1, h2, h3, h4⟩ := firstS_some hf
        refine firstS_at h1 h2 (fun j' h5 h6 => by rw [h4 j' h5 h6]; rfl) ?_
        rw [h3]; rfl
    rw [hm]
    cases firstS (fun i => if a.getD i 0 = b.getD i 0 then none else some (decide (a.getD i 0 < b.getD i 0))) (min a.length b.length) 0 with
    | none => simp only [Option.map_none, Option.getD_none, bindO_some, tupA]; exact fin_pure rfl
    | some r => simp only [Option.map_some, Option.getD_some, bindO_some, tupA]; exact fin_pure rfl
  · simp only [g42_b0, len_row ha, len_row hb, bindO_some, asI_i, forceB_eq, ltI_eq]
    by_cases h1 : a.length ≤ b.length
    · rw [Nat.min_eq_left h1]
      simp only [lt_no, cond_false, bindO_some]
    · rw [Nat.min_eq_right (by omega)]
      have e2 : decide ((b.length : Int) < (a.length : Int)) = true := dT (by omega)
      simp only [e2, cond_true, lt_no, bindO_some, cond_false]
  · intro i hi
    obtain ⟨p, p1, p2⟩ := at_rowK ha (i := i) (by omega)
    obtain ⟨q, q1, q2⟩ := at_rowK hb (i := i) (by omega)
    have p3 := (p2 (l := h.length) (q := h.length) (Keep.refl h)).2
    have q3 := (q2 (l := h.length) (q := h.length) (Keep.refl h)).2
    have l1 : i < a.length := by omega
    have l2 : i < b.length := by omega
    simp only [g42_b0, len_row ha, len_row hb, bindO_some, asI_i, forceB_eq, ltI_eq, lt_yes l1, lt_yes l2, cond_true, p1, p3, q1, q3]
    by_cases e : a.getD i 0 = b.getD i 0
    · simp only [neqF e, cond_false, if_pos e, forceI_eq, wr_next (show i ≤ 1000000 by omega)]
      rfl
    · simp only [neqT e, cond_true, if_neg e]
      rfl
end
end Go.Proofs.Ythdglempcfknhaa.T

/- Weights; Fills on both sides. -/
open Go.Vm
set_option linter.unusedVariables false
namespace Go.Proofs.Ythdglempcfknhaa.T
open Go

def weiP (n : Int) (w : List Int) : Prop := (w.length : Int) = n ∧ ∀ j, j < w.length → 0 ≤ w.getD j 0 ∧ w.getD j 0 ≤ 1000
instance (n : Int) (w : List Int) : Decidable (weiP n w) := inferInstanceAs (Decidable ((w.length : Int) = n ∧ ∀ j, j < w.length → 0 ≤ w.getD j 0 ∧ w.getD j 0 ≤ 1000))
/-- the group of all of the first i who weigh at least so much -/
def hvS (w : List Int) (t : Int) : Nat → Nat
  | 0 => 0
  | i + 1 => if t ≤ w.getD i 0 then hvS w t i ||| 2 ^ i else hvS w t i
theorem hvS_lt (w : List Int) (t : Int) : ∀ i, hvS w t i < 2 ^ i
  | 0 => by simp [hvS]
  | i + 1 => by
    have ih := hvS_lt w t i
    have h2 : 2 ^ (i + 1) = 2 ^ i + 2 ^ i := by rw [Nat.pow_succ]; omega
    unfold hvS
    split
    · refine Nat.or_lt_two_pow (by omega) (Nat.pow_lt_pow_right (by omega) (by omega))
    · omega
theorem hvS_bit (w : List Int) (t : Int) : ∀ i j, (hvS w t i).testBit j = (decide (j < i) && decide (t ≤ w.getD j 0))
  | 0, j => by simp [hvS]
  | i + 1, j => by
    have ih := hvS_bit w t i j
    unfold hvS
    by_cases h : t ≤ w.getD i 0
    · rw [if_pos h, Nat.testBit_or, ih, Nat.testBit_two_pow]
      by_cases e : i = j
      · subst e; rw [decide_eq_true h]; simp
      · rw [decide_eq_false e, Bool.or_false]
        by_cases h2 : j < i
        · rw [decide_eq_true h2, decide_eq_true (show j < i + 1 by omega)]
        · rw [decide_eq_false h2, decide_eq_false (show ¬ j < i + 1 by omega)]
    · rw [if_neg h, ih]
      by_cases e : i = j
      · subst e; rw [decide_eq_false h]; simp
      · by_cases h2 : j < i
        · rw [decide_eq_true h2, decide_eq_true (show j < i + 1 by omega)]
        · rw [decide_eq_false h2, decide_eq_false (show ¬ j < i + 1 by omega)]
abbrev hv (w : List Int) (t : Int) : Nat := hvS w t w.length
/-- the costs of the levels 1, 2 and so on -/
def fillS (c w : List Int) : Nat → Int
  | 0 => 0
  | t + 1 => fillS c w t + cs c (hv w ((t + 1 : Nat) : Int))
theorem fillS_succ (c w : List Int) (t : Nat) : fillS c w (t + 1) = fillS c w t + cs c (hv w ((t + 1 : Nat) : Int)) := rfl
def maxW : List Int → Int
  | [] => 0
  | [x] => x
  | x :: y :: l => if maxW (y :: l) < x then x else maxW (y :: l)
theorem maxW_ok : ∀ l : List Int, l ≠ [] → (∃ x ∈ l, maxW l = x) ∧ ∀ x ∈ l, x ≤ maxW l
  | [], h => absurd rfl h
  | [x], _ => ⟨⟨x, by simp, rfl⟩, fun y hy => by simp at hy; subst hy; exact Int.le_refl _⟩
  | x :: y :: l, _ => by
    obtain ⟨⟨z, h1, h2⟩, h3⟩ := maxW_ok (y :: l) (by simp)
    unfold maxW
    split
    · refine ⟨⟨x, by simp, rfl⟩, fun u hu => ?_⟩
      rcases List.mem_cons.1 hu with rfl | hu
      · exact Int.le_refl _
      · have := h3 u hu; omega
    · refine ⟨⟨z, by simp [List.mem_cons.1 h1], h2⟩, fun u hu => ?_⟩
      rcases List.mem_cons.1 hu with rfl | hu
      · omega
      · exact h3 u hu
def fillR (n : Int) (c w : List Int) : Int := if costP n c ∧ weiP n w then fillS c w 1000 else 0
def fillE (n : Int) (c w : List Int) : Int := if costP n c ∧ weiP n w then 0 else 2
theorem mem_getD {l : List Int} {x : Int} (h : x ∈ l) : ∃ i, i < l.length ∧ l.getD i 0 = x := by
  obtain ⟨i, hi, rfl⟩ := List.getElem_of_mem h
  exact ⟨i, hi, by simp [List.getD, hi]⟩
theorem getD_memI {l : List Int} {i : Nat} (h : i < l.length) : l.getD i 0 ∈ l := by
  have : l.getD i 0 = l[i] := by simp [List.getD, h]
  rw [this]; exact List.getElem_mem h
/-- above the greatest weight nobody is left -/
theorem hv_none {w : List Int} {t : Int} (h : ∀ j, j < w.length → w.getD j 0 < t) : hv w t = 0 := by
  refine Nat.eq_of_testBit_eq fun j => ?_
  rw [hvS_bit, Nat.zero_testBit]
  by_cases hj : j < w.length
  · rw [decide_eq_false (show ¬ t ≤ w.getD j 0 from fun h2 => by have := h j hj; omega), Bool.and_false]
  · rw [decide_eq_false hj, Bool.false_and]
theorem fillS_stop {c w : List Int} (h0 : cs c 0 = 0) {m : Nat} (h : ∀ j, j < w.length → w.getD j 0 ≤ (m : Int)) : ∀ d, fillS c w (m + d) = fillS c w m
  | 0 => rfl
  | d + 1 => by
    rw [← Nat.add_assoc, fillS_succ, fillS_stop h0 h d, hv_none (fun j hj => by have := h j hj; omega), h0, Int.add_zero]
section
variable {ro : List ABlk} {h : Heap} {va vb : AVal} {c w : List Int}
theorem wei78 {n : Int} (hb : IsRow ro h vb w) (hl : w.length ≤ 9223372036854775807) : callX F1 ro 78 [.i .i64 n, vb] h = some (.b (decide (weiP n w)), h, h.length, h.length) := by
  refine g78_ok (meansX_ok F1 ro) rfl ?_
  unfold g78
  simp only [len_row hb, bindO_some, asI_i, meansX_loop]
  have hloop := loop_if (b := fun t : Int => g78_b0 (meansX F1 ro) ro n vb w.length ⟨h, h.length, h.length⟩ t) (fun i => (i : Int)) w.length (fun i => 0 ≤ w.getD i 0 ∧ w.getD i 0 ≤ 1000) (.inl ()) (.inr false) ?_ ?_ ?_
  · have e0 : ((0 : Nat) : Int) = 0 := rfl
    rw [e0] at hloop
    rw [hloop]
    by_cases hf : ∀ i, i < w.length → 0 ≤ w.getD i 0 ∧ w.getD i 0 ≤ 1000
    · rw [if_pos hf]
      simp only [bindO_some, forceB_eq, tupA]
      have e : decide (weiP n w) = eqI (w.length : Int) n := by
        rw [eqI_eq]
        by_cases h1 : (w.length : Int) = n
        · rw [dT (show weiP n w from ⟨h1, hf⟩), h1]; simp
        · rw [dF (show ¬ weiP n w from fun hh => h1 hh.1)]; exact (beq_eq_false_iff_ne.2 h1).symm
      rw [e]; exact fin_pure rfl
    · rw [if_neg hf]
      simp only [bindO_some, dF (show ¬ weiP n w from fun hh => hf hh.2), tupA]; exact fin_pure rfl
  · simp only [g78_b0, forceB_eq, ltI_eq, lt_no, cond_false]
  · intro i hi hp
    obtain ⟨p, q1, q2, q3⟩ := at_row (m := ⟨h, h.length, h.length⟩) rfl hb hi
    simp only [g78_b0, asI_i, bindO_some, forceB_eq, ltI_eq, lt_yes hi, cond_true, q1, q2, dF (show ¬ w.getD i 0 < 0 by omega), dF (show ¬ (1000 : Int) < w.getD i 0 by omega), cond_false, forceI_eq]
    rw [wr_id' (by omega) (by omega)]; rfl
  · intro i hi hp
    obtain ⟨p, q1, q2, q3⟩ := at_row (m := ⟨h, h.length, h.length⟩) rfl hb hi
    by_cases hlo : w.getD i 0 < 0
    · simp only [g78_b0, asI_i, bindO_some, forceB_eq, ltI_eq, lt_yes hi, cond_true, q1, q2, dT hlo]
    · simp only [g78_b0, asI_i, bindO_some, forceB_eq, ltI_eq, lt_yes hi, cond_true, q1, q2, dF hlo, cond_false, dT (show (1000 : Int) < w.getD i 0 by omega)]
theorem wei43 {n : Int} (hb : IsRow ro h vb w) (hl : w.length ≤ 9223372036854775807) : callX F1 ro 43 [.i .i64 n, vb] h = some (.b (decide (weiP n w)), h, h.length, h.length) := by
  refine g43_ok (meansX_ok F1 ro) rfl ?_
  unfold g43
  simp only [len_row hb, bindO_some, asI_i, forceB_eq, eqI_eq, meansX_loop]
  by_cases h1 : (w.length : Int) = n
  · have b1 : ((w.length : Int) == n) = true := by rw [h1]; simp
    simp only [b1, Bool.not_true, cond_false]
    subst h1
    have hloop := loop_if (b := fun t : Int => g43_b0 (meansX F1 ro) ro (w.length : Int) vb ⟨h, h.length, h.length⟩ t) (fun i => (i : Int)) w.length (fun i => 0 ≤ w.getD i 0 ∧ w.getD i 0 ≤ 1000) (.inl ()) (.inr false) ?_ ?_ ?_
    · have e0 : ((0 : Nat) : Int) = 0 := rfl
      rw [e0] at hloop
      rw [hloop]
      by_cases hf : ∀ i, i < w.length → 0 ≤ w.getD i 0 ∧ w.getD i 0 ≤ 1000
      · rw [if_pos hf]
        simp only [bindO_some, dT (show weiP (w.length : Int) w from ⟨rfl, hf⟩), tupA]; exact fin_pure rfl
      · rw [if_neg hf]
        simp only [bindO_some, dF (show ¬ weiP (w.length : Int) w from fun hh => hf hh.2), tupA]; exact fin_pure rfl
    · simp only [g43_b0, forceB_eq, ltI_eq, lt_no, cond_false]
    · intro i hi hp
      obtain ⟨p, q1, q2, q3⟩ := at_row (m := ⟨h, h.length, h.length⟩) rfl hb hi
      simp only [g43_b0, asI_i, bindO_some, forceB_eq, ltI_eq, lt_yes hi, cond_true, q1, q2, dF (show ¬ w.getD i 0 < 0 by omega), dF (show ¬ (1000 : Int) < w.getD i 0 by omega), cond_false, forceI_eq]
      rw [wr_id' (by omega) (by omega)]; rfl
    · intro i hi hp
      obtain ⟨p, q1, q2, q3⟩ := at_row (m := ⟨h, h.length, h.length⟩) rfl hb hi
      by_cases hlo : w.getD i 0 < 0
      · simp only [g43_b0, asI_i, bindO_some, forceB_eq, ltI_eq, lt_yes hi, cond_true, q1, q2, dT hlo]
      · simp only [g43_b0, asI_i, bindO_some, forceB_eq, ltI_eq, lt_yes hi, cond_true, q1, q2, dF hlo, cond_false, dT (show (1000 : Int) < w.getD i 0 by omega)]
  · have b1 : ((w.length : Int) == n) = false := by simpa using h1
    simp only [b1, Bool.not_false, cond_true, dF (show ¬ weiP n w from fun hh => h1 hh.1), tupA]; exact fin_pure rfl
theorem max79 (hb : IsRow ro h vb w) (hp : 0 < w.length) (hl : w.length ≤ 1000) : callX F1 ro 79 [vb] h = some (.i .i64 (maxW w), h, h.length, h.length) := by
  refine g79_ok (meansX_ok F1 ro) rfl ?_
  unfold g79
  obtain ⟨p, p1, p2⟩ := row_at (l := h.length) (p := h.length) hb (Keep.refl h) hp
  have e0 : ((0 : Nat) : Int) = 0 := rfl
  rw [e0] at p1
  simp only [len_row hb, bindO_some, asI_i, forceB_eq, ltI_eq, dF (show ¬ ((w.length : Nat) : Int) < 1 by omega), cond_false, p1, p2, meansX_loop]
  have hh := loop_gen (b := fun t : Int × Int => g79_b0 (meansX F1 ro) ro vb ⟨h, h.length, h.length⟩ t.1 t.2) w.length (fun i t => ∃ y, t = (y, (i : Int)) ∧ (∃ x ∈ w, y = x) ∧ ∀ j, j < i → w.getD j 0 ≤ y) (fun r => r = maxW w) ?_ ?_ (w.length - 1) 1 (w.getD 0 0, 1) (by omega) ⟨_, rfl, ⟨_, getD_memI hp, rfl⟩, fun j hj => by
      obtain rfl : j = 0 := by omega
      exact Int.le_refl _⟩
  · obtain ⟨r, r1, rfl⟩ := hh
    rw [r1]
    simp only [bindO_some, tupA]
    exact fin_pure rfl
  · rintro i t hi ⟨y, rfl, hy, hall⟩
    obtain ⟨q, q1, q2⟩ := row_at (l := h.length) (p := h.length) hb (Keep.refl h) hi
    have hmx : mxV true y (w.getD i 0) = if y < w.getD i 0 then w.getD i 0 else y := by
      unfold mxV
      simp only [if_true, gt_iff_lt]
    simp only [g79_b0, len_row hb, bindO_some, asI_i, forceB_eq, ltI_eq, lt_yes hi, cond_true, q1, q2, forceI_eq, hmx, wr_next (show i ≤ 1000000 by omega)]
    refine ⟨_, rfl, _, rfl, ?_, fun j hj => ?_⟩
    · split
      · exact ⟨_, getD_memI hi, rfl⟩
      · exact hy
    · by_cases hji : j = i
      · subst hji; split <;> omega
      · have := hall j (by omega)
        split <;> omega
  · rintro t ⟨y, rfl, ⟨x, hx, rfl⟩, hall⟩
    simp only [g79_b0, len_row hb, bindO_some, asI_i, forceB_eq, ltI_eq, lt_no, cond_false]
    obtain ⟨⟨u, u1, u2⟩, u3⟩ := maxW_ok w (by intro e; rw [e] at hp; simp at hp)
    obtain ⟨i, i1, i2⟩ := mem_getD u1
    have h1 := hall i i1
    have h2 := u3 y hx
    exact ⟨_, rfl, by omega⟩
theorem heavy80 (hb : IsRow ro h vb w) (hl : w.length ≤ 60) {t : Int} : callX F1 ro 80 [vb, .i .i64 t] h = some (.i .i64 ((hv w t : Nat) : Int), h, h.length, h.length) := by
  refine g80_ok (meansX_ok F1 ro) rfl ?_
  unfold g80
  simp only [len_row hb, bindO_some, asI_i, meansX_loop]
  have hloop := loop_run (b := fun s : Int × Int => g80_b0 (meansX F1 ro) ro t vb (w.length : Int) ⟨h, h.length, h.length⟩ s.1 s.2) (fun i => (((hvS w t i : Nat) : Int), (i : Int))) w.length (r0 := ((hv w t : Nat) : Int)) ?_ ?_
  · have e0 : (((hvS w t 0 : Nat) : Int), ((0 : Nat) : Int)) = (0, 0) := rfl
    rw [e0] at hloop
    rw [hloop]
    simp only [bindO_some, tupA]
    exact fin_pure rfl
  · simp only [g80_b0, forceB_eq, ltI_eq, lt_no, cond_false]
  · intro i hi
    obtain ⟨q, q1, q2⟩ := row_at (l := h.length) (p := h.length) hb (Keep.refl h) hi
    have hlt := hvS_lt w t i
    have hp60 : 2 ^ i ≤ 2 ^ 60 := Nat.pow_le_pow_right (by omega) (by omega)
    have e1 : (!decide (((i : Nat) : Int) < Int.ofNat 0)) = true := by have := neg_ltI (a := i); rwa [ltI_eq] at this
    simp only [g80_b0, forceB_eq, ltI_eq, lt_yes hi, cond_true, q1, q2, bindO_some, asI_i, e1, chk_true, forceI_eq, shl1 (show i ≤ 60 by omega), or64 (show hvS w t i < 9223372036854775808 by omega) (show 2 ^ i < 9223372036854775808 by omega), wr_next (show i ≤ 1000000 by omega)]
    by_cases ht : w.getD i 0 < t
    · simp only [dT ht, Bool.not_true, cond_false, bindO_some, hvS, if_neg (show ¬ t ≤ w.getD i 0 by omega)]
    · simp only [dF ht, Bool.not_false, cond_true, bindO_some, hvS, if_pos (show t ≤ w.getD i 0 by omega)]
theorem fillS_bd (hw : withinP c 1000000) {k : Nat} (hN : c.length = 2 ^ k) (hl : w.length = k) : ∀ t : Nat, -(1000000 * (t : Int)) ≤ fillS c w t ∧ fillS c w t ≤ 1000000 * (t : Int)
  | 0 => by simp [fillS]
  | t + 1 => by
    obtain ⟨h1, h2⟩ := fillS_bd hw hN hl t
    have hlt : hv w ((t + 1 : Nat) : Int) < c.length := by rw [hN, ← hl]; exact hvS_lt w _ _
    have h3 := hw _ hlt
    rw [fillS_succ]
    unfold cs
    omega
theorem fills33 {n : Int} (ha : IsRow ro h va c) (hla : c.length ≤ 9223372036854775807) (hb : IsRow ro h vb w) (hlb : w.length ≤ 9223372036854775807) : callX F1 ro 33 [.i .i64 n, va, vb] h = some (.tup [.i .i64 (fillR n c w), .i .i64 (fillE n c w)], h, h.length, h.length) := by
  refine g33_ok (meansX_ok F1 ro) rfl ?_
  unfold g33
  simp only [meansX_call, cp0 (cost44 (n := n) ha hla), bindP_some, asB_b, forceB_eq]
  by_cases hc : costP n c
  rotate_left
  · simp only [dF hc, Bool.not_false, cond_true, bindO_some, fillR, fillE, if_neg (show ¬ (costP n c ∧ weiP n w) from fun hh => hc hh.1), tupA]; exact fin_pure rfl
  simp only [dT hc, Bool.not_true, cond_false, cp0 (wei78 (n := n) hb hlb), bindP_some, asB_b, bindO_some]
  by_cases hwt : weiP n w
  rotate_left
  · simp only [dF hwt, Bool.not_false, cond_true, bindO_some, fillR, fillE, if_neg (show ¬ (costP n c ∧ weiP n w) from fun hh => hwt hh.2), tupA]; exact fin_pure rfl
  obtain ⟨k, rfl, hk1, hk6, hN, h64⟩ := costN hc
  have hl : w.length = k := by have := hwt.1; omega
  have hw : withinP c 1000000 := hc.2.2.2
  have hwne : w ≠ [] := by intro e; rw [e] at hl; simp at hl; omega
  obtain ⟨⟨u, u1, u2⟩, u3⟩ := maxW_ok w hwne
  obtain ⟨i, i1, i2⟩ := mem_getD u1
  have hui := hwt.2 i i1
  obtain ⟨M, hM⟩ : ∃ M : Nat, maxW w = (M : Int) := ⟨(maxW w).toNat, by omega⟩
  have hM1 : M ≤ 1000 := by omega
  have c79 := max79 hb (by omega) (by omega)
  rw [hM] at c79
  simp only [dT hwt, Bool.not_true, cond_false, bindO_some, meansX_loop]
  have key := loop_run (b := fun s : Int × Int × Mm => g33_b1 (meansX F1 ro) ro va vb s.1 s.2.1 s.2.2) (fun t => (fillS c w t, ((t + 1 : Nat) : Int), (⟨h, h.length, h.length⟩ : Mm))) M (r0 := (fillS c w M, (⟨h, h.length, h.length⟩ : Mm))) ?_ ?_
  · have e0 : (fillS c w 0, ((0 + 1 : Nat) : Int), (⟨h, h.length, h.length⟩ : Mm)) = (0, 1, ⟨h, h.length, h.length⟩) := rfl
    rw [e0] at key
    rw [key]
    have hst := fillS_stop (c := c) (w := w) hc.2.2.1 (m := M) (fun j hj => by have := u3 _ (getD_memI hj); omega) (1000 - M)
    rw [show M + (1000 - M) = 1000 by omega] at hst
    simp only [bindO_some, fillR, fillE, if_pos (show costP (k : Int) c ∧ weiP (k : Int) w from ⟨hc, hwt⟩), hst, tupA]
    exact fin_pure rfl
  · simp only [g33_b1, meansX_call, cp0 c79, bindP_some, asI_i, forceB_eq, ltI_eq, dT (show ((M : Nat) : Int) < ((M + 1 : Nat) : Int) by omega), Bool.not_true, cond_false]
  · intro t ht
    have hlt : hv w ((t + 1 : Nat) : Int) < c.length := by rw [hN, ← hl]; exact hvS_lt w _ _
    obtain ⟨q, q1, q2⟩ := row_at (l := h.length) (p := h.length) ha (Keep.refl h) hlt
    have bd := fillS_bd hw hN hl (t + 1)
    rw [fillS_succ] at bd
    have e3 : Go.Vm.wr .i64 (((t + 1 : Nat) : Int) + 1) = ((t + 1 + 1 : Nat) : Int) := wr_next (by omega)
    simp only [g33_b1, meansX_call, cp0 c79, bindP_some, asI_i, forceB_eq, ltI_eq, dF (show ¬ ((M : Nat) : Int) < ((t + 1 : Nat) : Int) by omega), Bool.not_false, cond_true, cp0 (heavy80 hb (by omega) (t := ((t + 1 : Nat) : Int))), q1, q2, bindO_some, forceI_eq, e3, fillS_succ]
    have e4 : c.getD (hv w ((t + 1 : Nat) : Int)) 0 = cs c (hv w ((t + 1 : Nat) : Int)) := rfl
    rw [e4, wr_id' (by omega) (by omega)]
end
end Go.Proofs.Ythdglempcfknhaa.T

/- The stable insertion sort by weights. -/
open Go.Vm
set_option linter.unusedVariables false
namespace Go.Proofs.Ythdglempcfknhaa.T
open Go

def swp (l : List Nat) (j : Nat) : List Nat := (l.set (j + 1) (l.getD j 0)).set j (l.getD (j + 1) 0)
/-- the element at a place goes down as long as it weighs more than the one before -/
def insJ (w : List Int) (l : List Nat) : Nat → List Nat
  | 0 => l
  | j + 1 => if w.getD (l.getD j 0) 0 < w.getD (l.getD (j + 1) 0) 0 then insJ w (swp l j) j else l
def srt (w : List Int) (l : List Nat) : Nat → List Nat
  | 0 => l
  | i + 1 => insJ w (srt w l i) (i + 1)
theorem swp_len (l : List Nat) (j : Nat) : (swp l j).length = l.length := by simp [swp]
theorem setN_get {z : List Nat} {k j x : Nat} (hk : k < z.length) : (z.set k x).getD j 0 = if k = j then x else z.getD j 0 := by
  by_cases e : k = j
  · subst e; simp [List.getD, hk]
  · rw [if_neg e]; simp [List.getD, List.getElem?_set_ne e]
theorem swp_get {l : List Nat} {j i : Nat} (hj : j + 1 < l.length) : (swp l j).getD i 0 = if i = j then l.getD (j + 1) 0 else if i = j + 1 then l.getD j 0 else l.getD i 0 := by
  unfold swp
  rw [setN_get (by simp; omega), setN_get hj]
  by_cases h1 : i = j
  · rw [if_pos h1, if_pos h1.symm]
  · rw [if_neg h1, if_neg (fun e => h1 e.symm)]
    by_cases h2 : i = j + 1
    · rw [if_pos h2, if_pos h2.symm]
    · rw [if_neg h2, if_neg (fun e => h2 e.symm)]
theorem insJ_len (w : List Int) : ∀ (j : Nat) (l : List Nat), (insJ w l j).length = l.length
  | 0, l => rfl
  | j + 1, l => by
    unfold insJ
    split
    · rw [insJ_len w j, swp_len]
    · rfl
theorem srt_len (w : List Int) (l : List Nat) : ∀ i, (srt w l i).length = l.length
  | 0 => rfl
  | i + 1 => by show (insJ w (srt w l i) (i + 1)).length = _; rw [insJ_len, srt_len w l i]
theorem nts_set (l : List Nat) (j x : Nat) : (nts l).set j (x : Int) = nts (l.set j x) := by unfold nts; rw [List.map_set]
/-- places below k -/
def LtL (l : List Nat) (k : Nat) : Prop := ∀ i, i < l.length → l.getD i 0 < k
theorem swp_lt {l : List Nat} {j k : Nat} (hj : j + 1 < l.length) (h : LtL l k) : LtL (swp l j) k := fun i hi => by
  rw [swp_len] at hi
  rw [swp_get hj]
  split
  · exact h _ hj
  · split
    · exact h _ (by omega)
    · exact h _ hi
theorem insJ_lt {w : List Int} {k : Nat} : ∀ (j : Nat) (l : List Nat), j < l.length → LtL l k → LtL (insJ w l j) k
  | 0, l, _, h => h
  | j + 1, l, hj, h => by
    unfold insJ
    split
    · exact insJ_lt j _ (by rw [swp_len]; omega) (swp_lt hj h)
    · exact h
theorem srt_lt {w : List Int} {k : Nat} {l : List Nat} (h : LtL l k) : ∀ i, i < l.length → LtL (srt w l i) k
  | 0, _ => h
  | i + 1, hi => insJ_lt (i + 1) _ (by rw [srt_len]; exact hi) (srt_lt h i (by omega))
/-- one block alone has changed -/
def SameB (H H' : Heap) (b : Nat) : Prop := H'.length = H.length ∧ ∀ i, i ≠ b → H'[i]? = H[i]?
theorem SameB.refl (H : Heap) (b : Nat) : SameB H H b := ⟨rfl, fun _ _ => rfl⟩
theorem SameB.trans {H1 H2 H3 : Heap} {b : Nat} (a : SameB H1 H2 b) (c : SameB H2 H3 b) : SameB H1 H3 b := ⟨by rw [c.1, a.1], fun i hi => by rw [c.2 i hi, a.2 i hi]⟩
theorem SameB.keep {h H H' : Heap} {b : Nat} (s : SameB H H' b) (k : Keep h H) (hb : h.length ≤ b) : Keep h H' := ⟨by rw [s.1]; exact k.1, fun i hi => by rw [s.2 i (by omega)]; exact k.2 i hi⟩
theorem SameB.holds {H H' : Heap} {b b2 : Nat} {vs : List AVal} (s : SameB H H' b) (hb : b2 ≠ b) (a : Holds H b2 vs) : Holds H' b2 vs := a.keep (s.2 b2 hb)
theorem writes_cons {ro : List ABlk} {q : Vm.Loc} {vs : List AVal} {l : List (Vm.Loc × List AVal)} {m : Mm} {h : Heap} (hw : wrH m.h q vs = some h) (hn : nonp vs = true) : writesM ro [] ((q, vs) :: l) m = writesM ro [] l ⟨h, min m.lw q.b, m.lp⟩ := by
  simp only [writesM, writes, hw, hn, ckOk, if_true]
section
variable {ro : List ABlk} {h : Heap} {va vb : AVal} {c w : List Int}
theorem HI.wr2 {hp : Heap} {b i j : Nat} {x y : Int} {z : List Int} (a : HI hp b z) (hj : j < z.length) (hi : i < z.length) : ∃ hp', (∀ l p, writesM ro [] [(⟨false, b, 0 + j⟩, AVal.cells (.i .i64 x)), (⟨false, b, 0 + i⟩, AVal.cells (.i .i64 y))] ⟨hp, l, p⟩ = some ⟨hp', min (min l b) b, p⟩) ∧ HI hp' b ((z.set j x).set i y) ∧ SameB hp hp' b := by
  obtain ⟨h1, w1, w2, w3, w4, -⟩ := HI.wr (ro := ro) (h := []) (k := j) (x := x) a hj (Nat.zero_le _) ⟨Nat.zero_le _, fun i hi => by simp at hi⟩
  obtain ⟨h2, y1, y2, y3, y4, -⟩ := HI.wr (ro := ro) (h := []) (k := i) (x := y) w2 (by simpa using hi) (Nat.zero_le _) ⟨Nat.zero_le _, fun i hi => by simp at hi⟩
  have one : ∀ {hp hp' : Heap} {k : Nat} {u : Int} {z : List Int}, HI hp b z → k < z.length → writesM ro [] [(⟨false, b, 0 + k⟩, AVal.cells (.i .i64 u))] ⟨hp, ([] : Heap).length, ([] : Heap).length⟩ = some ⟨hp', ([] : Heap).length, ([] : Heap).length⟩ → wrH hp ⟨false, b, 0 + k⟩ (AVal.cells (.i .i64 u)) = some hp' := by
    intro hp hp' k u z ha hk hw
    obtain ⟨blk, g1, g2, g3⟩ := ha
    rw [List.length_map] at g2
    have hh := wrH_heap (off := 0 + k) g1 (by omega) (v := .i .i64 u) rfl
    have hc := writes_cons (ro := ro) (l := []) (m := ⟨hp, ([] : Heap).length, ([] : Heap).length⟩) hh rfl
    have hw' : writesM ro [] [(⟨false, b, 0 + k⟩, [AVal.i .i64 u])] ⟨hp, ([] : Heap).length, ([] : Heap).length⟩ = some ⟨hp', ([] : Heap).length, ([] : Heap).length⟩ := hw
    rw [hc] at hw'
    simp only [writesM, writes, St.mm, Option.some.injEq, Mm.mk.injEq] at hw'
    show wrH hp ⟨false, b, 0 + k⟩ [AVal.i .i64 u] = some hp'
    rw [hh, hw'.1]
  have r1 := one a hj w1
  have r2 := one w2 (by simpa using hi) y1
  refine ⟨h2, fun l p => ?_, y2, ⟨by rw [y3, w3], fun i hi => by rw [y4 i hi, w4 i hi]⟩⟩
  rw [writes_cons r1 rfl, writes_cons r2 rfl]
  rfl
def cmpI (a b : Int) : Int := if a < b then -1 else if b < a then 1 else 0
theorem nan101 {x : Int} : callX F1 ro 101 [.i .i64 x] h = some (.b false, h, h.length, h.length) := by
  refine g101_ok (meansX_ok F1 ro) rfl ?_
  unfold g101
  simp only [neqF (rfl : x = x), forceB_eq, tupA]
  exact fin_pure rfl
theorem cmp83 {x y : Int} : callX F1 ro 83 [.i .i64 x, .i .i64 y] h = some (.i .i64 (cmpI x y), h, h.length, h.length) := by
  refine g83_ok (meansX_ok F1 ro) rfl ?_
  unfold g83
  simp only [meansX_call, cp0 nan101, bindP_some, asB_b, cond_false, forceB_eq, ltI_eq]
  unfold cmpI
  by_cases h1 : x < y
  · simp only [dT h1, cond_true, if_pos h1, tupA]; exact fin_pure rfl
  · by_cases h2 : y < x
    · simp only [dF h1, dT h2, cond_true, cond_false, if_neg h1, if_pos h2, tupA]; exact fin_pure rfl
    · simp only [dF h1, dF h2, cond_false, if_neg h1, if_neg h2, tupA]; exact fin_pure rfl
theorem cmp82 {H : Heap} {bw x y : Nat} (hb : IsRow ro H vb w) (hB : Holds H bw [vb]) (hx : x < w.length) (hy : y < w.length) : callX F1 ro 82 [.i .i64 (x : Int), .i .i64 (y : Int), .p (some ⟨false, bw, 0⟩)] H = some (.i .i64 (cmpI (w.getD y 0) (w.getD x 0)), H, H.length, H.length) := by
  refine g82_ok (meansX_ok F1 ro) rfl ?_
  unfold g82
  obtain ⟨p, p1, p2⟩ := row_at (l := H.length) (p := H.length) hb (Keep.refl H) hx
  obtain ⟨q, q1, q2⟩ := row_at (l := H.length) (p := H.length) hb (Keep.refl H) hy
  simp only [bindO_some, Mm.base, cap_ld hB, p1, p2, q1, q2, asI_i, meansX_call, cp0 cmp83, bindP_some, Mm.join, Nat.min_self, tupA]
  exact fin_pure rfl
theorem cmp_neg (a b : Int) : ltI (cmpI a b) 0 = decide (a < b) := by
  rw [ltI_eq]
  unfold cmpI
  by_cases h1 : a < b
  · rw [if_pos h1, dT h1]; rfl
  · rw [if_neg h1, dF h1]
    split <;> rfl
theorem cmp_negD (a b : Int) : decide (cmpI a b < 0) = decide (a < b) := by have := cmp_neg a b; rw [ltI_eq] at this; exact this
theorem inner113 {bw b k : Nat} {cap : Cap} {x2 x8 : Int} (hb : IsRow ro h vb w) (hk : w.length = k) (hk6 : k ≤ 1000) (hL : h.length ≤ b) (hbb : bw ≠ b) : ∀ (j : Nat) (l : List Nat) (H : Heap) (lw : Nat), j < l.length → l.length = k → LtL l k → HI H b (nts l) → Keep h H → Holds H bw [vb] → b ≤ lw →
    ∃ H' lw', loopX (fun s : Int × Mm => g113_b1 (meansX F1 ro) ro (.sl ⟨false, b, 0⟩ k cap) 0 x2 (.fn 82 [] [.p (some ⟨false, bw, 0⟩)]) x8 s.1 s.2) ((j : Int), ⟨H, lw, H.length⟩) = some ⟨H', lw', H.length⟩ ∧ HI H' b (nts (insJ w l j)) ∧ SameB H H' b ∧ b ≤ lw'
  | 0, l, H, lw, hj, hl, hlt, hz, kp, hB, hlw => by
    have hbl := hz.lt
    have e : g113_b1 (meansX F1 ro) ro (.sl ⟨false, b, 0⟩ k cap) 0 x2 (.fn 82 [] [.p (some ⟨false, bw, 0⟩)]) x8 ((0 : Nat) : Int) ⟨H, lw, H.length⟩ = some (.inr ⟨H, min lw H.length, H.length⟩) := by
      have d0 : decide ((0 : Int) < ((0 : Nat) : Int)) = false := rfl
      simp only [g113_b1, bindO_some, Mm.base, forceB_eq, ltI_eq, d0, cond_false, Mm.join, Nat.min_self]
    exact ⟨H, min lw H.length, loopX_out e, hz, SameB.refl H b, by omega⟩
  | j + 1, l, H, lw, hj, hl, hlt, hz, kp, hB, hlw => by
    have hbl := hz.lt
    have r1 := Holds.one (ro := ro) (l := H.length) (p := H.length) (k := j + 1) hz (by rw [List.length_map, nts_len]; omega)
    have r2 := Holds.one (ro := ro) (l := H.length) (p := H.length) (k := j) hz (by rw [List.length_map, nts_len]; omega)
    rw [map_getD (by rw [nts_len]; omega), nts_get] at r1 r2
    have i1 : evP .e (.ixS 1 (.c (.sl ⟨false, b, 0⟩ k cap)) (.c (.i .i64 ((j + 1 : Nat) : Int)))) = some (.p (some ⟨false, b, 0 + (j + 1)⟩)) := ix_new (by omega)
    have i2 : evP .e (.ixS 1 (.c (.sl ⟨false, b, 0⟩ k cap)) (.c (.i .i64 ((j : Nat) : Int)))) = some (.p (some ⟨false, b, 0 + j⟩)) := ix_new (by omega)
    have e1 : Go.Vm.wr .i64 (((j + 1 : Nat) : Int) - 1) = ((j : Nat) : Int) := by rw [wr_id' (by omega) (by omega)]; omega
    have c82 := cmp82 (x := l.getD (j + 1) 0) (y := l.getD j 0) (row_by hb kp) hB (by rw [hk]; exact hlt _ (by omega)) (by rw [hk]; exact hlt _ (by omega))
    have d1 : decide ((0 : Int) < ((j + 1 : Nat) : Int)) = true := dT (by omega)
    have c82' : callM (callX F1 ro) ⟨H, H.length, H.length⟩ 82 ([] ++ [.i .i64 ((l.getD (j + 1) 0 : Nat) : Int), .i .i64 ((l.getD j 0 : Nat) : Int)] ++ [.p (some ⟨false, bw, 0⟩)]) = some (.i .i64 (cmpI (w.getD (l.getD j 0) 0) (w.getD (l.getD (j + 1) 0) 0)), ⟨H, H.length, H.length⟩) := cp0 c82
    by_cases hc : w.getD (l.getD j 0) 0 < w.getD (l.getD (j + 1) 0) 0
    · have rA1 := Holds.oneA (ro := ro) (k := j + 1) hz (by rw [List.length_map, nts_len]; omega)
      have rA2 := Holds.oneA (ro := ro) (k := j) hz (by rw [List.length_map, nts_len]; omega)
      rw [map_getD (by rw [nts_len]; omega), nts_get] at rA1 rA2
      obtain ⟨H2, w1, w2, w3⟩ := HI.wr2 (ro := ro) (j := j + 1) (i := j) (x := ((l.getD j 0 : Nat) : Int)) (y := ((l.getD (j + 1) 0 : Nat) : Int)) hz (by rw [nts_len]; omega) (by rw [nts_len]; omega)
      rw [nts_set, nts_set] at w2
      have e : g113_b1 (meansX F1 ro) ro (.sl ⟨false, b, 0⟩ k cap) 0 x2 (.fn 82 [] [.p (some ⟨false, bw, 0⟩)]) x8 ((j + 1 : Nat) : Int) ⟨H, lw, H.length⟩ = some (.inl ((j : Int), ⟨H2, min (min (min lw H.length) b) b, H.length⟩)) := by
        simp only [g113_b1, bindO_some, Mm.base, forceB_eq, ltI_eq, d1, cond_true, i1, r1, asI_i, forceI_eq, e1, i2, r2, callvM, meansX_call, c82', bindP_some, cmp_negD, dT hc, Mm.join, Nat.min_self, rA1, rA2, asP_p, w1]
      have hl2 : (swp l j).length = k := by rw [swp_len, hl]
      obtain ⟨H', lw', f1, f2, f3, f4⟩ := inner113 hb hk hk6 hL hbb j (swp l j) H2 (min (min (min lw H.length) b) b) (by rw [hl2]; omega) hl2 (swp_lt hj hlt) w2 (w3.keep kp hL) (w3.holds hbb hB) (by omega)
      rw [w3.1] at f1
      refine ⟨H', lw', loopX_on e f1, ?_, w3.trans f3, f4⟩
      unfold insJ
      rw [if_pos hc]; exact f2
    · have e : g113_b1 (meansX F1 ro) ro (.sl ⟨false, b, 0⟩ k cap) 0 x2 (.fn 82 [] [.p (some ⟨false, bw, 0⟩)]) x8 ((j + 1 : Nat) : Int) ⟨H, lw, H.length⟩ = some (.inr ⟨H, min lw H.length, H.length⟩) := by
        simp only [g113_b1, bindO_some, Mm.base, forceB_eq, ltI_eq, d1, cond_true, i1, r1, asI_i, forceI_eq, e1, i2, r2, callvM, meansX_call, c82', bindP_some, cmp_negD, dF hc, cond_false, Mm.join, Nat.min_self]
      refine ⟨H, min lw H.length, loopX_out e, ?_, SameB.refl H b, by omega⟩
      unfold insJ
      rw [if_neg hc]; exact hz
theorem sort113 {bw b k : Nat} {cap : Cap} {l : List Nat} {H : Heap} (hb : IsRow ro h vb w) (hk : w.length = k) (hk0 : 1 ≤ k) (hk6 : k ≤ 1000) (hL : h.length ≤ b) (hbb : bw ≠ b) (hl : l.length = k) (hlt : LtL l k) (hz : HI H b (nts l)) (kp : Keep h H) (hB : Holds H bw [vb]) :
    ∃ H' lw, callX F1 ro 113 [.sl ⟨false, b, 0⟩ k cap, .i .i64 0, .i .i64 (k : Int), .fn 82 [] [.p (some ⟨false, bw, 0⟩)]] H = some (.tup [], H', lw, H.length) ∧ HI H' b (nts (srt w l (k - 1))) ∧ SameB H H' b ∧ b ≤ lw := by
  have hbl := hz.lt
  have key := loop_gen (b := fun s : Int × Mm => g113_b0 (meansX F1 ro) ro (.sl ⟨false, b, 0⟩ k cap) 0 (k : Int) (.fn 82 [] [.p (some ⟨false, bw, 0⟩)]) s.1 s.2) k
    (fun i s => 1 ≤ i ∧ ∃ H' lw, s = ((i : Int), (⟨H', lw, H.length⟩ : Mm)) ∧ HI H' b (nts (srt w l (i - 1))) ∧ SameB H H' b ∧ b ≤ lw)
    (fun r => ∃ H' lw, r = (⟨H', lw, H.length⟩ : Mm) ∧ HI H' b (nts (srt w l (k - 1))) ∧ SameB H H' b ∧ b ≤ lw) ?_ ?_ (k - 1) 1 (1, ⟨H, H.length, H.length⟩) (by omega) ⟨Nat.le_refl _, H, H.length, rfl, hz, SameB.refl H b, by omega⟩
  · obtain ⟨r, r1, H', lw, rfl, hz', sb, hlw⟩ := key
    have hfin : finM H.length (.tup []) ⟨H', lw, H.length⟩ = some (.tup [], H', lw, H.length) := by
      rw [fin_take (v := .tup []) (by rfl)]
      rw [← sb.1, List.take_length]
    refine ⟨H', lw, g113_ok (meansX_ok F1 ro) rfl ?_, hz', sb, hlw⟩
    unfold g113
    have e1 : Go.Vm.wr .i64 ((0 : Int) + 1) = 1 := rfl
    simp only [forceI_eq, e1, meansX_loop]
    rw [r1]
    simp only [bindO_some]
    exact hfin
  · rintro i s hi ⟨h1, H', lw, rfl, hz', sb, hlw⟩
    have hlen : (srt w l (i - 1)).length = k := by rw [srt_len, hl]
    obtain ⟨H2, lw2, f1, f2, f3, f4⟩ := inner113 (x2 := (k : Int)) (x8 := (i : Int)) (cap := cap) hb hk hk6 hL hbb i (srt w l (i - 1)) H' lw (by rw [hlen]; exact hi) hlen (srt_lt hlt (i - 1) (by omega)) hz' (sb.keep kp hL) (sb.holds hbb hB) hlw
    rw [sb.1] at f1
    simp only [g113_b0, forceB_eq, ltI_eq, lt_yes hi, cond_true, meansX_loop, f1, bindO_some, forceI_eq, wr_next (show i ≤ 1000000 by omega)]
    have e2 : insJ w (srt w l (i - 1)) i = srt w l (i + 1 - 1) := by
      obtain ⟨m, rfl⟩ : ∃ m, i = m + 1 := ⟨i - 1, by omega⟩
      rfl
    rw [e2] at f2
    exact ⟨_, rfl, by omega, H2, lw2, rfl, f2, sb.trans f3, f4⟩
  · rintro s ⟨h1, H', lw, rfl, hz', sb, hlw⟩
    simp only [g113_b0, forceB_eq, ltI_eq, lt_no, cond_false]
    exact ⟨_, rfl, H', lw, rfl, hz', sb, hlw⟩
theorem fin_tup0 {H H' : Heap} {lw : Nat} (e : H'.length = H.length) : finM H.length (.tup []) ⟨H', lw, H.length⟩ = some (.tup [], H', lw, H.length) := by
  rw [fin_take (v := .tup []) (by rfl), ← e, List.take_length]
theorem sort81 {bw b k : Nat} {cap : Cap} {l : List Nat} {H : Heap} (hb : IsRow ro h vb w) (hk : w.length = k) (hk0 : 1 ≤ k) (hk6 : k ≤ 6) (hL : h.length ≤ b) (hbb : bw ≠ b) (hl : l.length = k) (hlt : LtL l k) (hz : HI H b (nts l)) (kp : Keep h H) (hB : Holds H bw [vb]) :
    ∃ H' lw, callX F1 ro 81 [.sl ⟨false, b, 0⟩ k cap, .fn 82 [] [.p (some ⟨false, bw, 0⟩)]] H = some (.tup [], H', lw, H.length) ∧ HI H' b (nts (srt w l (k - 1))) ∧ SameB H H' b ∧ b ≤ lw := by
  have hbl := hz.lt
  obtain ⟨H', lw, c1, c2, c3, c4⟩ := sort113 (cap := cap) hb hk hk0 (by omega) hL hbb hl hlt hz kp hB
  have d1 : decide ((k : Int) < 20) = true := dT (by omega)
  have d2 : decide ((20 : Int) < (k : Int)) = false := dF (by omega)
  have l1 : loopX (fun s : Int × Int × Mm => g100_b0 (meansX F1 ro) ro (.sl ⟨false, b, 0⟩ k cap) (k : Int) (.fn 82 [] [.p (some ⟨false, bw, 0⟩)]) s.1 s.2.1 s.2.2) (0, 20, ⟨H, H.length, H.length⟩) = some (0, ⟨H, H.length, H.length⟩) := loopX_out (by
    simp only [g100_b0, forceB_eq, ltI_eq, d1, Bool.not_true, cond_false])
  have l2 : loopX (fun s : Int × Mm => g100_b1 (meansX F1 ro) ro (.sl ⟨false, b, 0⟩ k cap) (k : Int) (.fn 82 [] [.p (some ⟨false, bw, 0⟩)]) s.1 s.2) (20, ⟨H', min H.length lw, H.length⟩) = some ⟨H', min H.length lw, H.length⟩ := loopX_out (by
    simp only [g100_b1, forceB_eq, ltI_eq, d2, cond_false])
  have c100 : callX F1 ro 100 [.sl ⟨false, b, 0⟩ k cap, .i .i64 (k : Int), .fn 82 [] [.p (some ⟨false, bw, 0⟩)]] H = some (.tup [], H', min H.length lw, H.length) := by
    refine g100_ok (meansX_ok F1 ro) rfl ?_
    unfold g100
    simp only [meansX_loop, l1, bindO_some, meansX_call]
    rw [callM_eq c1]
    simp only [bindP_some, Nat.min_self, l2, bindO_some]
    exact fin_tup0 c3.1
  refine ⟨H', min H.length (min H.length lw), g81_ok (meansX_ok F1 ro) rfl ?_, c2, c3, by omega⟩
  unfold g81
  have hlen := len_row (HI.row (ro := ro) (m := k) (cap := cap) hz (by rw [nts_len, hl]))
  rw [nts_len, hl] at hlen
  simp only [hlen, bindO_some, asI_i, meansX_call]
  rw [callM_eq c100]
  simp only [bindP_some, Nat.min_self]
  exact fin_tup0 c3.1
end
end Go.Proofs.Ythdglempcfknhaa.T

/- Dearest on both sides; the law ShareWeights. -/
open Go.Vm
set_option linter.unusedVariables false
namespace Go.Proofs.Ythdglempcfknhaa.T
open Go

/-- the reference's order, after so many -/
def refO (w : List Int) (k : Nat) : Nat → List Nat
  | 0 => []
  | m + 1 => insJ w (refO w k m ++ [k - 1 - m]) m
theorem refO_len (w : List Int) (k : Nat) : ∀ m, (refO w k m).length = m
  | 0 => rfl
  | m + 1 => by show (insJ w (refO w k m ++ [k - 1 - m]) m).length = _; rw [insJ_len, List.length_append, refO_len w k m]; rfl
theorem getD_appl {a b : List Nat} {i : Nat} (h : i < a.length) : (a ++ b).getD i 0 = a.getD i 0 := by
  rw [List.getD_eq_getElem?_getD, List.getD_eq_getElem?_getD, List.getElem?_append_left h]
theorem swp_app {a b : List Nat} {j : Nat} (h : j + 1 < a.length) : swp (a ++ b) j = swp a j ++ b := by
  unfold swp
  rw [getD_appl (by omega), getD_appl h, List.set_append_left _ _ h, List.set_append_left _ _ (by simp; omega)]
theorem insJ_app {w : List Int} {b : List Nat} : ∀ (j : Nat) (a : List Nat), j < a.length → insJ w (a ++ b) j = insJ w a j ++ b
  | 0, a, _ => rfl
  | j + 1, a, h => by
    unfold insJ
    rw [getD_appl (by omega), getD_appl h]
    split
    · rw [swp_app h, insJ_app j _ (by rw [swp_len]; omega)]
    · rfl
theorem lastL_drop {k m : Nat} (h : m < k) : (lastL k).drop m = [k - 1 - m] ++ (lastL k).drop (m + 1) := by
  have hl : m < (lastL k).length := by rw [lastL_len]; exact h
  rw [List.drop_eq_getElem_cons hl]
  have : (lastL k)[m] = k - 1 - m := by simp [lastL]
  rw [this]; rfl
theorem srt_ref {w : List Int} {k : Nat} : ∀ m, m < k → srt w (lastL k) m = refO w k (m + 1) ++ (lastL k).drop (m + 1)
  | 0, h => by
    show lastL k = insJ w ([] ++ [k - 1 - 0]) 0 ++ (lastL k).drop 1
    have := lastL_drop h
    rw [List.drop_zero] at this
    exact this
  | m + 1, h => by
    show insJ w (srt w (lastL k) m) (m + 1) = insJ w (refO w k (m + 1) ++ [k - 1 - (m + 1)]) (m + 1) ++ (lastL k).drop (m + 1 + 1)
    rw [srt_ref m (by omega), lastL_drop h, ← List.append_assoc, insJ_app (m + 1) _ (by rw [List.length_append, refO_len]; simp)]
/-- the order by falling weights -/
def ordW (w : List Int) (k : Nat) : List Nat := srt w (lastL k) (k - 1)
theorem ordW_ref {w : List Int} {k : Nat} (hk : 1 ≤ k) : ordW w k = refO w k k := by
  unfold ordW
  rw [srt_ref (k - 1) (by omega), show k - 1 + 1 = k by omega, List.drop_of_length_le (by rw [lastL_len]; exact Nat.le_refl _), List.append_nil]
theorem swp_ord {z : List Nat} {k j : Nat} (o : Ord z k) (hj : j + 1 < k) : Ord (swp z j) k := by
  have hj' : j + 1 < z.length := by rw [o.len]; exact hj
  let σ : Nat → Nat := fun i => if i = j then j + 1 else if i = j + 1 then j else i
  have hσ : ∀ i, i < k → σ i < k := fun i hi => (by
    show (if i = j then j + 1 else if i = j + 1 then j else i) < k
    by_cases h1 : i = j
    · rw [if_pos h1]; omega
    · rw [if_neg h1]
      by_cases h2 : i = j + 1
      · rw [if_pos h2]; omega
      · rw [if_neg h2]; exact hi)
  have hss : ∀ i, σ (σ i) = i := fun i => by
    show (if (if i = j then j + 1 else if i = j + 1 then j else i) = j then j + 1 else if (if i = j then j + 1 else if i = j + 1 then j else i) = j + 1 then j else (if i = j then j + 1 else if i = j + 1 then j else i)) = i
    by_cases h1 : i = j
    · subst h1; simp
    · by_cases h2 : i = j + 1
      · subst h2; simp
      · simp [h1, h2]
  have hg : ∀ i, (swp z j).getD i 0 = z.getD (σ i) 0 := fun i => by
    rw [swp_get hj']
    show _ = z.getD (if i = j then j + 1 else if i = j + 1 then j else i) 0
    split
    · rfl
    · split <;> rfl
  refine ⟨by rw [swp_len, o.len], fun i hi => by rw [hg]; exact o.lt _ (hσ i hi), fun i i' hi hi' he => ?_, fun m hm => ?_⟩
  · rw [hg, hg] at he
    have := o.inj _ _ (hσ i hi) (hσ i' hi') he
    rw [← hss i, this, hss]
  · obtain ⟨i, h1, h2⟩ := o.all m hm
    exact ⟨σ i, hσ i h1, by rw [hg, hss, h2]⟩
theorem insJ_ord {w : List Int} {k : Nat} : ∀ (j : Nat) (z : List Nat), j < k → Ord z k → Ord (insJ w z j) k
  | 0, z, _, o => o
  | j + 1, z, h, o => by
    unfold insJ
    split
    · exact insJ_ord j _ (by omega) (swp_ord o h)
    · exact o
theorem srt_ord {w : List Int} {k : Nat} {z : List Nat} (o : Ord z k) : ∀ i, i < k → Ord (srt w z i) k
  | 0, _ => o
  | i + 1, h => insJ_ord (i + 1) _ h (srt_ord o i (by omega))
theorem ordW_ord {w : List Int} {k : Nat} (hk : 1 ≤ k) : Ord (ordW w k) k := srt_ord (lastL_ord k) (k - 1) (by omega)
/-- the weighted sum -/
def dotS (w s : List Int) : Nat → Int
  | 0 => 0
  | i + 1 => dotS w s i + w.getD i 0 * s.getD i 0
theorem dotS_succ (w s : List Int) (i : Nat) : dotS w s (i + 1) = dotS w s i + w.getD i 0 * s.getD i 0 := rfl
theorem mul_bd {x y : Int} (h1 : 0 ≤ x ∧ x ≤ 1000) (h2 : -6000000 ≤ y ∧ y ≤ 6000000) : -6000000000 ≤ x * y ∧ x * y ≤ 6000000000 := by
  constructor
  · have h3 : x * (-6000000) ≤ x * y := Int.mul_le_mul_of_nonneg_left h2.1 h1.1
    omega
  · have h3 : x * y ≤ x * 6000000 := Int.mul_le_mul_of_nonneg_left h2.2 h1.1
    omega
theorem dotS_bd {w s : List Int} (hw : ∀ j, j < w.length → 0 ≤ w.getD j 0 ∧ w.getD j 0 ≤ 1000) (hs : withinP s 6000000) : ∀ i, i ≤ w.length → i ≤ s.length → -(6000000000 * (i : Int)) ≤ dotS w s i ∧ dotS w s i ≤ 6000000000 * (i : Int)
  | 0, _, _ => by simp [dotS]
  | i + 1, h1, h2 => by
    obtain ⟨h3, h4⟩ := dotS_bd hw hs i (by omega) (by omega)
    have := mul_bd (hw i (by omega)) (hs i (by omega))
    rw [dotS_succ]
    omega
def dearE (n : Int) (c w : List Int) : Int := if errS n c = 0 then (if weiP n w then 0 else 2) else errS n c
def dearR (n : Int) (c w : List Int) : List Int := if errS n c = 0 ∧ weiP n w then gre c (ordW w n.toNat) else []
def dearV (n : Int) (c w : List Int) : Int := if errS n c = 0 ∧ weiP n w then dotS w (gre c (ordW w n.toNat)) n.toNat else 0
theorem gre_within {c : List Int} {z : List Nat} {k : Nat} (o : Ord z k) (hN : c.length = 2 ^ k) (hw : withinP c 1000000) : withinP (gre c z) 6000000 := by
  intro j hj
  rw [gre_len o] at hj
  obtain ⟨i, h1, rfl⟩ := o.all j hj
  rw [gre_get o h1]
  have hlt : ∀ i, i < z.length → z.getD i 0 < k := fun i hi => o.lt i (by rw [← o.len]; exact hi)
  have l1 : greG z i < c.length := by rw [hN]; exact greG_lt hlt i (by rw [o.len]; omega)
  have l2 : greG z (i + 1) < c.length := by rw [hN]; exact greG_lt hlt (i + 1) (by rw [o.len]; omega)
  have := hw _ l1
  have := hw _ l2
  unfold cs
  omega
section
variable {ro : List ABlk} {h : Heap} {va vb : AVal} {c w : List Int}
theorem dear35 {n : Int} (ha : IsRow ro h va c) (hla : c.length ≤ 9223372036854775807) (hb : IsRow ro h vb w) (hlb : w.length ≤ 9223372036854775807) : ∃ v H, callX F1 ro 35 [.i .i64 n, va, vb] h = some (.tup [v, .i .i64 (dearV n c w), .i .i64 (dearE n c w)], H, h.length, h.length) ∧ Keep h H ∧ IsRow ro H v (dearR n c w) := by
  obtain ⟨H1, eH⟩ : ∃ H1, H1 = h ++ [some (blkOf 22 [vb])] := ⟨_, rfl⟩
  have k1 : Keep h H1 := by rw [eH]; exact Keep.app _
  have hB : Holds H1 h.length [vb] := by rw [eH]; exact Holds.new _ _ _
  have s1 : stepM ro ⟨h, h.length, h.length⟩ (.bx 22 1 (.c vb)) = some (.p (some ⟨false, h.length, 0⟩), ⟨H1, h.length, h.length⟩) := by rw [eH]; exact bx1 (row_cells hb).1
  have ra1 := row_by ha k1
  have rb1 := row_by hb k1
  by_cases he : errS n c = 0
  rotate_left
  · refine ⟨.nsl, h, g35_ok (meansX_ok F1 ro) rfl ?_, Keep.refl h, .inl ⟨rfl, by rw [dearR, if_neg (fun hh => he hh.1)]⟩⟩
    unfold g35
    simp only [s1, bindP_some, meansX_call, cp2 (fault51 (n := n) ra1 hla) k1.1 k1.1, asI_i, neqT he, forceB_eq, cond_true, dearV, dearE, if_neg (show ¬ (errS n c = 0 ∧ weiP n w) from fun hh => he hh.1), if_neg he, tupA]
    exact fin_keep k1 rfl
  by_cases hwt : weiP n w
  rotate_left
  · refine ⟨.nsl, h, g35_ok (meansX_ok F1 ro) rfl ?_, Keep.refl h, .inl ⟨rfl, by rw [dearR, if_neg (fun hh => hwt hh.2)]⟩⟩
    unfold g35
    simp only [s1, bindP_some, meansX_call, cp2 (fault51 (n := n) ra1 hla) k1.1 k1.1, asI_i, neqF he, forceB_eq, cond_false, cap_ld hB, bindO_some, cp2 (wei78 (n := n) rb1 hlb) k1.1 k1.1, asB_b, dF hwt, Bool.not_false, cond_true, dearV, dearE, if_neg (show ¬ (errS n c = 0 ∧ weiP n w) from fun hh => hwt hh.2), if_pos he, if_neg hwt, tupA]
    exact fin_keep k1 rfl
  have hc := errS_cost he
  obtain ⟨k, rfl, hk1, hk6, hN, h64⟩ := costN hc
  have hl : w.length = k := by have := hwt.1; omega
  have hw : withinP c 1000000 := hc.2.2.2
  obtain ⟨v26, H2, a1, k2, r2, -, -, b, m, cap, rfl, hz2, rfl, hbL⟩ := lastFirst75 (ro := ro) (h := H1) (k := k) (by omega)
  have k12 := k1.trans k2
  obtain ⟨H3, lw, c81, hz3, sb, hlw⟩ := sort81 (cap := cap) (vb := vb) (h := h) hb hl hk1 hk6 (by have := k1.1; omega) (bw := h.length) (by have := hB.lt; omega) (lastL_len m) (fun i hi => by rw [lastL_len] at hi; rw [lastL_get hi]; omega) hz2 k12 (hB.by k2)
  have k13 : Keep h H3 := sb.keep k12 (by have := k1.1; omega)
  have hB3 : Holds H3 h.length [vb] := sb.holds (by have := hB.lt; omega) (hB.by k2)
  have o : Ord (ordW w m) m := ordW_ord hk1
  have rO : IsRow ro H3 (.sl ⟨false, b, 0⟩ m cap) (nts (ordW w m)) := HI.row hz3 (by rw [nts_len, srt_len, lastL_len])
  obtain ⟨v53, H4, c53, k4, r53⟩ := greedy53 (z := ordW w m) (k := m) (row_by ha k13) rO hN hk6 o.len (fun i hi => o.lt i (by rw [← o.len]; exact hi)) (fun j hj => by have := hw j hj; omega)
  have k14 := k13.trans k4
  have hB4 := hB3.by k4
  have gw := gre_within o hN hw
  have glen := gre_len (c := c) o
  have hlen32 := len_row r53
  rw [glen] at hlen32
  have loop := loop_run (b := fun t : Int × Int => g35_b0 (meansX F1 ro) ro (.p (some ⟨false, h.length, 0⟩)) v53 (m : Int) ⟨H4, h.length, h.length⟩ t.1 t.2) (fun i => (dotS w (gre c (ordW w m)) i, (i : Int))) m (r0 := dotS w (gre c (ordW w m)) m) ?_ ?_
  · have e0 : (dotS w (gre c (ordW w m)) 0, ((0 : Nat) : Int)) = (0, 0) := rfl
    rw [e0] at loop
    obtain ⟨H', f1, f2, f3⟩ := fin_rowW (ro := ro) (v := v53) (w := .tup [v53, .i .i64 (dotS w (gre c (ordW w m)) m), .i .i64 0]) k14 r53 (by simp [AVal.bel, bels])
    have hcond : errS (m : Int) c = 0 ∧ weiP (m : Int) w := ⟨he, hwt⟩
    refine ⟨v53, H', g35_ok (meansX_ok F1 ro) rfl ?_, f2, by rw [dearR, if_pos hcond]; simpa using f3⟩
    have hl3 : callM (callX F1 ro) ⟨H2, h.length, h.length⟩ 81 [.sl ⟨false, b, 0⟩ m cap, .fn 82 [] [.p (some ⟨false, h.length, 0⟩)]] = some (.tup [], ⟨H3, h.length, h.length⟩) := by
      have m1 : min h.length lw = h.length := Nat.min_eq_left (by have := k1.1; omega)
      have m2 : min h.length H2.length = h.length := Nat.min_eq_left k12.1
      rw [callM_eq c81]
      show some (AVal.tup [], (⟨H3, min h.length lw, min h.length H2.length⟩ : Mm)) = _
      rw [m1, m2]
    unfold g35
    simp only [s1, bindP_some, meansX_call, cp2 (fault51 (n := (m : Int)) ra1 hla) k1.1 k1.1, asI_i, neqF he, forceB_eq, cond_false, cap_ld hB, bindO_some, cp2 (wei78 (n := (m : Int)) rb1 hlb) k1.1 k1.1, asB_b, dT hwt, Bool.not_true, cM a1 k1.1 k1.1, hl3, cM c53 k13.1 k13.1, hlen32, meansX_loop, loop, dearV, dearE, if_pos hcond, if_pos he, if_pos hwt, tupA]
    simpa using f1
  · simp only [g35_b0, forceB_eq, ltI_eq, lt_no, cond_false]
  · intro i hi
    obtain ⟨p, p1, p2⟩ := row_at (l := h.length) (p := h.length) r53 (Keep.refl H4) (i := i) (by rw [glen]; exact hi)
    obtain ⟨q, q1, q2⟩ := row_at (l := h.length) (p := h.length) hb k14 (i := i) (by omega)
    have bd := dotS_bd hwt.2 gw (i + 1) (by omega) (by omega)
    have bm := mul_bd (hwt.2 i (by omega)) (gw i (by omega))
    rw [dotS_succ] at bd
    simp only [g35_b0, forceB_eq, ltI_eq, lt_yes hi, cond_true, p1, p2, bindO_some, asI_i, cap_ld hB4, q1, q2, forceI_eq, wr_next (show i ≤ 1000000 by omega), dotS_succ]
    rw [wr_id' (x := w.getD i 0 * (gre c (ordW w m)).getD i 0) (by omega) (by omega), wr_id' (by omega) (by omega)]
/-- a block of numbers that may grow -/
def HE (hp : Heap) (b : Nat) (z : List Int) : Prop := ∃ blk : ABlk, lget hp b = some (some blk) ∧ blk.e = 3 ∧ blk.n = z.length ∧ ∀ j, j < z.length → blk.c.get j = .i .i64 (z.getD j 0)
theorem HE.hi {hp : Heap} {b : Nat} {z : List Int} (a : HE hp b z) : HI hp b z := by
  obtain ⟨blk, h1, h2, h3, h4⟩ := a
  exact ⟨blk, h1, by simpa using h3, fun j hj => by rw [h4 j (by simpa using hj), map_getD (by simpa using hj)]⟩
theorem HE.new (hp : Heap) (z : List Int) : HE (hp ++ [some (blkOf 3 (ints z))]) hp.length z := ⟨_, lget_last _ _, rfl, by simp [blkOf], fun j hj => by rw [get_blk, map_getD hj]⟩
theorem HE.st {hp : Heap} {b i : Nat} {x : Int} {z : List Int} (a : HE hp b z) (hi : i < z.length) : ∃ hp', (∀ l p, stepM ro ⟨hp, l, p⟩ (.st 1 (.c (.p (some ⟨false, b, 0 + i⟩))) (.c (.i .i64 x))) = some (und, ⟨hp', min l b, p⟩)) ∧ HE hp' b (z.set i x) ∧ SameB hp hp' b := by
  obtain ⟨blk, h1, h2, h3, h4⟩ := a
  refine ⟨hp.set b (some { blk with c := blk.c.set i (.i .i64 x) }), fun l p => ?_, ⟨_, lget_set h1 _, h2, by simpa using h3, fun j hj => ?_⟩, ⟨by simp, fun m hm => List.getElem?_set_ne (Ne.symm hm)⟩⟩
  · rw [Nat.zero_add]
    exact st_heap h1 (by omega) rfl rfl rfl
  · show (blk.c.set i (.i .i64 x)).get j = _
    rw [get_set, set_get hi]
    by_cases e : i = j
    · subst e; rw [if_pos rfl, if_pos rfl]
    · rw [if_neg e, if_neg e]
      exact h4 j (by simpa using hj)
end
end Go.Proofs.Ythdglempcfknhaa.T

/- Weighted sums and levels; the order by falling weights. -/
open Go.Vm
set_option linter.unusedVariables false
namespace Go.Proofs.Ythdglempcfknhaa.T
open Go

/-- what all levels pay together -/
def payT (w s : List Int) : Nat → Int
  | 0 => 0
  | t + 1 => payT w s t + pay s (hv w ((t + 1 : Nat) : Int))
theorem payT_succ (w s : List Int) (t : Nat) : payT w s (t + 1) = payT w s t + pay s (hv w ((t + 1 : Nat) : Int)) := rfl
/-- weights cut off at a level -/
def dotM (w s : List Int) (t : Int) : Nat → Int
  | 0 => 0
  | i + 1 => dotM w s t i + (if w.getD i 0 < t then w.getD i 0 else t) * s.getD i 0
theorem dotM_step {w s : List Int} (t : Nat) : ∀ i, i ≤ w.length → dotM w s ((t + 1 : Nat) : Int) i = dotM w s (t : Int) i + payS s (hv w ((t + 1 : Nat) : Int)) i
  | 0, _ => rfl
  | i + 1, hi => by
    have ih := dotM_step (w := w) (s := s) t i (by omega)
    have hb : (hv w ((t + 1 : Nat) : Int)).testBit i = decide (((t + 1 : Nat) : Int) ≤ w.getD i 0) := by
      unfold hv
      rw [hvS_bit, decide_eq_true (show i < w.length by omega), Bool.true_and]
    rw [payS_succ, hb]
    unfold dotM
    rw [ih]
    by_cases h : ((t + 1 : Nat) : Int) ≤ w.getD i 0
    · rw [decide_eq_true h, cond_true, if_neg (by omega), if_neg (by omega)]
      have e : (((t + 1 : Nat) : Int)) * s.getD i 0 = (t : Int) * s.getD i 0 + s.getD i 0 := by
        rw [Int.natCast_add, Int.add_mul]; simp
      rw [e]; omega
    · rw [decide_eq_false h, cond_false]
      by_cases h2 : w.getD i 0 < (t : Int)
      · rw [if_pos (by omega), if_pos h2]; omega
      · have e2 : w.getD i 0 = (t : Int) := by omega
        rw [if_pos (by omega), if_neg h2, e2]; omega
theorem dotM_zero {w s : List Int} (hw : ∀ j, j < w.length → 0 ≤ w.getD j 0) : ∀ i, i ≤ w.length → dotM w s 0 i = 0
  | 0, _ => rfl
  | i + 1, hi => by
    unfold dotM
    rw [dotM_zero hw i (by omega), if_neg (by have := hw i (by omega); omega)]; simp
theorem dotM_pay {w s : List Int} (hw : ∀ j, j < w.length → 0 ≤ w.getD j 0) (hl : s.length = w.length) : ∀ t : Nat, dotM w s (t : Int) w.length = payT w s t
  | 0 => dotM_zero hw _ (Nat.le_refl _)
  | t + 1 => by
    rw [dotM_step t w.length (Nat.le_refl _), dotM_pay hw hl t]
    show _ = payT w s t + payS s _ s.length
    rw [hl]
theorem dotM_top {w s : List Int} {t : Int} (hw : ∀ j, j < w.length → w.getD j 0 ≤ t) : ∀ i, i ≤ w.length → dotM w s t i = dotS w s i
  | 0, _ => rfl
  | i + 1, hi => by
    have := hw i (by omega)
    unfold dotM
    rw [dotS_succ, dotM_top hw i (by omega)]
    by_cases h : w.getD i 0 < t
    · rw [if_pos h]
    · rw [if_neg h, show w.getD i 0 = t by omega]
/-- a weighted sum is what its levels pay -/
theorem dot_pay {w s : List Int} (hw : ∀ j, j < w.length → 0 ≤ w.getD j 0 ∧ w.getD j 0 ≤ 1000) (hl : s.length = w.length) : dotS w s w.length = payT w s 1000 := by
  have e : ((1000 : Nat) : Int) = 1000 := rfl
  rw [← dotM_pay (fun j hj => (hw j hj).1) hl 1000, e, dotM_top (fun j hj => (hw j hj).2) _ (Nat.le_refl _)]
theorem payT_le {c w s : List Int} {k : Nat} (hN : c.length = 2 ^ k) (hl : w.length = k) (hf : ∀ g, g < c.length → pay s g ≤ cs c g) : ∀ t, payT w s t ≤ fillS c w t
  | 0 => Int.le_refl _
  | t + 1 => by
    have ih := payT_le hN hl hf t
    have := hf (hv w ((t + 1 : Nat) : Int)) (by rw [hN, ← hl]; exact hvS_lt w _ _)
    rw [fillS_succ]
    unfold payT
    omega
theorem payT_eq {c w s : List Int} {k : Nat} (hN : c.length = 2 ^ k) (hl : w.length = k) (hf : ∀ g, g < c.length → pay s g ≤ cs c g) : ∀ T, payT w s T = fillS c w T → ∀ t, t < T → pay s (hv w ((t + 1 : Nat) : Int)) = cs c (hv w ((t + 1 : Nat) : Int))
  | 0, _, t, ht => by omega
  | T + 1, h, t, ht => by
    have h1 := payT_le hN hl hf T
    have h2 := hf (hv w ((T + 1 : Nat) : Int)) (by rw [hN, ← hl]; exact hvS_lt w _ _)
    rw [fillS_succ] at h
    unfold payT at h
    by_cases e : t = T
    · subst e; omega
    · exact payT_eq hN hl hf T (by omega) t (by omega)
/-- before in the order of falling weights -/
def RW (w : List Int) (x y : Nat) : Prop := w.getD y 0 < w.getD x 0 ∨ (w.getD y 0 = w.getD x 0 ∧ y < x)
theorem RW.trans {w : List Int} {x y z : Nat} (a : RW w x y) (b : RW w y z) : RW w x z := by
  unfold RW at *
  omega
def SrtW (w : List Int) (z : List Nat) : Prop := ∀ a b, a < b → b < z.length → RW w (z.getD a 0) (z.getD b 0)
theorem insJ_srt {w : List Int} : ∀ (j : Nat) (l : List Nat), j < l.length → (∀ a b, a < b → b < l.length → a ≠ j → b ≠ j → RW w (l.getD a 0) (l.getD b 0)) → (∀ b, j < b → b < l.length → RW w (l.getD j 0) (l.getD b 0)) → (∀ a, a < l.length → a ≠ j → l.getD j 0 < l.getD a 0) → SrtW w (insJ w l j)
  | 0, l, hj, h1, h2, _ => fun a b hab hb => by
    show RW w (l.getD a 0) (l.getD b 0)
    have hb' : b < l.length := hb
    by_cases e : a = 0
    · subst e; exact h2 b hab hb'
    · exact h1 a b hab hb' e (by omega)
  | j + 1, l, hj, h1, h2, h3 => by
    unfold insJ
    split
    · rename_i hw
      refine insJ_srt j (swp l j) (by rw [swp_len]; omega) (fun a b hab hb ha hbj => ?_) (fun b hb hbl => ?_) (fun a ha haj => ?_)
      · rw [swp_len] at hb
        rw [swp_get hj, swp_get hj, if_neg ha, if_neg hbj]
        by_cases e1 : a = j + 1
        · rw [if_pos e1]
          have hb2 : b ≠ j + 1 := by omega
          rw [if_neg hb2]
          exact h1 j b (by omega) hb (by omega) hb2
        · rw [if_neg e1]
          by_cases e2 : b = j + 1
          · rw [if_pos e2]
            exact h1 a j (by omega) (by omega) e1 (by omega)
          · rw [if_neg e2]
            exact h1 a b hab hb e1 e2
      · rw [swp_len] at hbl
        rw [swp_get hj, swp_get hj, if_pos rfl, if_neg (by omega : b ≠ j)]
        by_cases e2 : b = j + 1
        · rw [if_pos e2]; exact .inl hw
        · rw [if_neg e2]; exact h2 b (by omega) hbl
      · rw [swp_len] at ha
        rw [swp_get hj, swp_get hj, if_pos rfl, if_neg haj]
        by_cases e2 : a = j + 1
        · rw [if_pos e2]; exact h3 j (by omega) (by omega)
        · rw [if_neg e2]; exact h3 a ha e2
    · rename_i hw
      intro a b hab hb
      have last : RW w (l.getD j 0) (l.getD (j + 1) 0) := by
        have h4 := h3 j (by omega) (by omega)
        unfold RW
        omega
      by_cases e1 : a = j + 1
      · subst e1; exact h2 b hab hb
      · by_cases e2 : b = j + 1
        · subst e2
          by_cases e3 : a = j
          · subst e3; exact last
          · exact RW.trans (h1 a j (by omega) (by omega) e1 (by omega)) last
        · exact h1 a b hab hb e1 e2
theorem insJ_ge {w : List Int} {m : Nat} : ∀ (j : Nat) (l : List Nat), j < l.length → (∀ i, i < l.length → m ≤ l.getD i 0) → ∀ i, i < (insJ w l j).length → m ≤ (insJ w l j).getD i 0
  | 0, l, _, h => h
  | j + 1, l, hj, h => by
    unfold insJ
    split
    · refine insJ_ge j _ (by rw [swp_len]; omega) fun i hi => ?_
      rw [swp_len] at hi
      rw [swp_get hj]
      split
      · exact h _ hj
      · split
        · exact h _ (by omega)
        · exact h _ hi
    · exact h
theorem app_last {l : List Nat} {x i : Nat} (hi : i < (l ++ [x]).length) : (l ++ [x]).getD i 0 = if i < l.length then l.getD i 0 else x := by
  rw [List.length_append, List.length_singleton] at hi
  by_cases e : i < l.length
  · rw [if_pos e, getD_appl e]
  · obtain rfl : i = l.length := by omega
    rw [if_neg e, List.getD_eq_getElem?_getD, List.getElem?_append_right (Nat.le_refl _)]; simp
theorem refO_ge (w : List Int) (k : Nat) : ∀ m, m ≤ k → ∀ i, i < (refO w k m).length → k - m ≤ (refO w k m).getD i 0
  | 0, _, i, hi => by simp [refO] at hi
  | m + 1, h, i, hi => by
    refine insJ_ge m _ (by rw [List.length_append, refO_len]; simp) (fun i hi => ?_) i hi
    rw [app_last hi]
    split
    · rename_i h2
      have := refO_ge w k m (by omega) i h2
      omega
    · omega
theorem refO_srt (w : List Int) (k : Nat) : ∀ m, m ≤ k → SrtW w (refO w k m)
  | 0, _ => fun a b hab hb => by simp [refO] at hb
  | m + 1, h => by
    have ih := refO_srt w k m (by omega)
    have hm : (refO w k m).length = m := refO_len w k m
    have hl : (refO w k m ++ [k - 1 - m]).length = m + 1 := by rw [List.length_append, hm]; rfl
    refine insJ_srt m _ (by omega) (fun a b hab hb ha hbm => ?_) (fun b hb hbl => by omega) (fun a ha ham => ?_)
    · rw [app_last (by omega), app_last hb, if_pos (by omega), if_pos (by omega)]
      exact ih a b hab (by omega)
    · rw [app_last (by omega), app_last ha, if_neg (by omega), if_pos (by omega)]
      have := refO_ge w k m (by omega) a (by omega)
      omega
theorem ordW_srt {w : List Int} {k : Nat} (hk : 1 ≤ k) : SrtW w (ordW w k) := by rw [ordW_ref hk]; exact refO_srt w k k (Nat.le_refl _)
section
variable {c w s : List Int} {z : List Nat} {k : Nat}
/-- who weighs at least so much: the first ones of the order -/
theorem hv_pre (o : Ord z k) (hs : SrtW w z) (hl : w.length = k) (t : Int) : ∃ m, m ≤ k ∧ hv w t = greG z m := by
  have key : ∀ m, m ≤ k → (∀ i, i < m → t ≤ w.getD (z.getD i 0) 0) → ∃ m', m' ≤ k ∧ (∀ i, i < m' → t ≤ w.getD (z.getD i 0) 0) ∧ ∀ i, m' ≤ i → i < k → w.getD (z.getD i 0) 0 < t := by
    intro m hm
    induction hd : k - m generalizing m with
    | zero => exact fun h => ⟨m, hm, h, fun i h1 h2 => by omega⟩
    | succ d ih =>
      intro h
      by_cases ht : t ≤ w.getD (z.getD m 0) 0
      · exact ih (m + 1) (by omega) (by omega) fun i hi => by
          by_cases e : i = m
          · subst e; exact ht
          · exact h i (by omega)
      · refine ⟨m, hm, h, fun i h1 h2 => ?_⟩
        by_cases e : i = m
        · subst e; omega
        · have := hs m i (by omega) (by rw [o.len]; exact h2)
          unfold RW at this
          omega
  obtain ⟨m, hm, h1, h2⟩ := key 0 (Nat.zero_le _) fun i hi => by omega
  refine ⟨m, hm, Nat.eq_of_testBit_eq fun x => ?_⟩
  rw [hvS_bit, hl]
  cases hb : (greG z m).testBit x
  · by_cases hx : x < k
    · obtain ⟨i, i1, rfl⟩ := o.all x hx
      rw [decide_eq_true hx, Bool.true_and]
      refine decide_eq_false fun ht => ?_
      by_cases e : i < m
      · have := (greG_bit o m hm (z.getD i 0)).2 ⟨i, e, rfl⟩
        rw [hb] at this; cases this
      · have := h2 i (by omega) i1
        omega
    · rw [decide_eq_false hx, Bool.false_and]
  · obtain ⟨j, j1, rfl⟩ := (greG_bit o m hm x).1 hb
    rw [decide_eq_true (o.lt j (by omega)), decide_eq_true (h1 j j1)]
    rfl
/-- the greedy sharing by falling weights has the levels' costs -/
theorem fill_dot (o : Ord z k) (hs : SrtW w z) (hl : w.length = k) (h0 : cs c 0 = 0) : ∀ t, payT w (gre c z) t = fillS c w t
  | 0 => rfl
  | t + 1 => by
    obtain ⟨m, hm, e⟩ := hv_pre o hs hl ((t + 1 : Nat) : Int)
    rw [fillS_succ, ← fill_dot o hs hl h0 t, payT_succ, e, gre_pre o h0 m hm]
theorem lovasz (o : Ord z k) (hs : SrtW w z) (hw : weiP (k : Int) w) (h0 : cs c 0 = 0) : dotS w (gre c z) k = fillS c w 1000 := by
  have hl : w.length = k := by have := hw.1; omega
  rw [← fill_dot o hs hl h0 1000, ← dot_pay hw.2 (by rw [gre_len o, hl]), hl]
/-- no fair sharing has a greater weighted sum -/
theorem fair_dot (hN : c.length = 2 ^ k) (hw : weiP (k : Int) w) (hls : s.length = k) (hf : fairB c s = true) : dotS w s k ≤ fillS c w 1000 := by
  have hl : w.length = k := by have := hw.1; omega
  have hp : 0 < c.length := by rw [hN]; exact Nat.two_pow_pos k
  have := payT_le (w := w) hN hl ((fairB_iff hp).1 hf).1 1000
  rw [← dot_pay hw.2 (by rw [hls, hl]), hl] at this
  exact this
/-- none with the same sum is lexicographically less -/
theorem lex_dear (hN : c.length = 2 ^ k) (hsub : Sub c) (h0 : cs c 0 = 0) (o : Ord z k) (hs : SrtW w z) (hw : weiP (k : Int) w) (hls : s.length = k) (hf : fairB c s = true) (heq : dotS w s k = fillS c w 1000) {i : Nat} (hi : i < k) (hpre : ∀ j, j < i → s.getD j 0 = (gre c z).getD j 0) : (gre c z).getD i 0 ≤ s.getD i 0 := by
  have hl : w.length = k := by have := hw.1; omega
  have hp : 0 < c.length := by rw [hN]; exact Nat.two_pow_pos k
  have hfa := (fairB_iff hp).1 hf
  obtain ⟨q, q1, rfl⟩ := o.all i hi
  -- the level of this gardener
  have hlev : pay s (hv w (w.getD (z.getD q 0) 0)) = cs c (hv w (w.getD (z.getD q 0) 0)) := by
    have hwi := hw.2 (z.getD q 0) (by omega)
    by_cases e : w.getD (z.getD q 0) 0 = 0
    · have hall : hv w (w.getD (z.getD q 0) 0) = c.length - 1 := by
        rw [e, hN]
        refine Nat.eq_of_testBit_eq fun x => ?_
        rw [hvS_bit, hl, Nat.testBit_two_pow_sub_one]
        by_cases hx : x < k
        · rw [decide_eq_true hx, decide_eq_true ((hw.2 x (by omega)).1)]; rfl
        · rw [decide_eq_false hx, Bool.false_and]
      rw [hall]; exact hfa.2
    · obtain ⟨t, ht⟩ : ∃ t : Nat, w.getD (z.getD q 0) 0 = ((t + 1 : Nat) : Int) := ⟨(w.getD (z.getD q 0) 0).toNat - 1, by omega⟩
      rw [ht]
      refine payT_eq hN hl hfa.1 1000 ?_ t (by omega)
      rw [← dot_pay hw.2 (by rw [hls, hl]), hl]; exact heq
  obtain ⟨m, hm, em⟩ := hv_pre o hs hl (w.getD (z.getD q 0) 0)
  have hq : q < m := by
    refine Nat.lt_of_not_le fun h => ?_
    have h1 : (hv w (w.getD (z.getD q 0) 0)).testBit (z.getD q 0) = true := by
      unfold hv
      rw [hvS_bit, hl, decide_eq_true hi, decide_eq_true (Int.le_refl _)]; rfl
    rw [em] at h1
    obtain ⟨j, j1, j2⟩ := (greG_bit o m hm _).1 h1
    have := o.inj j q (by omega) q1 j2
    omega
  have hpU : pay (gre c z) (greG z m) = cs c (greG z m) := gre_pre o h0 m hm
  rw [em] at hlev
  -- all sums from this one on to the end of the level
  have step : ∀ d, q + 1 + d ≤ m → pay s (greG z (q + 1 + d)) - pay s (greG z (q + 1)) = pay (gre c z) (greG z (q + 1 + d)) - pay (gre c z) (greG z (q + 1)) := by
    intro d
    induction d with
    | zero => intro _; simp
    | succ d ih =>
      intro hd
      have ih := ih (by omega)
      have hlt : q + 1 + d < k := by omega
      have e1 : pay s (greG z (q + 1 + (d + 1))) = pay s (greG z (q + 1 + d)) + s.getD (z.getD (q + 1 + d) 0) 0 := pay_add (by rw [hls]; exact o.lt _ hlt) (greG_new o hlt)
      have e2 : pay (gre c z) (greG z (q + 1 + (d + 1))) = pay (gre c z) (greG z (q + 1 + d)) + (gre c z).getD (z.getD (q + 1 + d) 0) 0 := pay_add (by rw [gre_len o]; exact o.lt _ hlt) (greG_new o hlt)
      have hx : z.getD (q + 1 + d) 0 < z.getD q 0 := by
        have h1 := hs q (q + 1 + d) (by omega) (by rw [o.len]; exact hlt)
        have h2 : (hv w (w.getD (z.getD q 0) 0)).testBit (z.getD (q + 1 + d) 0) = true := by
          rw [em]
          exact (greG_bit o m hm _).2 ⟨q + 1 + d, by omega, rfl⟩
        unfold hv at h2
        rw [hvS_bit, Bool.and_eq_true, decide_eq_true_eq, decide_eq_true_eq] at h2
        unfold RW at h1
        omega
      have h3 := hpre _ hx
      omega
  have h1 := step (m - (q + 1)) (by omega)
  rw [show q + 1 + (m - (q + 1)) = m by omega] at h1
  have h2 : pay s (greG z (q + 1)) = pay s (greG z q) + s.getD (z.getD q 0) 0 := pay_add (by rw [hls]; exact hi) (greG_new o q1)
  have h3 := gre_pre (c := c) o h0 (q + 1) (by omega)
  have h4 := gre_get (c := c) o q1
  have hlt : ∀ i, i < z.length → z.getD i 0 < k := fun i hi => o.lt i (by rw [← o.len]; exact hi)
  have h5 := hfa.1 (greG z q) (by rw [hN]; exact greG_lt hlt q (by rw [o.len]; omega))
  omega
theorem gre_fairB (o : Ord z k) (hN : c.length = 2 ^ k) (hs : Sub c) (h0 : cs c 0 = 0) : fairB c (gre c z) = true := by
  have hp : 0 < c.length := by rw [hN]; exact Nat.two_pow_pos k
  exact (fairB_iff hp).2 (gre_fair o hN hs h0)
theorem dotS_add {a b s : List Int} : ∀ i, i ≤ a.length → dotS (sumL a b) s i = dotS a s i + dotS b s i
  | 0, _ => rfl
  | i + 1, hi => by
    rw [dotS_succ, dotS_succ, dotS_succ, dotS_add i (by omega), sumL_get (by omega), Int.add_mul]; omega
/-- Fills of a sum of weights -/
theorem fill_sum {a b : List Int} (hk : 1 ≤ k) (hN : c.length = 2 ^ k) (hs : Sub c) (h0 : cs c 0 = 0) (ha : weiP (k : Int) a) (hb : weiP (k : Int) b) (hab : weiP (k : Int) (sumL a b)) : fillS c (sumL a b) 1000 ≤ fillS c a 1000 + fillS c b 1000 := by
  have o : Ord (ordW (sumL a b) k) k := ordW_ord hk
  have hf := gre_fairB o hN hs h0
  rw [← lovasz o (ordW_srt hk) hab h0, dotS_add k (by have := ha.1; omega)]
  have h1 := fair_dot hN ha (gre_len o) hf
  have h2 := fair_dot hN hb (gre_len o) hf
  omega
/-- the weights 1 of a group -/
def onesL (k x : Nat) : List Int := (List.range k).map fun i => if x.testBit i then 1 else 0
theorem onesL_len (k x : Nat) : (onesL k x).length = k := by simp [onesL]
theorem onesL_get {x i : Nat} (hi : i < k) : (onesL k x).getD i 0 = if x.testBit i then 1 else 0 := by unfold onesL; exact range_get hi
theorem onesL_wei (k x : Nat) : weiP (k : Int) (onesL k x) := ⟨by rw [onesL_len], fun j hj => by
  rw [onesL_len] at hj
  rw [onesL_get hj]
  split <;> omega⟩
theorem fill_ones {x : Nat} (hx : x < 2 ^ k) (h0 : cs c 0 = 0) : fillS c (onesL k x) 1000 = cs c x := by
  have h := fillS_stop (c := c) (w := onesL k x) h0 (m := 1) (fun j hj => by
    rw [onesL_len] at hj
    rw [onesL_get hj]
    split <;> omega) 999
  rw [show 1 + 999 = 1000 from rfl] at h
  rw [h, fillS_succ]
  have e : hv (onesL k x) ((0 + 1 : Nat) : Int) = x := by
    refine Nat.eq_of_testBit_eq fun i => ?_
    rw [hvS_bit, onesL_len]
    by_cases hi : i < k
    · rw [decide_eq_true hi, onesL_get hi, Bool.true_and]
      cases x.testBit i <;> simp
    · rw [decide_eq_false hi, Bool.false_and]
      exact (Nat.testBit_lt_two_pow (Nat.lt_of_lt_of_le hx (Nat.pow_le_pow_right (by omega) (by omega)))).symm
  rw [e]
  show (0 : Int) + _ = _
  omega
end
end Go.Proofs.Ythdglempcfknhaa.T

/- The law ShareLovasz. -/
open Go.Vm
set_option linter.unusedVariables false
namespace Go.Proofs.Ythdglempcfknhaa.T
open Go

section
variable {ro : List ABlk} {h : Heap} {va vb vc vd : AVal} {c w y s : List Int}
theorem mats4 {H : Heap} {l p : Nat} {v1 v2 v3 v4 : AVal} {z1 z2 z3 z4 : List Int} (a : IsRow ro H v1 z1) (b : IsRow ro H v2 z2) (c : IsRow ro H v3 z3) (d : IsRow ro H v4 z4) : ∃ u H', stepM ro ⟨H, l, p⟩ (.bsl 22 1 [AVal.nsl] 4 [((0, 1), .c v1), ((1, 1), .c v2), ((2, 1), .c v3), ((3, 1), .c v4)]) = some (u, ⟨H', l, p⟩) ∧ Keep H H' ∧ IsMat ro H' u [z1, z2, z3, z4] := by
  have h1 := (row_cells a).1
  have h2 := (row_cells b).1
  have h3 := (row_cells c).1
  have h4 := (row_cells d).1
  refine ⟨.sl ⟨false, H.length, 0⟩ 4 (.known 4), H ++ [some (blkOf 22 [v1, v2, v3, v4])], ?_, Keep.app _, .inr ⟨⟨false, H.length, 0⟩, .known 4, blkOf 22 [v1, v2, v3, v4], rfl, rdB_heap (lget_last _ _) 0, by simp [blkOf], fun j hj => ?_⟩⟩
  · simp [stepM, stepK, st_bsl, rep, fillA, opd, h1, h2, h3, h4, splice, newB, St.mm]
  · have hj2 : j = 0 ∨ j = 1 ∨ j = 2 ∨ j = 3 := by simp at hj; omega
    rcases hj2 with rfl | rfl | rfl | rfl
    · rw [Nat.zero_add, get_blk]; exact row_by a (Keep.app _)
    · rw [Nat.zero_add, get_blk]; exact row_by b (Keep.app _)
    · rw [Nat.zero_add, get_blk]; exact row_by c (Keep.app _)
    · rw [Nat.zero_add, get_blk]; exact row_by d (Keep.app _)
theorem fillE_ok {n : Int} (hc : costP n c) (hw : weiP n w) : fillE n c w = 0 ∧ fillR n c w = fillS c w 1000 := by
  unfold fillE fillR
  rw [if_pos ⟨hc, hw⟩, if_pos ⟨hc, hw⟩]
  exact ⟨rfl, rfl⟩
theorem onesL_take {k x i : Nat} (hi : i < k) : (onesL k x).take (i + 1) = (onesL k x).take i ++ [if x.testBit i then 1 else 0] := by
  rw [List.take_add_one, List.getElem?_eq_getElem (by rw [onesL_len]; exact hi)]
  simp [onesL]
theorem ones12 {H : Heap} {k X : Nat} {x44 x52 : Int} {v51 : AVal} (kp : Keep h H) (hk : k ≤ 60) : ∃ v H', loopX (fun t : AVal × Int × Mm => g12_b7 (meansX F1 ro) ro (k : Int) va vb vc vd x44 v51 x52 (X : Int) t.1 t.2.1 t.2.2) (AVal.nsl, 0, ⟨H, h.length, h.length⟩) = some (v, ⟨H', h.length, h.length⟩) ∧ Keep H H' ∧ IsRow ro H' v (onesL k X) := by
  have key := loop_gen (b := fun t : AVal × Int × Mm => g12_b7 (meansX F1 ro) ro (k : Int) va vb vc vd x44 v51 x52 (X : Int) t.1 t.2.1 t.2.2) k
    (fun i t => ∃ v H', t = (v, (i : Int), (⟨H', h.length, h.length⟩ : Mm)) ∧ Keep H H' ∧ GV H' H.length 3 1 v i (ints ((onesL k X).take i)))
    (fun r => ∃ v H', r = (v, (⟨H', h.length, h.length⟩ : Mm)) ∧ Keep H H' ∧ IsRow ro H' v (onesL k X)) ?_ ?_ k 0 (AVal.nsl, 0, ⟨H, h.length, h.length⟩) (by omega) ⟨.nsl, H, rfl, Keep.refl H, GV.nil _ _ _ _⟩
  · obtain ⟨r, r1, v, H', rfl, k1, rv⟩ := key
    exact ⟨v, H', r1, k1, rv⟩
  · rintro i t hi ⟨v, H', rfl, k1, g⟩
    obtain ⟨v2, hp2, v3, hp3, s1, s2, g2, kk1, kk2⟩ := GV.push (ro := ro) (L0 := h.length) (bytes := 8) (z := [AVal.i .i64 0]) (w := .i .i64 (if X.testBit i then 1 else 0)) (ws := [.i .i64 (if X.testBit i then 1 else 0)]) g kp.1 k1.1 (by omega) (by omega) (by omega) rfl rfl rfl rfl rfl
    have e1 : (!decide (((i : Nat) : Int) < Int.ofNat 0)) = true := by have := neg_ltI (a := i); rwa [ltI_eq] at this
    simp only [g12_b7, forceB_eq, ltI_eq, lt_yes hi, cond_true, e1, chk_true, forceI_eq, odd_mod' (a := X) (k := i) (by omega), s1, bindP_some, s2, wr_next (show i ≤ 1000000 by omega)]
    refine ⟨_, rfl, v3, hp3, rfl, ⟨Nat.le_trans k1.1 kk1, fun j hj => by rw [kk2 j hj, k1.2 j hj]⟩, ?_⟩
    rw [onesL_take hi]
    simpa [ints] using g2
  · rintro t ⟨v, H', rfl, k1, g⟩
    simp only [g12_b7, forceB_eq, ltI_eq, lt_no, cond_false]
    refine ⟨_, rfl, v, H', rfl, k1, ?_⟩
    have e : (onesL k X).take k = onesL k X := List.take_of_length_le (by rw [onesL_len]; exact Nat.le_refl _)
    rw [e] at g
    exact GV.row g (onesL_len k X)
theorem sum12 {H : Heap} {k : Nat} {x44 x190 : Int} (kp : Keep h H) (hk : k ≤ 60) (hb : IsRow ro h vb w) (hc : IsRow ro h vc y) (hw : weiP (k : Int) w) (hy : weiP (k : Int) y) : ∃ v H', loopX (fun t : AVal × Int × Mm => g12_b17 (meansX F1 ro) ro (k : Int) va vb vc x44 x190 t.1 t.2.1 t.2.2) (AVal.nsl, 0, ⟨H, h.length, h.length⟩) = some (v, ⟨H', h.length, h.length⟩) ∧ Keep H H' ∧ IsRow ro H' v (sumL w y) := by
  have hl : w.length = k := by have := hw.1; omega
  have hl2 : y.length = k := by have := hy.1; omega
  have key := loop_gen (b := fun t : AVal × Int × Mm => g12_b17 (meansX F1 ro) ro (k : Int) va vb vc x44 x190 t.1 t.2.1 t.2.2) k
    (fun i t => ∃ v H', t = (v, (i : Int), (⟨H', h.length, h.length⟩ : Mm)) ∧ Keep H H' ∧ GV H' H.length 3 1 v i (ints ((sumL w y).take i)))
    (fun r => ∃ v H', r = (v, (⟨H', h.length, h.length⟩ : Mm)) ∧ Keep H H' ∧ IsRow ro H' v (sumL w y)) ?_ ?_ k 0 (AVal.nsl, 0, ⟨H, h.length, h.length⟩) (by omega) ⟨.nsl, H, rfl, Keep.refl H, GV.nil _ _ _ _⟩
  · obtain ⟨r, r1, v, H', rfl, k1, rv⟩ := key
    exact ⟨v, H', r1, k1, rv⟩
  · rintro i t hi ⟨v, H', rfl, k1, g⟩
    have kh := kp.trans k1
    obtain ⟨p, p1, p2⟩ := at_rowK hb (i := i) (by omega)
    obtain ⟨q, q1, q2⟩ := at_rowK hc (i := i) (by omega)
    have p3 := (p2 (l := h.length) (q := h.length) kh).2
    have q3 := (q2 (l := h.length) (q := h.length) kh).2
    have b1 := hw.2 i (by omega)
    have b2 := hy.2 i (by omega)
    obtain ⟨v2, hp2, v3, hp3, s1, s2, g2, kk1, kk2⟩ := GV.push (ro := ro) (L0 := h.length) (bytes := 8) (z := [AVal.i .i64 0]) (w := .i .i64 (w.getD i 0 + y.getD i 0)) (ws := [.i .i64 (w.getD i 0 + y.getD i 0)]) g kp.1 k1.1 (by omega) (by omega) (by omega) rfl rfl rfl rfl rfl
    simp only [g12_b17, forceB_eq, ltI_eq, lt_yes hi, cond_true, p1, q1, p3, q3, bindO_some, asI_i, forceI_eq]
    rw [wr_id' (x := w.getD i 0 + y.getD i 0) (by omega) (by omega)]
    simp only [s1, bindP_some, s2, wr_next (show i ≤ 1000000 by omega)]
    refine ⟨_, rfl, v3, hp3, rfl, ⟨Nat.le_trans k1.1 kk1, fun j hj => by rw [kk2 j hj, k1.2 j hj]⟩, ?_⟩
    rw [sumL_take (by omega)]
    simpa [ints] using g2
  · rintro t ⟨v, H', rfl, k1, g⟩
    simp only [g12_b17, forceB_eq, ltI_eq, lt_no, cond_false]
    refine ⟨_, rfl, v, H', rfl, k1, ?_⟩
    have e : (sumL w y).take k = sumL w y := List.take_of_length_le (by rw [sumL_len, hl]; exact Nat.le_refl _)
    rw [e] at g
    exact GV.row g (by rw [sumL_len, hl])
theorem own12 {H : Heap} {k : Nat} {x44 x52 : Int} {v51 : AVal} (kp : Keep h H) (hk : k ≤ 6) (hb : IsRow ro h vb w) (hd : IsRow ro h vd s) (hw : weiP (k : Int) w) (hs : sharP (k : Int) s) : loopX (fun t : Int × Int => g12_b11 (meansX F1 ro) ro (k : Int) va vb vc vd x44 v51 x52 ⟨H, h.length, h.length⟩ t.1 t.2) (0, 0) = some (dotS w s k) := by
  have hl : w.length = k := by have := hw.1; omega
  have hl2 : s.length = k := by have := hs.1; omega
  have loop := loop_run (b := fun t : Int × Int => g12_b11 (meansX F1 ro) ro (k : Int) va vb vc vd x44 v51 x52 ⟨H, h.length, h.length⟩ t.1 t.2) (fun i => (dotS w s i, (i : Int))) k (r0 := dotS w s k) ?_ ?_
  · have e0 : (dotS w s 0, ((0 : Nat) : Int)) = (0, 0) := rfl
    rw [e0] at loop
    exact loop
  · simp only [g12_b11, forceB_eq, ltI_eq, lt_no, cond_false, bindO_some]
  · intro i hi
    obtain ⟨p, p1, p2⟩ := at_rowK hb (i := i) (by omega)
    obtain ⟨q, q1, q2⟩ := at_rowK hd (i := i) (by omega)
    have p3 := (p2 (l := h.length) (q := h.length) kp).2
    have q3 := (q2 (l := h.length) (q := h.length) kp).2
    have bd := dotS_bd hw.2 hs.2 (i + 1) (by omega) (by omega)
    have bm := mul_bd (hw.2 i (by omega)) (hs.2 i (by omega))
    rw [dotS_succ] at bd
    have hi2 : i < s.length := by omega
    simp only [g12_b11, forceB_eq, ltI_eq, lt_yes hi, cond_true, len_row hd, bindO_some, asI_i, lt_yes hi2, p1, p3, q1, q3, forceI_eq, wr_next (show i ≤ 1000000 by omega), dotS_succ]
    rw [wr_id' (x := w.getD i 0 * s.getD i 0) (by omega) (by omega), wr_id' (by omega) (by omega)]
theorem fair_sh {n : Int} (hc : costP n c) (hs : ¬ sharP n s) : fairT n c s = (0, false, 2) := by rw [fairT, if_neg (fun hh => hs hh.2)]
theorem fair_of {n : Int} (hc : costP n c) (hs : sharP n s) : (fairT n c s).2.2 = 0 ∧ (fairT n c s).2.1 = fairB c s := by
  rw [fairT, if_pos ⟨hc, hs⟩]
  unfold fairB
  cases dear c s <;> exact ⟨rfl, rfl⟩
set_option maxRecDepth 10000 in
theorem law12 {n x : Int} (ha : IsRow ro h va c) (hla : c.length ≤ 9223372036854775807) (hb : IsRow ro h vb w) (hlb : w.length ≤ 9223372036854775807) (hc : IsRow ro h vc y) (hlc : y.length ≤ 9223372036854775807) (hd : IsRow ro h vd s) (hld : s.length ≤ 9223372036854775807) (hx : 0 ≤ x ∧ x ≤ 255) :
    callX F1 ro 12 [.i .i64 n, va, vb, vc, vd, .i .u8 x] h = some (.b true, h, h.length, h.length) := by
  obtain ⟨u, H1, s1, k1, r1⟩ := mats4 (l := h.length) (p := h.length) ha hb hc hd
  have hf := few_ok r1 (by simp)
  refine g12_ok (meansX_ok F1 ro) rfl ?_
  unfold g12
  simp only [s1, pS, mC, cp2 hf k1.1 k1.1, bS, fB]
  by_cases h100 : few [c, w, y, s]
  rotate_left
  · simp only [dF h100, nF, cT, alv k1.1 k1.1, pS, bS, tA]
    exact fin_keep k1 rfl
  have ra := row_by ha k1
  have rb := row_by hb k1
  obtain ⟨v, H2, c1, k2, r2⟩ := dear35 (n := n) ra hla rb hlb
  have k12 := k1.trans k2
  have ra2 := row_by ha k12
  have rb2 := row_by hb k12
  have rc2 := row_by hc k12
  have rd2 := row_by hd k12
  simp only [dT h100, nT, cF, cp2 (fills33 (n := n) ra hla rb hlb) k1.1 k1.1, pS, x0, x1, x2, oS, aS, cM c1 k1.1 k1.1, cp2 (sub39 (n := n) ra2 hla) k12.1 k12.1, bS]
  by_cases hbad : errS n c = 0 ∧ weiP n w
  rotate_left
  · have eR : dearR n c w = [] := by rw [dearR, if_neg hbad]
    have eV : dearV n c w = 0 := by rw [dearV, if_neg hbad]
    have eE : dearE n c w ≠ 0 := by
      unfold dearE
      by_cases he : errS n c = 0
      · rw [if_pos he, if_neg (fun hh => hbad ⟨he, hh⟩)]; omega
      · rw [if_neg he]; exact he
    rw [eR] at r2
    have hl0 : evP .e (.len false (.c v)) = some (.i .i64 0) := len_row r2
    by_cases he : errS n c = 0
    · have hwt : ¬ weiP n w := fun hh => hbad ⟨he, hh⟩
      simp only [dT he, nT, nF, cF, cT, cp2 (wei43 (n := n) rb2 hlb) k12.1 k12.1, pS, bS, dF hwt, oS, neqT eE, hl0, aS, eV, iS, show Go.Vm.wr .i64 ((0 : Int) + 0) = 0 from rfl, eqI_self, alv k12.1 k12.1, tA]
      exact fin_keep k12 rfl
    · simp only [dF he, nF, cT, oS, neqT eE, hl0, aS, eV, iS, show Go.Vm.wr .i64 ((0 : Int) + 0) = 0 from rfl, eqI_self, alv k12.1 k12.1, pS, bS, tA]
      exact fin_keep k12 rfl
  obtain ⟨he, hwt⟩ := hbad
  have hcost := errS_cost he
  obtain ⟨k, rfl, hk1, hk6, hN, h64⟩ := costN hcost
  have hw : withinP c 1000000 := hcost.2.2.2
  have hpos : 0 < c.length := by rw [hN]; exact pow_pos k
  have hs := sub_iff.1 (errS_bad he)
  have h0 : cs c 0 = 0 := hcost.2.2.1
  have hl : w.length = k := by have := hwt.1; omega
  have o : Ord (ordW w k) k := ordW_ord hk1
  obtain ⟨p, hp⟩ : ∃ p, p = gre c (ordW w k) := ⟨_, rfl⟩
  have eR : dearR (k : Int) c w = p := by rw [dearR, if_pos ⟨he, hwt⟩, hp]; simp
  have eD : dearV (k : Int) c w = fillS c w 1000 := by rw [dearV, if_pos ⟨he, hwt⟩]; simpa using lovasz o (ordW_srt hk1) hwt h0
  have eE : dearE (k : Int) c w = 0 := by rw [dearE, if_pos he, if_pos hwt]
  obtain ⟨eF, eG⟩ := fillE_ok hcost hwt
  rw [eR] at r2
  have hplen : p.length = k := by rw [hp]; exact gre_len o
  have hpsh : sharP (k : Int) p := ⟨by rw [hplen], by rw [hp]; exact gre_within o hN hw⟩
  have hpf : fairB c p = true := by rw [hp]; exact gre_fairB o hN hs h0
  obtain ⟨t1, t2⟩ := fair_of hcost hpsh
  rw [hpf] at t2
  have c25 := fair25 (n := (k : Int)) ra2 hla r2 (by omega)
  simp only [dT he, nT, cF, cp2 (wei43 (n := (k : Int)) rb2 hlb) k12.1 k12.1, pS, bS, dT hwt, oS, cp2 c25 k12.1 k12.1, tupF, x0, x1, x2, aS, t1, t2, eE, eF, eG, eD, eqI_self]
  obtain ⟨X, X1, X2, -⟩ := tmod_u8 (N := c.length) hx hpos
  have z0 : eqI ((c.length : Nat) : Int) (.ofNat 0) = false := eqF (show ((c.length : Nat) : Int) ≠ 0 by omega)
  obtain ⟨v22, H3, l7, k3, r3⟩ := ones12 (ro := ro) (va := va) (vb := vb) (vc := vc) (vd := vd) (x44 := fillS c w 1000) (x52 := fillS c w 1000) (v51 := v) (k := k) (X := X) k12 (by omega)
  have k13 := k12.trans k3
  have c33 := fills33 (n := (k : Int)) (row_by ha k13) hla r3 (by rw [onesL_len]; omega)
  obtain ⟨f1, f2⟩ := fillE_ok hcost (onesL_wei k X)
  rw [f1, f2, fill_ones (by rw [← hN]; exact X1) h0] at c33
  obtain ⟨q, q1, q2⟩ := row_at (l := h.length) (p := h.length) ha k13 X1
  have e3 : c.getD X 0 = cs c X := rfl
  have rd3 := row_by hd k13
  have c25b := fair25 (n := (k : Int)) (row_by ha k13) hla rd3 hld
  simp only [iS, len_row ra2, oS, aS, z0, nF, kT, X2, meansX_loop, l7, cp2 c33 k13.1 k13.1, pS, x0, x1, eqI_self, nT, cF, q1, q2, e3, cp2 c25b k13.1 k13.1, tupF, x2, bS]
  -- a fair sharing that is given
  have e149 : (cond (eqI (fairT (k : Int) c s).2.2 0) (some (fairT (k : Int) c s).2.1) (some false)) = some (decide (sharP (k : Int) s) && fairB c s) := by
    by_cases hsh : sharP (k : Int) s
    · obtain ⟨g1, g2⟩ := fair_of hcost hsh
      rw [g1, g2, eqI_self, cT, decide_eq_true hsh, Bool.true_and]
    · rw [fair_sh hcost hsh, decide_eq_false hsh, Bool.false_and]
      rfl
  rw [bindO_of e149]
  refine (bindO_of (v := Sum.inl ⟨H3, h.length, h.length⟩) ?_).trans ?_
  · by_cases hsh : sharP (k : Int) s
    rotate_left
    · rw [decide_eq_false hsh, Bool.false_and]; rfl
    rw [decide_eq_true hsh, Bool.true_and]
    cases hfb : fairB c s
    · rfl
    have hls : s.length = k := by have := hsh.1; omega
    have hle := fair_dot hN hwt hls hfb
    rw [cT, bindO_of (own12 k13 hk6 hb hd hwt hsh)]
    simp only [ltI_eq, dF (show ¬ fillS c w 1000 < dotS w s k by omega), cF]
    by_cases heq : dotS w s k = fillS c w 1000
    · have hno : lexB s p = false := by
        cases hL : lexB s p
        · rfl
        · obtain ⟨i, i1, i2, i3, i4⟩ := lexB_true hL
          exfalso
          rw [hp] at i3 i4
          have := lex_dear hN hs h0 o (ordW_srt hk1) hwt hls hfb heq (i := i) (by omega) i4
          omega
      have c42 := before42 rd3 (row_by r2 k3) (by omega)
      rw [hno] at c42
      rw [eqT heq, cT, bindP_of (cp2 c42 k13.1 k13.1), bS]
      rfl
    · rw [eqF heq, cF]
      rfl
  have rc3 := row_by hc k13
  have c33c := fills33 (n := (k : Int)) (row_by ha k13) hla rc3 hlc
  by_cases hy : weiP (k : Int) y
  rotate_left
  · have g1 : fillE (k : Int) c y = 2 := by rw [fillE, if_neg (fun hh => hy hh.2)]
    have g2 : fillR (k : Int) c y = 0 := by rw [fillR, if_neg (fun hh => hy hh.2)]
    rw [g1, g2] at c33c
    simp only [cp2 c33c k13.1 k13.1, pS, x0, x1, oS, aS, show (!eqI (2 : Int) 0) = true from rfl, cT, alv k13.1 k13.1, bS]
    exact fin_keep k13 rfl
  obtain ⟨g1, g2⟩ := fillE_ok hcost hy
  rw [g1, g2] at c33c
  obtain ⟨v23, H4, l17, k4, r4⟩ := sum12 (ro := ro) (va := va) (x44 := fillS c w 1000) (x190 := fillS c y 1000) k13 (by omega) hb hc hwt hy
  have k14 := k13.trans k4
  have hls2 : (sumL w y).length ≤ 9223372036854775807 := by rw [sumL_len]; omega
  have c33d := fills33 (n := (k : Int)) (row_by ha k14) hla r4 hls2
  have bw := fillS_bd hw hN hl 1000
  have by' := fillS_bd hw hN (w := y) (by have := hy.1; omega) 1000
  have ewr : Go.Vm.wr .i64 (fillS c w 1000 + fillS c y 1000) = fillS c w 1000 + fillS c y 1000 := wr_id' (by omega) (by omega)
  simp only [cp2 c33c k13.1 k13.1, pS, x0, x1, oS, aS, eqI_self, nT, cF, cp2 (wei43 (n := (k : Int)) rc3 hlc) k13.1 k13.1, dT hy, bS, l17, cp2 c33d k14.1 k14.1]
  by_cases hsum : weiP (k : Int) (sumL w y)
  · obtain ⟨g3, g4⟩ := fillE_ok hcost hsum
    have hsub := fill_sum hk1 hN hs h0 hwt hy hsum
    simp only [g3, g4, eqI_self, nT, cF, ewr, ltI_eq, dF (show ¬ fillS c w 1000 + fillS c y 1000 < fillS c (sumL w y) 1000 by omega), nF, oS, cT, alv k14.1 k14.1, pS, bS, tA]
    exact fin_keep k14 rfl
  · have g3 : fillE (k : Int) c (sumL w y) = 2 := by rw [fillE, if_neg (fun hh => hsum hh.2)]
    simp only [g3, show (!eqI (2 : Int) 0) = true from rfl, oS, cT, alv k14.1 k14.1, pS, bS, tA]
    exact fin_keep k14 rfl
end
end Go.Proofs.Ythdglempcfknhaa.T

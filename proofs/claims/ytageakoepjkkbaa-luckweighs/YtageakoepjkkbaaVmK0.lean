/- Contracts of the functions: what each of them answers. -/
import Derived.Test.YtageakoepjkkbaaVmFO
import Derived.Test.YtageakoepjkkbaaVmGt
import Derived.Test.YtageakoepjkkbaaVmAE
import Derived.Test.YtageakoepjkkbaaVmAF
import Derived.Test.YtageakoepjkkbaaRows
import Derived.WalkKit
import Derived.ProofKit
import Derived.OpenShut
import Derived.Carry
import Derived.Deep.Matrix
import Derived.Deep.Slices
/- From the small machine to the statement: lists of numbers and lists of such lists, in memory that is only read. -/
open Go.Vm
set_option linter.unusedVariables false
namespace Go.Proofs.Ytageakoepjkkbaa.T
open Go Go.RowKit Go.Deep Go.WideShapes Go.ChangeShapes

/-- what every list of lists is -/
def Fits (rows : List (List Int)) : Prop := rows.length ≤ 9223372036854775807 ∧ ∀ z ∈ rows, z.length ≤ 9223372036854775807 ∧ ∀ n ∈ z, inI64 n
abbrev F1 : Tab := ⟨F, known0 16 (.b true)⟩
def IsRowK (k : IntKind) (ro : List ABlk) (h : Heap) (v : AVal) (z : List Int) : Prop :=
  (v = .nsl ∧ z = []) ∨ ∃ q cap blk, v = .sl q z.length cap ∧ rdB ro h q = some blk ∧ q.off + z.length ≤ blk.n ∧ ∀ j, j < z.length → blk.c.get (q.off + j) = .i k (z.getD j 0)

/-- what is read in the world of a list of lists: the value, the rows -/
structure OpenM (W : World) (v0 : Value) (rows : List (List Int)) : Prop where
  o : (v0 = .slice none 0 0 ∧ rows = []) ∨ ∃ (a : Addr) (cap : Nat) (A : Nat → Option Addr) (L C : Nat → Nat) (Z : Nat → List Int), v0 = .slice (some a) rows.length cap ∧
    rows.length ≤ cap ∧ rows = (List.range rows.length).map (fun r => (Z r).take (L r)) ∧
    ∀ r, r < cap → a.block < W.heap.size ∧ W.cell? (a.add r) = some (.slice (A r) (L r) (C r)) ∧ L r ≤ C r ∧ (Z r).length = C r ∧ (A r = none → C r = 0) ∧
      ∀ x, A r = some x → ∀ c, c < C r → x.block < W.heap.size ∧ W.cell? (x.add c) = some (.int .i64 ((Z r).getD c 0))
  fits : Fits rows


/-- what is read in the world of a list of numbers -/
structure OpenK (k : IntKind) (W : World) (v0 : Value) (z : List Int) : Prop where
  o : (v0 = .slice none 0 0 ∧ z = []) ∨ ∃ (a : Addr) (cap : Nat) (Z : List Int), v0 = .slice (some a) z.length cap ∧ z.length ≤ cap ∧ Z.length = cap ∧ z = Z.take z.length ∧ ∀ i, i < cap → a.block < W.heap.size ∧ W.cell? (a.add i) = some (.int k (Z.getD i 0))
  len_le : z.length ≤ 9223372036854775807
  z : ∀ n ∈ z, (Lit.int k n).wf = true

theorem cells23 : Try.prog.cellsOf 23 = 1 := by kernel_rfl
theorem cells3 : Try.prog.cellsOf 3 = 1 := by kernel_rfl
theorem laidOut : laidOutB Try.prog = true := by kernel_rfl
theorem own : ownKnob Try.prog.godebug = none := by kernel_rfl

section
variable {H : Type} {enc : TypeId × Value → H} {W : World} {v0 : Value} {d : DataW H} {p : List MemPlace}
theorem opened_ints (hs : ∃ a len cap, v0 = .slice a len cap) (h : DataW.Trod enc Try.prog W 0 (fun _ => true) true 23 v0 d p) : ∃ z, OpenK .i64 W v0 z := by
  obtain ⟨a0, len, cap, rfl⟩ := hs
  obtain ⟨fuel, hf⟩ := h
  have hml : maxLen = 9223372036854775807 := rfl
  rcases open_ints Try.underlying23 Try.underlying3 cells3 hf with ⟨hcs0, hx⟩ | ⟨a, len', cap', zs, hcs0, _, hl, hm, hz, hx, hcell, hw⟩
  · simp [Value.cells] at hcs0
    obtain ⟨rfl, rfl, rfl⟩ := hcs0
    exact ⟨[], .inl ⟨rfl, rfl⟩, by simp, by simp⟩
  · simp [Value.cells] at hcs0
    obtain ⟨rfl, rfl, rfl⟩ := hcs0
    simp only [if_true] at hz
    have hlen : (zs.take len).length = len := by simp; omega
    refine ⟨zs.take len, .inr ⟨a, cap, zs, by rw [hlen], by omega, by omega, by rw [hlen], fun i hi => ?_⟩, by omega, fun n hn => hw n (List.mem_of_mem_take hn)⟩
    have h1 := hcell i (by omega)
    exact ⟨World.block_lt_of_cell? _ _ h1 |> fun h => by simpa [addr_block] using h, h1⟩
end

/-- the reading of a list of lists -/
theorem opened_mat {H : Type} {enc : TypeId × Value → H} {W : World} {v0 : Value} {d : DataW H} {p : List MemPlace} (hs : ∃ a len cap, v0 = .slice a len cap) (h : DataW.Trod enc Try.prog W 0 (fun _ => true) true 22 v0 d p) : ∃ rows, OpenM W v0 rows := by
  obtain ⟨a0, len, cap, rfl⟩ := hs
  obtain ⟨fuel, hf⟩ := h
  rcases open_int_rows Try.underlying22 Try.underlying23 Try.underlying3 cells23 cells3 hf with ⟨hcs0, hx⟩ | ⟨a, len', cap', A, L, C, Z, hcs0, _, hl, hm, hx, hrows⟩
  · simp [Value.cells] at hcs0
    obtain ⟨rfl, rfl, rfl⟩ := hcs0
    exact ⟨[], .inl ⟨rfl, rfl⟩, by simp [Fits]⟩
  · simp [Value.cells] at hcs0
    obtain ⟨rfl, rfl, rfl⟩ := hcs0
    have hml : maxLen = 9223372036854775807 := rfl
    refine ⟨(List.range len).map fun r => (Z r).take (L r), .inr ⟨a, cap, A, L, C, Z, by simp, by simpa using hl, by simp, fun r hr => ?_⟩, ?_⟩
    · obtain ⟨h1, h2, h3, h4, h5, h6, h7⟩ := hrows r hr
      refine ⟨World.block_lt_of_cell? _ _ h1 |> fun h => by simpa [addr_block] using h, h1, h2, h4, h6, fun x hx c hc => ?_⟩
      obtain ⟨-, h8⟩ := h7 x hx
      have := World.block_lt_of_cell? _ _ (h8 c hc)
      exact ⟨by simpa [addr_block] using this, h8 c hc⟩
    · refine ⟨by simp; omega, fun z hz => ?_⟩
      obtain ⟨r, hr, rfl⟩ := List.mem_map.1 hz
      have hr := List.mem_range.1 hr
      obtain ⟨h1, h2, h3, h4, h5, h6, h7⟩ := hrows r (by omega)
      refine ⟨by simp; omega, fun n hn => wf_i64 (h5 n (List.mem_of_mem_take hn))⟩

/-- of an argument: read-only memory for it -/
theorem ro_mat {W : World} {v0 : Value} {rows : List (List Int)} (h : OpenM W v0 rows) (pre : List ABlk) (prl : Rl) (hp : pre.length = prl.length) : ∃ (ro : List ABlk) (rl : Rl) (v : AVal), ro.length = rl.length ∧ (∀ x y h, IsMat (pre ++ ro ++ x) h v rows ∧ VR (prl ++ rl ++ y) [] v v0) ∧
    ∀ (i : Nat) (b : ABlk), ro[i]? = some b → ∃ x, rl[i]? = some x ∧ ∀ j, j < b.n → x.block < W.heap.size ∧ ∃ v', W.cell? (x.add j) = some v' ∧ ∀ y, VR (prl ++ rl ++ y) [] (b.c.get j) v' := by
  rcases h.o with ⟨rfl, rfl⟩ | ⟨a, cap, A, L, C, Z, rfl, hcap, hrows, hcell⟩
  · exact ⟨[], [], .nsl, rfl, fun x y h => ⟨.inl ⟨rfl, rfl⟩, .nsl⟩, fun i b hb => by simp at hb⟩
  · have hro : ∀ (x : List ABlk) (r : Nat), r < cap → (pre ++ roMat pre.length cap A L C Z ++ x)[pre.length + 1 + r]? = some ⟨0, cond (A r).isSome (C r) 0, Tr.mk ((Z r).map (AVal.i .i64)), none⟩ := fun x r hr => by
      rw [List.append_assoc, List.getElem?_append_right (by omega), show pre.length + 1 + r - pre.length = r + 1 by omega]
      simp [roMat, hr, List.getElem?_append_left]
    have hro0 : ∀ (x : List ABlk), (pre ++ roMat pre.length cap A L C Z ++ x)[pre.length]? = some ⟨0, cap, Tr.mk ((List.range cap).map (roCell pre.length A L C)), none⟩ := fun x => by
      rw [List.append_assoc, List.getElem?_append_right (by omega)]
      simp [roMat]
    have hrl : ∀ (y : Rl) (r : Nat), r < cap → (prl ++ rlMat a cap A ++ y)[pre.length + 1 + r]? = some ((A r).getD a) := fun y r hr => by
      rw [List.append_assoc, List.getElem?_append_right (by omega), show pre.length + 1 + r - prl.length = r + 1 by omega]
      simp [rlMat, hr, List.getElem?_append_left]
    have hrl0 : ∀ (y : Rl), (prl ++ rlMat a cap A ++ y)[pre.length]? = some a := fun y => by
      rw [List.append_assoc, List.getElem?_append_right (by omega), show pre.length - prl.length = 0 by omega]
      simp [rlMat]
    have hvr : ∀ (y : Rl) (r : Nat), r < cap → VR (prl ++ rlMat a cap A ++ y) [] (roCell pre.length A L C r) (.slice (A r) (L r) (C r)) := fun y r hr => by
      obtain ⟨-, -, h1, h2, h3, -⟩ := hcell r hr
      unfold roCell
      cases hA : A r with
      | none =>
        have := h3 hA
        have h0 : L r = 0 := by omega
        rw [this, h0]
        exact .nsl
      | some x =>
        refine .slk _ _ _ _ ?_
        have := hrl y r hr
        rw [hA] at this
        show (((prl ++ rlMat a cap A ++ y)[pre.length + 1 + r]?).map fun x => x.add 0) = some x
        rw [this]; simp [Addr.add]
    refine ⟨roMat pre.length cap A L C Z, rlMat a cap A, .sl ⟨true, pre.length, 0⟩ rows.length (.known cap), by simp [roMat, rlMat], fun x y h => ⟨.inr ⟨_, _, ⟨0, cap, Tr.mk ((List.range cap).map (roCell pre.length A L C)), none⟩, rfl, ?_, ?_, ?_⟩, ?_⟩, ?_⟩
    · simp only [rdB, cond_true, lget_eq]; exact hro0 x
    · simpa using hcap
    · intro r hr
      have hr' : r < cap := by omega
      obtain ⟨-, -, h1, h2, h3, h4⟩ := hcell r hr'
      have hg : (Tr.mk ((List.range cap).map (roCell pre.length A L C))).get (0 + r) = roCell pre.length A L C r := by
        rw [get_mk]; simp [List.getD, hr']
      have hrow : rows.getD r [] = (Z r).take (L r) := by
        rw [List.getD_eq_getElem?_getD]
        conv => lhs; rw [hrows]
        simp [hr]
      simp only [hg, hrow]
      unfold roCell
      cases hA : A r with
      | none =>
        have := h3 hA
        have h0 : L r = 0 := by omega
        exact .inl ⟨rfl, by simp [h0]⟩
      | some y =>
        refine .inr ⟨⟨true, pre.length + 1 + r, 0⟩, .known (C r), ⟨0, cond (A r).isSome (C r) 0, Tr.mk ((Z r).map (AVal.i .i64)), none⟩, ?_, ?_, ?_, ?_⟩
        · simp; omega
        · simp only [rdB, cond_true, lget_eq]; exact hro x r hr'
        · simp [hA]; omega
        · intro j hj
          simp only [List.length_take] at hj
          rw [get_mk]
          have hj2 : j < (Z r).length := by omega
          have hj3 : j < L r := by omega
          simp [List.getD, hj2, hj3]
    · refine .slk _ _ _ _ ?_
      show (((prl ++ rlMat a cap A ++ y)[pre.length]?).map fun x => x.add 0) = some a
      rw [hrl0 y]; simp [Addr.add]
    · intro i b hb
      cases i with
      | zero =>
        simp [roMat] at hb
        subst hb
        refine ⟨a, by simp [rlMat], fun j hj => ?_⟩
        obtain ⟨h0, h1, -⟩ := hcell j hj
        refine ⟨h0, _, h1, fun y => ?_⟩
        have hg : (Tr.mk ((List.range cap).map (roCell pre.length A L C))).get j = roCell pre.length A L C j := by
          rw [get_mk]; simp [List.getD, show j < cap from hj]
        simp only [hg]
        exact hvr y j hj
      | succ r =>
        simp only [roMat, List.getElem?_cons_succ, List.getElem?_map, Option.map_eq_some_iff] at hb
        obtain ⟨r', hr', rfl⟩ := hb
        obtain ⟨hlt, he⟩ := List.getElem?_eq_some_iff.1 hr'
        simp only [List.length_range] at hlt
        simp only [List.getElem_range] at he
        subst he
        refine ⟨(A r).getD a, by simp [rlMat, hlt], fun j hj => ?_⟩
        obtain ⟨-, -, h1, h2, h3, h4⟩ := hcell r hlt
        cases hA : A r with
        | none => simp [hA] at hj
        | some x =>
          simp only [hA, Option.isSome_some, cond_true] at hj
          obtain ⟨h5, h6⟩ := h4 x hA j hj
          refine ⟨h5, _, h6, fun y => ?_⟩
          have hg : (Tr.mk ((Z r).map (AVal.i .i64))).get j = .i .i64 ((Z r).getD j 0) := by
            rw [get_mk]; simp [List.getD, show j < (Z r).length by omega]
          simp only [hg]
          exact .i _ _


/-- a slice's room is at least its length -/
def CapO (v : AVal) : Prop := ∀ q n c, v = .sl q n (.known c) → n ≤ c
theorem ro_flat {k : IntKind} {W : World} {v0 : Value} {z : List Int} (h : OpenK k W v0 z) (pre : List ABlk) (prl : Rl) (hp : pre.length = prl.length) : ∃ (ro : List ABlk) (rl : Rl) (v : AVal), ro.length = rl.length ∧ CapO v ∧
    (∀ x y h, IsRowK k (pre ++ ro ++ x) h v z ∧ VR (prl ++ rl ++ y) [] v v0) ∧
    ∀ (i : Nat) (b : ABlk), ro[i]? = some b → ∃ x, rl[i]? = some x ∧ ∀ j, j < b.n → x.block < W.heap.size ∧ ∃ v', W.cell? (x.add j) = some v' ∧ ∀ y, VR y [] (b.c.get j) v' := by
  rcases h.o with ⟨rfl, rfl⟩ | ⟨a, cap, Z, rfl, hcap, hlen, hz, hcell⟩
  · exact ⟨[], [], .nsl, rfl, (fun q n c e => by cases e), fun x y h => ⟨.inl ⟨rfl, rfl⟩, .nsl⟩, fun i b hb => by simp at hb⟩
  · have hget : ∀ j, j < cap → (Tr.mk (Z.map (AVal.i k))).get j = .i k (Z.getD j 0) := fun j hj => by
      rw [get_mk]; simp [List.getD, show j < Z.length by omega]
    refine ⟨[⟨0, cap, Tr.mk (Z.map (AVal.i k)), none⟩], [a], .sl ⟨true, pre.length, 0⟩ z.length (.known cap), rfl, (fun q n c e => by cases e; exact hcap), fun x y h => ⟨.inr ⟨⟨true, pre.length, 0⟩, .known cap, ⟨0, cap, Tr.mk (Z.map (AVal.i k)), none⟩, rfl, ?_, ?_, fun j hj => ?_⟩, ?_⟩, fun i b hb => ?_⟩
    · simp only [rdB, cond_true, lget_eq, List.append_assoc]
      rw [List.getElem?_append_right (Nat.le_refl _)]; simp
    · simpa using hcap
    · have e := hget j (by omega)
      have e2 : Z.getD j 0 = z.getD j 0 := by
        rw [hz, List.getD_eq_getElem?_getD, List.getD_eq_getElem?_getD, List.getElem?_take_of_lt hj]
      rw [e2] at e
      simpa using e
    · refine .slk _ _ _ _ ?_
      show (((prl ++ [a] ++ y)[pre.length]?).map fun x => x.add 0) = some a
      rw [List.append_assoc, List.getElem?_append_right (by omega), hp]; simp [Addr.add]
    · cases i with
      | zero =>
        simp at hb
        subst hb
        refine ⟨a, rfl, fun j hj => ?_⟩
        obtain ⟨h1, h2⟩ := hcell j hj
        refine ⟨h1, _, h2, fun y => ?_⟩
        have := hget j hj
        simp only [this]
        exact .i _ _
      | succ i => simp at hb

theorem env_ok {W : World} {ro : List ABlk} {rl : Rl} (h : ∀ (i : Nat) (b : ABlk), ro[i]? = some b → ∃ x, rl[i]? = some x ∧ ∀ j, j < b.n → x.block < W.heap.size ∧ ∃ v', W.cell? (x.add j) = some v' ∧ VR rl [] (b.c.get j) v') :
    (Env.mk Try.prog W.heap.size W ro rl).Ok := ⟨fun i b hb => h i b hb, Nat.le_refl _⟩
/-- what lies in the read-only blocks; more may come behind -/
def RoP (W : World) (ro : List ABlk) (rl : Rl) : Prop := ∀ (i : Nat) (b : ABlk), ro[i]? = some b → ∃ x, rl[i]? = some x ∧ ∀ j, j < b.n → x.block < W.heap.size ∧ ∃ v', W.cell? (x.add j) = some v' ∧ ∀ y, VR (rl ++ y) [] (b.c.get j) v'
theorem RoP.nil (W : World) : RoP W [] [] := fun i b hb => by simp at hb
theorem RoP.env {W : World} {ro : List ABlk} {rl : Rl} (h : RoP W ro rl) : (Env.mk Try.prog W.heap.size W ro rl).Ok := env_ok fun i b hb => by
  obtain ⟨y, h1, h2⟩ := h i b hb
  refine ⟨y, h1, fun j hj => ?_⟩
  obtain ⟨h3, v', h4, h5⟩ := h2 j hj
  exact ⟨h3, v', h4, by have := h5 []; simpa using this⟩
theorem RoP.snoc {W : World} {ro ro' : List ABlk} {rl rl' : Rl} (hl : ro.length = rl.length) (h : RoP W ro rl)
    (h' : ∀ (i : Nat) (b : ABlk), ro'[i]? = some b → ∃ x, rl'[i]? = some x ∧ ∀ j, j < b.n → x.block < W.heap.size ∧ ∃ v', W.cell? (x.add j) = some v' ∧ ∀ y, VR y [] (b.c.get j) v') : RoP W (ro ++ ro') (rl ++ rl') := by
  intro i b hb
  rcases Nat.lt_or_ge i ro.length with hi | hi
  · rw [List.getElem?_append_left hi] at hb
    obtain ⟨x, h1, h2⟩ := h i b hb
    refine ⟨x, by rw [List.getElem?_append_left (by omega)]; exact h1, fun j hj => ?_⟩
    obtain ⟨h3, v', h4, h5⟩ := h2 j hj
    exact ⟨h3, v', h4, fun y => by rw [List.append_assoc]; exact h5 _⟩
  · rw [List.getElem?_append_right hi] at hb
    obtain ⟨x, h1, h2⟩ := h' _ b hb
    refine ⟨x, by rw [List.getElem?_append_right (by omega), ← hl]; exact h1, fun j hj => ?_⟩
    obtain ⟨h3, v', h4, h5⟩ := h2 j hj
    exact ⟨h3, v', h4, fun y => h5 _⟩

/-- the call of the model: true, and below nothing has turned -/
theorem call_of {W : World} {ro : List ABlk} {rl : Rl} (hE : (Env.mk Try.prog W.heap.size W ro rl).Ok) {K : Nat} {vs : List AVal} {args : Array Value}
    (hv : LR rl [] vs args) {h' : Heap} {lw lp : Nat} (hc : callX F1 ro K vs [] = some (.b true, h', lw, lp)) : Calls Try.prog K args W fun e W' => e = .returned (.bool true) ∧ Below W.heap.size W W' := by
  have hm : (Env.mk Try.prog W.heap.size W ro rl).P.follows .mixedOrders = true := Try.checked.mixed
  have hO : CallOk (Env.mk Try.prog W.heap.size W ro rl) (known0 16 (.b true)) := known0_of hE hm fok alive0 rfl
  obtain ⟨-, h2⟩ := callX_sound hE hm (F := F1) fok hO K vs [] _ _ _ _ hc
  refine Calls.mono (h2 [] W args ⟨Below.refl _ _, rfl, by simp, fun i b r K hl => by simp [Live] at hl, fun i j b b' r K K' hl => by simp [Live] at hl⟩ hv) fun e w' hq => ?_
  obtain ⟨v', rfl, m', hvr, T⟩ := hq
  exact ⟨by rw [hvr.inv_b], T.hr.below⟩
theorem alive_pure {ro : List ABlk} {h : Heap} : callX F1 ro 16 [] h = some (.b true, h, h.length, h.length) := callX_ov rfl
end Go.Proofs.Ytageakoepjkkbaa.T

/- Blocks that a function makes for itself; loops whose state is known. -/
open Go.Vm
set_option linter.unusedVariables false
namespace Go.Proofs.Ytageakoepjkkbaa.T
open Go

/-- a block of the heap that holds these values -/
def Holds (hp : Heap) (b : Nat) (vs : List AVal) : Prop := ∃ blk : ABlk, lget hp b = some (some blk) ∧ blk.n = vs.length ∧ ∀ j, j < vs.length → blk.c.get j = vs.getD j und
/-- what was there is still there -/
def Keep (h hp : Heap) : Prop := h.length ≤ hp.length ∧ ∀ i, i < h.length → hp[i]? = h[i]?

section
variable {ro : List ABlk} {h hp hp' : Heap} {b k e n l p : Nat} {vs : List AVal}
theorem Keep.refl (h : Heap) : Keep h h := ⟨Nat.le_refl _, fun _ _ => rfl⟩
theorem Keep.trans {h1 : Heap} (a : Keep h h1) (c : Keep h1 hp) : Keep h hp := ⟨Nat.le_trans a.1 c.1, fun i hi => by rw [c.2 i (by have := a.1; omega), a.2 i hi]⟩
theorem Keep.app (x : Heap) : Keep h (h ++ x) := ⟨by simp, fun i hi => List.getElem?_append_left hi⟩
theorem Keep.set (a : Keep h hp) (hb : h.length ≤ b) (x : Option ABlk) : Keep h (hp.set b x) := ⟨by simpa using a.1, fun i hi => by rw [List.getElem?_set_ne (by omega)]; exact a.2 i hi⟩
theorem Keep.eq (a : Keep h hp) : hp.take h.length = h := by
  refine List.ext_getElem? fun i => ?_
  rcases Nat.lt_or_ge i h.length with hi | hi
  · rw [List.getElem?_take_of_lt hi, a.2 i hi]
  · rw [List.getElem?_eq_none (by simp; omega), List.getElem?_eq_none hi]
theorem fin_keep {v : AVal} (a : Keep h hp) (hv : v.bel h.length = true) : finM h.length v ⟨hp, h.length, h.length⟩ = some (v, h, h.length, h.length) := by
  rw [fin_take hv, a.eq]
theorem Holds.lt (a : Holds hp b vs) : b < hp.length := by obtain ⟨blk, h1, -⟩ := a; exact lget_lt h1
theorem Holds.new (hp : Heap) (e : Nat) (vs : List AVal) : Holds (hp ++ [some (blkOf e vs)]) hp.length vs := ⟨_, lget_last _ _, rfl, fun j _ => get_blk e vs j⟩
theorem Holds.keep (a : Holds hp b vs) (hk : hp'[b]? = hp[b]?) : Holds hp' b vs := by
  obtain ⟨blk, h1, h2⟩ := a
  exact ⟨blk, by rw [lget_of hk]; exact h1, h2⟩
theorem Holds.ext (a : Holds hp b vs) (x : Heap) : Holds (hp ++ x) b vs := a.keep (List.getElem?_append_left a.lt)
theorem Holds.by (a : Holds hp b vs) (k : Keep hp hp') : Holds hp' b vs := a.keep (k.2 b a.lt)
theorem Holds.one (a : Holds hp b vs) (hk : k < vs.length) : ldM ro ⟨hp, l, p⟩ true 1 (.p (some ⟨false, b, 0 + k⟩)) = some (vs.getD k und) := by
  obtain ⟨blk, h1, h2, h3⟩ := a
  rw [ld_heap rfl h1 (by omega), ← h3 k hk, Nat.zero_add]
theorem Holds.oneA (a : Holds hp b vs) (hk : k < vs.length) : ldA ro hp true 1 (.p (some ⟨false, b, 0 + k⟩)) = some (vs.getD k und) := by
  obtain ⟨blk, h1, h2, h3⟩ := a
  rw [lda_heap h1 (by omega), ← h3 k hk, Nat.zero_add]
theorem row_list {t : Tr} : ∀ (vs : List AVal) (i : Nat), (∀ j, j < vs.length → t.get (i + j) = vs.getD j und) → t.row i vs.length = vs
  | [], i, _ => rfl
  | v :: vs, i, h => by
    simp only [List.length_cons, Tr.row]
    rw [show t.get i = v by simpa using h 0 (by simp), row_list vs (i + 1) fun j hj => by have := h (j + 1) (by simp; omega); rw [show i + 1 + j = i + (j + 1) by omega, this]; simp]
theorem Holds.rd (a : Holds hp b vs) (hn : n = vs.length) : Go.Vm.rd ro hp false n ⟨false, b, 0⟩ = some (.agg vs) := by
  subst hn
  obtain ⟨blk, h1, h2, h3⟩ := a
  have hc : Nat.ble (0 + vs.length) blk.n = true := by rw [Nat.ble_eq]; omega
  simp only [Go.Vm.rd, rdB_heap h1, cond_false, hc, cond_true]
  rw [row_list vs 0 fun j hj => by rw [Nat.zero_add]; exact h3 j hj]
theorem Holds.all (a : Holds hp b vs) (hn : n = vs.length) : ldM ro ⟨hp, l, p⟩ false n (.p (some ⟨false, b, 0⟩)) = some (.agg vs) := by
  simp only [ldM, a.rd hn]
theorem spliceGet (t : Tr) : ∀ (vs : List AVal) (i j : Nat), (t.splice i vs).get j = if i ≤ j ∧ j < i + vs.length then vs.getD (j - i) und else t.get j
  | [], i, j => by simp [Tr.splice]; intro h1 h2; omega
  | v :: vs, i, j => by
    rw [Tr.splice, spliceGet (t.set i v) vs (i + 1) j, get_set]
    by_cases e : i = j
    · subst e
      rw [if_neg (by omega), if_pos rfl, if_pos (by simp)]; simp
    · by_cases h2 : i ≤ j ∧ j < i + (v :: vs).length
      · have h3 : i + 1 ≤ j ∧ j < i + 1 + vs.length := by simp at h2; omega
        rw [if_pos h2, if_pos h3]
        obtain ⟨q, rfl⟩ : ∃ q, j = i + 1 + q := ⟨j - (i + 1), by omega⟩
        rw [show i + 1 + q - i = q + 1 by omega, show i + 1 + q - (i + 1) = q by omega]
        simp
      · have h3 : ¬ (i + 1 ≤ j ∧ j < i + 1 + vs.length) := by simp at h2; omega
        rw [if_neg h2, if_neg h3, if_neg e]
theorem wrH_all {blk : ABlk} (hb : lget hp b = some (some blk)) (hn : vs.length ≤ blk.n) (ho : ones vs = true) : wrH hp ⟨false, b, 0⟩ vs = some (hp.set b (some { blk with c := blk.c.splice 0 vs })) := by
  have : (Nat.ble (0 + vs.length) blk.n && ones vs) = true := by rw [ho, Bool.and_true, Nat.ble_eq]; omega
  simp only [wrH, cond_false, hb, this, cond_true, lset_eq]
/-- a block is written whole -/
theorem Holds.st {vs' : List AVal} {v : AVal} (a : Holds hp b vs) (hv : v.cells = vs') (hn : n = vs'.length) (hl : vs'.length = vs.length) (ho : ones vs' = true) (hL : h.length ≤ b) (kp : Keep h hp) :
    ∃ hp', stepM ro ⟨hp, h.length, h.length⟩ (.st n (.c (.p (some ⟨false, b, 0⟩))) (.c v)) = some (und, ⟨hp', h.length, h.length⟩) ∧ Holds hp' b vs' ∧ hp'.length = hp.length ∧ (∀ i, i ≠ b → hp'[i]? = hp[i]?) ∧ Keep h hp' := by
  obtain ⟨blk, h1, h2, h3⟩ := a
  subst hv hn
  have hw := wrH_all h1 (vs := v.cells) (by omega) ho
  refine ⟨hp.set b (some { blk with c := blk.c.splice 0 v.cells }), ?_, ⟨_, lget_set h1 _, by simpa using (h2.trans hl.symm), fun j hj => ?_⟩, by simp, fun i hi => List.getElem?_set_ne (Ne.symm hi), kp.set hL _⟩
  · have hbq : Nat.beq v.cells.length v.cells.length = true := Nat.beq_refl _
    have e : (cond (nonp v.cells) h.length h.length) = h.length := by cases nonp v.cells <;> rfl
    simp only [stepM, stepK, opd, st_st, hbq, cond_true, hw, St.mm, Nat.min_eq_left hL, e]
  · show (blk.c.splice 0 v.cells).get j = _
    rw [spliceGet, if_pos (by omega)]; simp
theorem bx_ok (e : Nat) (hn : vs.length = n) : stepM ro ⟨hp, l, p⟩ (.bx e n (.c (.agg vs))) = some (.p (some ⟨false, hp.length, 0⟩), ⟨hp ++ [some (blkOf e vs)], l, p⟩) := by
  subst hn
  have hbq : Nat.beq vs.length vs.length = true := Nat.beq_refl _
  simp only [stepM, stepK, opd, st_bx, AVal.cells, hbq, cond_true, newB, St.mm]
end

theorem ext0 (a : AVal) (l : List AVal) : evP .e (.ext 0 (.c (.tup (a :: l)))) = some a := rfl
theorem ext1 (a b : AVal) (l : List AVal) : evP .e (.ext 1 (.c (.tup (a :: b :: l)))) = some b := rfl
theorem ext2 (a b c : AVal) (l : List AVal) : evP .e (.ext 2 (.c (.tup (a :: b :: c :: l)))) = some c := rfl
section
variable {ro : List ABlk} {h : Heap} {v : AVal}
theorem row_by {hp : Heap} {z : List Int} (a : IsRow ro h v z) (k : Keep h hp) : IsRow ro hp v z := by
  rw [take_eq k.1 k.2]; exact a.ext _
end

/-- one cell of a block is written -/
theorem Holds.set {ro : List ABlk} {h hp : Heap} {b k : Nat} {vs : List AVal} {v : AVal} (a : Holds hp b vs) (hk : k < vs.length) (hv : v.one = true) (hc : v.cells = [v]) (hn : nonp [v] = true) (hL : h.length ≤ b) (kp : Keep h hp) :
    ∃ hp', stepM ro ⟨hp, h.length, h.length⟩ (.st 1 (.c (.p (some ⟨false, b, 0 + k * 1⟩))) (.c v)) = some (und, ⟨hp', h.length, h.length⟩) ∧ Holds hp' b (vs.set k v) ∧ hp'.length = hp.length ∧ (∀ i, i ≠ b → hp'[i]? = hp[i]?) ∧ Keep h hp' := by
  obtain ⟨blk, h1, h2, h3⟩ := a
  have e : 0 + k * 1 = k := by omega
  refine ⟨hp.set b (some { blk with c := blk.c.set k v }), ?_, ⟨_, lget_set h1 _, by simpa using h2, fun j hj => ?_⟩, by simp, fun i hi => List.getElem?_set_ne (Ne.symm hi), kp.set hL _⟩
  · rw [e, st_heap h1 (by omega) hv hc hn, Nat.min_eq_left hL]
  · show (blk.c.set k v).get j = _
    rw [get_set]
    simp only [List.length_set] at hj
    by_cases e : k = j
    · subst e; simp [List.getD, hj]
    · rw [if_neg e, h3 j hj]
      simp [List.getD, List.getElem?_set_ne e]


/-- a loop whose state is known for each round -/
theorem loop_st {S R : Type} {b : S → Option (S ⊕ R)} (st : Nat → S) (n : Nat) (step : Nat → Option R) (r0 : R) (hout : b (st n) = some (.inr r0)) (hin : ∀ i, i < n → b (st i) = some (match step i with | some r => .inr r | none => .inl (st (i + 1)))) :
    ∀ (k i : Nat), i + k = n → loopX b (st i) = some ((firstS step k i).getD r0)
  | 0, i, hi => by
    simp only [Nat.add_zero] at hi
    subst hi
    exact loopX_out hout
  | k + 1, i, hi => by
    have h1 := hin i (by omega)
    unfold firstS
    cases hs : step i with
    | some r => rw [hs] at h1; exact loopX_out h1
    | none =>
      rw [hs] at h1
      exact loopX_on h1 (loop_st st n step r0 hout hin k (i + 1) (by omega))
/-- one that runs to its end -/
theorem loop_run {S R : Type} {b : S → Option (S ⊕ R)} (st : Nat → S) (n : Nat) {r0 : R} (hout : b (st n) = some (.inr r0)) (hin : ∀ i, i < n → b (st i) = some (.inl (st (i + 1)))) : loopX b (st 0) = some r0 := by
  have := loop_st st n (fun _ => none) r0 hout hin n 0 (by omega)
  rw [firstS_none.2 fun _ _ _ => rfl] at this
  exact this
/-- one that looks for something -/
theorem loop_if {S R : Type} {b : S → Option (S ⊕ R)} (st : Nat → S) (n : Nat) (P : Nat → Prop) [DecidablePred P] (r0 r1 : R) (hout : b (st n) = some (.inr r0)) (hin : ∀ i, i < n → P i → b (st i) = some (.inl (st (i + 1)))) (hno : ∀ i, i < n → ¬ P i → b (st i) = some (.inr r1)) :
    loopX b (st 0) = some (if (∀ i, i < n → P i) then r0 else r1) := by
  have := loop_st st n (fun i => if P i then none else some r1) r0 hout (fun i hi => by
    by_cases hp : P i
    · rw [if_pos hp]; exact hin i hi hp
    · rw [if_neg hp]; exact hno i hi hp) n 0 (by omega)
  rw [this]
  by_cases hall : ∀ i, i < n → P i
  · rw [if_pos hall, firstS_none.2 fun j _ h2 => by rw [if_pos (hall j (by omega))]]; rfl
  · rw [if_neg hall]
    cases hf : firstS (fun i => if P i then none else some r1) n 0 with
    | none =>
      refine absurd (fun i hi => ?_) hall
      have := firstS_none.1 hf i (by omega) (by omega)
      simpa using this
    | some r =>
      obtain ⟨j, -, -, h3, -⟩ := firstS_some hf
      by_cases hc : P j
      · rw [if_pos hc] at h3; cases h3
      · rw [if_neg hc] at h3; cases h3; rfl

theorem dT {p : Prop} [Decidable p] (h : p) : decide p = true := decide_eq_true h
theorem dF {p : Prop} [Decidable p] (h : ¬ p) : decide p = false := decide_eq_false h
theorem row_bel {ro : List ABlk} {h : Heap} {v : AVal} {z : List Int} (a : IsRow ro h v z) : v.bel h.length = true := by
  rcases a with ⟨rfl, -⟩ | ⟨q, cap, blk, rfl, hb, -⟩
  · rfl
  · simpa [AVal.bel] using rdB_lt hb
theorem mat_by {ro : List ABlk} {h hp : Heap} {v : AVal} {z : List (List Int)} (a : IsMat ro h v z) (k : Keep h hp) : IsMat ro hp v z := by
  rw [take_eq k.1 k.2]; exact a.ext _
theorem at_rowK {ro : List ABlk} {h : Heap} {v : AVal} {z : List Int} (hr : IsRow ro h v z) {i : Nat} (hi : i < z.length) : ∃ p, evP .e (.ixS 1 (.c v) (.c (.i .i64 (i : Int)))) = some p ∧ ∀ {hp : Heap} {l q : Nat}, Keep h hp → ldM ro ⟨hp, l, q⟩ true 1 p = some (.i .i64 (z.getD i 0)) ∧ ldA ro hp true 1 p = some (.i .i64 (z.getD i 0)) := by
  obtain ⟨p, h1, -⟩ := at_row (m := ⟨h, 0, 0⟩) rfl hr hi
  refine ⟨p, h1, fun {hp l q} k => ?_⟩
  obtain ⟨p', g1, g2, g3⟩ := at_row (m := ⟨hp, l, q⟩) rfl (row_by hr k) hi
  rw [h1] at g1; cases g1
  exact ⟨g2, g3⟩
theorem at_matK {ro : List ABlk} {h : Heap} {v : AVal} {x : List (List Int)} (hr : IsMat ro h v x) {i : Nat} (hi : i < x.length) : ∃ p u, evP .e (.ixS 1 (.c v) (.c (.i .i64 (i : Int)))) = some p ∧ (∀ {hp : Heap} {l q : Nat}, Keep h hp → ldM ro ⟨hp, l, q⟩ true 1 p = some u ∧ ldA ro hp true 1 p = some u) ∧ IsRow ro h u (x.getD i []) := by
  rcases hr with ⟨rfl, rfl⟩ | ⟨q, cap, blk, rfl, hb, hn, hc⟩
  · simp at hi
  · refine ⟨_, _, ixS_eq hi, fun {hp l q'} k => ?_, hc i hi⟩
    have hb' : rdB ro hp q = some blk := by rw [take_eq k.1 k.2]; exact rdB_ext _ hb
    have h1 := rd_one (i := i) hb' (by omega)
    refine ⟨h1, ?_⟩
    have := rdB_lt hb'
    simp only [ldA, this, cond_true, h1]
abbrev nthR (x : List (List Int)) (i : Nat) : List Int := x.getD i []
theorem cp {F : Tab} {ro : List ABlk} {h : Heap} {f : Nat} {a : List AVal} {v : AVal} {l p : Nat} (e : callX F ro f a h = some (v, h, h.length, h.length)) (hl : l ≤ h.length) (hp : p ≤ h.length) : callM (callX F ro) ⟨h, l, p⟩ f a = some (v, ⟨h, l, p⟩) :=
  callM_pure e hl hp
theorem cp0 {F : Tab} {ro : List ABlk} {h : Heap} {f : Nat} {a : List AVal} {v : AVal} (e : callX F ro f a h = some (v, h, h.length, h.length)) : callM (callX F ro) ⟨h, h.length, h.length⟩ f a = some (v, ⟨h, h.length, h.length⟩) :=
  callM_pure e (Nat.le_refl _) (Nat.le_refl _)

/- the laws' own: few, same -/
def few (x : List (List Int)) (z : List Int) : Prop := (∀ i, i < x.length → i < 250 ∧ (nthR x i).length ≤ 40) ∧ z.length ≤ 1100
instance (x : List (List Int)) (z : List Int) : Decidable (few x z) := inferInstanceAs (Decidable ((∀ i, i < x.length → i < 250 ∧ (nthR x i).length ≤ 40) ∧ z.length ≤ 1100))
theorem few.len {x : List (List Int)} {z : List Int} (h : few x z) : x.length ≤ 250 := by
  by_cases h1 : x.length = 0
  · omega
  · have := (h.1 (x.length - 1) (by omega)).1
    omega
theorem few_ok {ro : List ABlk} {h : Heap} {a b : AVal} {x : List (List Int)} {z : List Int} (ha : IsMat ro h a x) (hb : IsRow ro h b z) (hx : x.length ≤ 9223372036854775807) : callX F1 ro 15 [a, b] h = some (.b (decide (few x z)), h, h.length, h.length) := by
  refine g15_ok (meansX_ok F1 ro) rfl ?_
  unfold g15
  simp only [meansX_loop]
  have hloop := loop_if (b := fun s => g15_b0 (meansX F1 ro) ro a b ⟨h, h.length, h.length⟩ s) (fun i => (i : Int)) x.length (fun i => i < 250 ∧ (nthR x i).length ≤ 40) (.inl ()) (.inr false) ?_ ?_ ?_
  · have e0 : ((0 : Nat) : Int) = 0 := rfl
    rw [e0] at hloop
    rw [hloop]
    by_cases hf : ∀ i, i < x.length → i < 250 ∧ (nthR x i).length ≤ 40
    · rw [if_pos hf]
      simp only [bindO_some, len_row hb, asI_i, forceB_eq, ltI_eq, tupA]
      have e : decide (few x z) = !decide ((1100 : Int) < (z.length : Int)) := by
        rw [← decide_not]; exact decide_eq_decide.2 ⟨fun hh => by have := hh.2; omega, fun hh => ⟨hf, by omega⟩⟩
      rw [e]
      exact fin_pure rfl
    · rw [if_neg hf]
      have e : decide (few x z) = false := by simp only [decide_eq_false_iff_not]; exact fun hh => hf hh.1
      simp only [bindO_some, e, tupA]
      exact fin_pure rfl
  · simp only [g15_b0, len_mat ha, bindO_some, asI_i, forceB_eq, ltI_eq]
    simp
  · intro i hi hp
    obtain ⟨p, u, h1, h2, h3, h4⟩ := at_mat (m := ⟨h, h.length, h.length⟩) rfl ha hi
    have e := lt_yes hi
    have e2 : (!decide ((i : Int) < 250)) = false := by have := hp.1; simp; omega
    have h5 : (x.getD i []).length ≤ 40 := hp.2
    have e3 : decide ((40 : Int) < ((x.getD i []).length : Int)) = false := dF (by omega)
    simp only [g15_b0, len_mat ha, bindO_some, asI_i, forceB_eq, ltI_eq, e, cond_true, e2, cond_false, h1, h2, len_row h4, e3, forceI_eq]
    rw [wr_id' (by omega) (by omega)]
    rfl
  · intro i hi hp
    obtain ⟨p, u, h1, h2, h3, h4⟩ := at_mat (m := ⟨h, h.length, h.length⟩) rfl ha hi
    have e := lt_yes hi
    by_cases h250 : i < 250
    · have e2 : (!decide ((i : Int) < 250)) = false := by simp; omega
      have e3 : decide ((40 : Int) < ((x.getD i []).length : Int)) = true := by
        have : ¬ (x.getD i []).length ≤ 40 := fun hh => hp ⟨h250, hh⟩
        exact dT (by omega)
      simp only [g15_b0, len_mat ha, bindO_some, asI_i, forceB_eq, ltI_eq, e, cond_true, e2, cond_false, h1, h2, len_row h4, e3]
    · have e2 : (!decide ((i : Int) < 250)) = true := by simp; omega
      simp only [g15_b0, len_mat ha, bindO_some, asI_i, forceB_eq, ltI_eq, e, cond_true, e2]

theorem same_ok {ro : List ABlk} {h : Heap} {a b : AVal} {x y : List Int} (ha : IsRow ro h a x) (hb : IsRow ro h b y) (hx : x.length ≤ 1000000) :
    callX F1 ro 20 [a, b] h = some (.b (decide (x = y)), h, h.length, h.length) := by
  refine g20_ok (meansX_ok F1 ro) rfl ?_
  unfold g20
  simp only [len_row ha, len_row hb, bindO_some, asI_i, forceB_eq, eqI_eq, meansX_loop]
  by_cases hl : x.length = y.length
  · have e : ((x.length : Int) == (y.length : Int)) = true := by simp [hl]
    simp only [e, Bool.not_true, cond_false]
    have hloop := loop_if (b := fun s => g20_b0 (meansX F1 ro) ro a b ⟨h, h.length, h.length⟩ s) (fun i => (i : Int)) x.length (fun i => x.getD i 0 = y.getD i 0) (.inl ()) (.inr false) ?_ ?_ ?_
    · have e0 : ((0 : Nat) : Int) = 0 := rfl
      rw [e0] at hloop
      rw [hloop]
      by_cases hxy : x = y
      · rw [if_pos (fun i _ => by rw [hxy])]
        simp only [bindO_some, hxy, decide_true, tupA]
        exact fin_pure rfl
      · rw [if_neg (fun hall => hxy (List.ext_getElem hl fun i h1 h2 => by have := hall i h1; simpa [List.getD, h1, h2] using this))]
        simp only [bindO_some, hxy, decide_false, tupA]
        exact fin_pure rfl
    · simp only [g20_b0, len_row ha, bindO_some, asI_i, forceB_eq, ltI_eq]
      simp
    · intro i hi hp
      obtain ⟨p, h1, h2, h3⟩ := at_row (m := ⟨h, h.length, h.length⟩) rfl ha hi
      obtain ⟨p', h1', h2', h3'⟩ := at_row (m := ⟨h, h.length, h.length⟩) rfl hb (by omega : i < y.length)
      have e := lt_yes hi
      have e2 : (!(x.getD i 0 == y.getD i 0)) = false := by rw [hp]; simp
      simp only [g20_b0, len_row ha, bindO_some, asI_i, forceB_eq, ltI_eq, e, cond_true, h1, h3, h1', h3', eqI_eq, e2, cond_false, forceI_eq]
      rw [wr_id' (by omega) (by omega)]
      rfl
    · intro i hi hp
      obtain ⟨p, h1, h2, h3⟩ := at_row (m := ⟨h, h.length, h.length⟩) rfl ha hi
      obtain ⟨p', h1', h2', h3'⟩ := at_row (m := ⟨h, h.length, h.length⟩) rfl hb (by omega : i < y.length)
      have e := lt_yes hi
      have e2 : (!(x.getD i 0 == y.getD i 0)) = true := by simpa using hp
      simp only [g20_b0, len_row ha, bindO_some, asI_i, forceB_eq, ltI_eq, e, cond_true, h1, h3, h1', h3', eqI_eq, e2]
  · have e : ((x.length : Int) == (y.length : Int)) = false := by simp; omega
    have hxy : ¬ (x = y) := fun e => hl (by rw [e])
    simp only [e, Bool.not_false, cond_true, hxy, decide_false, tupA]
    exact fin_pure rfl
end Go.Proofs.Ytageakoepjkkbaa.T

/- Lists that a function makes by append. -/
open Go.Vm
set_option linter.unusedVariables false
namespace Go.Proofs.Ytageakoepjkkbaa.T
open Go

/-- a list made by append, in a block from L on -/
def GV (hp : Heap) (L e es : Nat) (v : AVal) (k : Nat) (cs : List AVal) : Prop :=
  (v = .nsl ∧ k = 0 ∧ cs = []) ∨ ∃ b blk, v = .sl ⟨false, b, 0⟩ k .grow ∧ 0 < k ∧ L ≤ b ∧ lget hp b = some (some blk) ∧ blk.e = e ∧ cs.length = k * es ∧ k * es ≤ blk.n ∧ ∀ j, j < k * es → blk.c.get j = cs.getD j und
theorem GV.nil (hp : Heap) (L e es : Nat) : GV hp L e es .nsl 0 [] := .inl ⟨rfl, rfl, rfl⟩
/-- blocks below L, and those above that are kept, hold the list as before -/
theorem GV.by {hp hp' : Heap} {L e es k : Nat} {v : AVal} {cs : List AVal} (g : GV hp L e es v k cs) (kp : Keep hp hp') : GV hp' L e es v k cs := by
  rcases g with h | ⟨b, blk, h1, h2, h3, h4, h5⟩
  · exact .inl h
  · exact .inr ⟨b, blk, h1, h2, h3, by rw [lget_of (kp.2 b (lget_lt h4))]; exact h4, h5⟩
theorem row_row {t : Tr} : ∀ (n i : Nat) (cs : List AVal), cs.length = n → (∀ j, j < n → t.get (i + j) = cs.getD j und) → t.row i n = cs := by
  intro n i cs hl h
  subst hl
  exact row_list cs i h
theorem GV.push {ro : List ABlk} {hp : Heap} {L0 L e es bytes k : Nat} {z : List AVal} {v w : AVal} {cs ws : List AVal} (g : GV hp L e es v k cs) (hL0 : L0 ≤ L) (hL : L ≤ hp.length) (hk : k ≤ 100000) (hb : bytes ≤ 1000) (hes : 0 < es) (hz : z.length = es) (hw : w.cells = ws) (hwl : ws.length = es) (ho : ones ws = true) (hsp : splice z 0 ws = ws) :
    ∃ v2 hp2 v3 hp3, stepM ro ⟨hp, L0, L0⟩ (.bsl e es z 1 [((0, es), .c w)]) = some (v2, ⟨hp2, L0, L0⟩) ∧ stepM ro ⟨hp2, L0, L0⟩ (.app e es bytes z (.c v) (.c v2)) = some (v3, ⟨hp3, L0, L0⟩) ∧
      GV hp3 L e es v3 (k + 1) (cs ++ ws) ∧ hp.length ≤ hp3.length ∧ ∀ i, i < L → hp3[i]? = hp[i]? := by
  have s1 : stepM ro ⟨hp, L0, L0⟩ (.bsl e es z 1 [((0, es), .c w)]) = some (.sl ⟨false, hp.length, 0⟩ 1 (.known 1), ⟨hp ++ [some (blkOf e ws)], L0, L0⟩) := by
    simp [stepM, stepK, st_bsl, rep, fillA, opd, hw, hwl, hz, hsp, newB, St.mm]
  have src : app_src ro (hp ++ [some (blkOf e ws)]) es (.sl ⟨false, hp.length, 0⟩ 1 (.known 1)) = some (ws, 1) := by
    have hbq : rdB ro (hp ++ [some (blkOf e ws)]) ⟨false, hp.length, 0⟩ = some (blkOf e ws) := by simp [rdB, lget_eq]
    have hg : (blkOf e ws).c.row 0 es = ws := row_row es 0 ws hwl fun j hj => by rw [Nat.zero_add, get_blk]
    have hble : Nat.ble (0 + 1 * es) (blkOf e ws).n = true := by rw [Nat.ble_eq]; show 0 + 1 * es ≤ ws.length; omega
    simp only [app_src, hbq, hble, cond_true]
    rw [show 1 * es = es by omega, hg]
  rcases g with ⟨rfl, rfl, rfl⟩ | ⟨b, blk, rfl, hpos, hLb, hbk, hbe, hcl, hbn, hrows⟩
  · refine ⟨_, _, .sl ⟨false, hp.length + 1, 0⟩ 1 .grow, hp ++ [some (blkOf e ws)] ++ [some (blkOf e ws)], s1, ?_, .inr ⟨hp.length + 1, blkOf e ws, rfl, by omega, by omega, ?_, rfl, by simp; omega, by show 1 * es ≤ ws.length; omega, fun j hj => ?_⟩, by simp, fun i hi => ?_⟩
    · have hb1 : Nat.beq 1 0 = false := rfl
      simp only [stepM, stepK, opd, st_app, src, hb1, cond_false, fits_small (by omega : 1 ≤ 1000000) hb, cond_true, newB, St.mm, List.length_append, List.length_cons, List.length_nil, Nat.zero_add]
    · have := lget_last (hp ++ [some (blkOf e ws)]) (some (blkOf e ws))
      rwa [List.length_append, List.length_singleton] at this
    · rw [get_blk]; simp
    · rw [List.append_assoc, List.getElem?_append_left (by omega)]
  · obtain ⟨hp2, e2⟩ : ∃ hp2, hp2 = hp ++ [some (blkOf e ws)] := ⟨_, rfl⟩
    rw [← e2] at src s1
    have hlt : b < hp.length := lget_lt hbk
    have hb2 : lget hp2 b = some (some blk) := by rw [e2]; exact lget_ext hbk _
    have hlen2 : hp2.length = hp.length + 1 := by rw [e2]; simp
    have hrow : blk.c.row 0 (k * es) = cs := row_row (k * es) 0 cs hcl fun j hj => by rw [Nat.zero_add]; exact hrows j hj
    have hke : 0 < k * es := Nat.mul_pos hpos hes
    refine ⟨_, _, .sl ⟨false, hp2.length, 0⟩ (k + 1) .grow, lset none hp2 b ++ [some (blkOf e (cs ++ ws))], s1, ?_, .inr ⟨hp2.length, blkOf e (cs ++ ws), rfl, by omega, by omega, ?_, rfl, ?_, ?_, fun j hj => ?_⟩, ?_, fun i hi => ?_⟩
    · have h1 : (Nat.beq blk.e e && Nat.ble (k * es) blk.n && fits (k + 1) bytes && ones ws) = true := by
        rw [hbe, fits_small (by omega : k + 1 ≤ 1000000) hb]
        simp [ho, Nat.ble_eq]; omega
      have h2 : (false || !Nat.beq 0 0 || Nat.beq 1 0) = false := rfl
      have h3 : Nat.blt 0 blk.n = true := by rw [Nat.blt_eq]; omega
      simp only [stepM, stepK, opd, st_app, src, app_grow, h2, cond_false, hb2, h1, h3, Bool.and_self, cond_true, St.mm, hrow, Nat.min_eq_left (Nat.le_trans hL0 hLb)]
    · rw [lget_eq, lset_eq, List.getElem?_append_right (by simp)]
      simp
    · rw [List.length_append, hcl, hwl, Nat.add_mul]; omega
    · show (k + 1) * es ≤ (cs ++ ws).length
      rw [List.length_append, hcl, hwl, Nat.add_mul]; omega
    · rw [get_blk]
    · simp [lset_eq]; omega
    · rw [lset_eq, List.getElem?_append_left (by simp; omega), List.getElem?_set_ne (by omega), e2, List.getElem?_append_left (by omega)]
theorem GV.row {ro : List ABlk} {hp : Heap} {L e : Nat} {v : AVal} {k : Nat} {z : List Int} (g : GV hp L e 1 v k (z.map (AVal.i .i64))) (hk : z.length = k) : IsRow ro hp v z := by
  subst hk
  rcases g with ⟨rfl, h2, -⟩ | ⟨b, blk, rfl, hpos, hLb, hbk, hbe, hcl, hbn, hrows⟩
  · exact .inl ⟨rfl, List.length_eq_zero_iff.1 h2⟩
  · refine .inr ⟨_, _, blk, rfl, rdB_heap hbk 0, by simpa using hbn, fun j hj => ?_⟩
    rw [Nat.zero_add, hrows j (by omega), map_getD hj]
end Go.Proofs.Ytageakoepjkkbaa.T

/- What a record is: the program's checks and the reference's. -/
open Go.Vm
set_option linter.unusedVariables false
namespace Go.Proofs.Ytageakoepjkkbaa.T
open Go

def bitP (x : Int) : Prop := x = 0 ∨ x = 1
instance (x : Int) : Decidable (bitP x) := inferInstanceAs (Decidable (_ ∨ _))
def bitsP (z : List Int) : Prop := ∀ j, j < z.length → bitP (z.getD j 0)
instance (z : List Int) : Decidable (bitsP z) := inferInstanceAs (Decidable (∀ j, j < z.length → bitP (z.getD j 0)))
/-- a row of so many numbers 0 or 1 -/
def rowP (z : List Int) (n : Int) : Prop := bitsP z ∧ (z.length : Int) = n
instance (z : List Int) (n : Int) : Decidable (rowP z n) := inferInstanceAs (Decidable (_ ∧ _))
def matP (x : List (List Int)) (k n : Int) : Prop := (∀ i, i < x.length → rowP (nthR x i) n) ∧ (x.length : Int) = k
instance (x : List (List Int)) (k n : Int) : Decidable (matP x k n) := inferInstanceAs (Decidable (_ ∧ _))

section
variable {ro : List ABlk} {h : Heap} {a b : AVal} {x : List (List Int)} {z : List Int}

theorem bit_ok {n : Int} : callX F1 ro 65 [.i .i64 n] h = some (.b (decide (bitP n)), h, h.length, h.length) := by
  refine g65_ok (meansX_ok F1 ro) rfl ?_
  unfold g65
  simp only [forceB_eq, eqI_eq]
  have e : decide (bitP n) = ((n == 0) || (n == 1)) := by
    by_cases h0 : n = 0
    · subst h0; rfl
    · by_cases h1 : n = 1
      · subst h1; rfl
      · rw [dF (show ¬ bitP n from fun hh => by rcases hh with hh | hh <;> contradiction)]; simp [h0, h1]
  rw [e]
  cases h0 : (n == 0)
  · simp only [cond_false, bindO_some, Bool.false_or, tupA]; exact fin_pure rfl
  · simp only [cond_true, bindO_some, Bool.true_or, tupA]; exact fin_pure rfl

theorem areBits_ok {n : Int} (hb : IsRow ro h b z) (hz : z.length ≤ 9223372036854775807) : callX F1 ro 61 [b, .i .i64 n] h = some (.b (decide (rowP z n)), h, h.length, h.length) := by
  refine g61_ok (meansX_ok F1 ro) rfl ?_
  unfold g61
  simp only [len_row hb, bindO_some, asI_i, meansX_loop]
  have hloop := loop_if (b := fun s => g61_b0 (meansX F1 ro) ro b n z.length ⟨h, h.length, h.length⟩ s) (fun i => (i : Int)) z.length (fun i => bitP (z.getD i 0)) (.inl ()) (.inr false) ?_ ?_ ?_
  · have e0 : ((0 : Nat) : Int) = 0 := rfl
    rw [e0] at hloop
    rw [hloop]
    by_cases hf : bitsP z
    · rw [if_pos (show ∀ i, i < z.length → bitP (z.getD i 0) from hf)]
      simp only [bindO_some, forceB_eq, eqI_eq, tupA]
      have e : decide (rowP z n) = ((z.length : Int) == n) := by
        by_cases hn : (z.length : Int) = n
        · rw [dT (show rowP z n from ⟨hf, hn⟩)]; simp [hn]
        · rw [dF (show ¬ rowP z n from fun hh => hn hh.2)]; simp [hn]
      rw [e]
      exact fin_pure rfl
    · rw [if_neg (show ¬ ∀ i, i < z.length → bitP (z.getD i 0) from hf)]
      simp only [bindO_some, dF (show ¬ rowP z n from fun hh => hf hh.1), tupA]
      exact fin_pure rfl
  · simp only [g61_b0, forceB_eq, ltI_eq, lt_no, cond_false]
  · intro i hi hp
    obtain ⟨p, h1, h2, h3⟩ := at_row (m := ⟨h, h.length, h.length⟩) rfl hb hi
    simp only [g61_b0, forceB_eq, ltI_eq, lt_yes hi, cond_true, h1, h2, bindO_some, asI_i, eqI_eq]
    rcases hp with hp | hp
    · simp only [hp, beq_self_eq_true, Bool.not_true, cond_false, bindO_some, forceI_eq]
      rw [wr_id' (by omega) (by omega)]; rfl
    · have e0 : ((1 : Int) == 0) = false := rfl
      simp only [hp, e0, Bool.not_false, cond_true, beq_self_eq_true, Bool.not_true, cond_false, bindO_some, forceI_eq]
      rw [wr_id' (by omega) (by omega)]; rfl
  · intro i hi hp
    obtain ⟨p, h1, h2, h3⟩ := at_row (m := ⟨h, h.length, h.length⟩) rfl hb hi
    have e0 : (z.getD i 0 == 0) = false := by rw [beq_eq_false_iff_ne]; exact fun hh => hp (.inl hh)
    have e1 : (z.getD i 0 == 1) = false := by rw [beq_eq_false_iff_ne]; exact fun hh => hp (.inr hh)
    simp only [g61_b0, forceB_eq, ltI_eq, lt_yes hi, cond_true, h1, h2, bindO_some, asI_i, eqI_eq, e0, e1, Bool.not_false]

/-- how long the rows and the list are: no more than an int can count -/
def LenOk (x : List (List Int)) : Prop := x.length ≤ 9223372036854775807 ∧ ∀ i, i < x.length → (nthR x i).length ≤ 9223372036854775807
theorem areSaid_ok {k n : Int} (ha : IsMat ro h a x) (hl : LenOk x) : callX F1 ro 68 [a, .i .i64 k, .i .i64 n] h = some (.b (decide (matP x k n)), h, h.length, h.length) := by
  refine g68_ok (meansX_ok F1 ro) rfl ?_
  unfold g68
  simp only [len_mat ha, bindO_some, asI_i, meansX_loop]
  have hloop := loop_if (b := fun s : Int × Mm => g68_b0 (meansX F1 ro) ro a k n x.length s.1 s.2) (fun i => ((i : Int), (⟨h, h.length, h.length⟩ : Mm))) x.length (fun i => rowP (nthR x i) n) (.inl ⟨h, h.length, h.length⟩) (.inr (false, ⟨h, h.length, h.length⟩)) ?_ ?_ ?_
  · have e0 : ((0 : Nat) : Int) = 0 := rfl
    rw [e0] at hloop
    rw [hloop]
    by_cases hf : ∀ i, i < x.length → rowP (nthR x i) n
    · rw [if_pos hf]
      simp only [bindO_some, forceB_eq, eqI_eq, tupA]
      have e : decide (matP x k n) = ((x.length : Int) == k) := by
        by_cases hn : (x.length : Int) = k
        · rw [dT (show matP x k n from ⟨hf, hn⟩)]; simp [hn]
        · rw [dF (show ¬ matP x k n from fun hh => hn hh.2)]; simp [hn]
      rw [e]
      exact fin_pure rfl
    · rw [if_neg hf]
      simp only [bindO_some, dF (show ¬ matP x k n from fun hh => hf hh.1), tupA]
      exact fin_pure rfl
  · simp only [g68_b0, forceB_eq, ltI_eq, lt_no, cond_false]
  · intro i hi hp
    obtain ⟨p, u, h1, h2, h3, h4⟩ := at_mat (m := ⟨h, h.length, h.length⟩) rfl ha hi
    have := hl.1
    simp only [g68_b0, forceB_eq, ltI_eq, lt_yes hi, cond_true, h1, h2, bindO_some, meansX_call, cp0 (areBits_ok (n := n) h4 (hl.2 i hi)), bindP_some, asB_b, dT hp, Bool.not_true, cond_false, forceI_eq]
    rw [wr_id' (by omega) (by omega)]; rfl
  · intro i hi hp
    obtain ⟨p, u, h1, h2, h3, h4⟩ := at_mat (m := ⟨h, h.length, h.length⟩) rfl ha hi
    simp only [g68_b0, forceB_eq, ltI_eq, lt_yes hi, cond_true, h1, h2, bindO_some, meansX_call, cp0 (areBits_ok (n := n) h4 (hl.2 i hi)), bindP_some, asB_b, dF hp, Bool.not_false]

/-- the errors of a record -/
def recE (n : Int) (x : List (List Int)) (z : List Int) : Int :=
  if n < 1 ∨ 20 < n then 2 else if 200 < x.length then 3 else if matP x x.length n ∧ rowP z x.length then 0 else 2

theorem checkRecord_ok {n : Int} (ha : IsMat ro h a x) (hl : LenOk x) (hb : IsRow ro h b z) (hz : z.length ≤ 9223372036854775807) : callX F1 ro 49 [.i .i64 n, a, b] h = some (.i .i64 (recE n x z), h, h.length, h.length) := by
  refine g49_ok (meansX_ok F1 ro) rfl ?_
  unfold g49
  simp only [forceB_eq, ltI_eq, len_mat ha, bindO_some, asI_i, meansX_call]
  by_cases h1 : n < 1
  · simp only [dT h1, cond_true, bindO_some, recE, if_pos (show n < 1 ∨ 20 < n from .inl h1), tupA]; exact fin_pure rfl
  · by_cases h2 : 20 < n
    · simp only [dF h1, cond_false, dT h2, bindO_some, cond_true, recE, if_pos (show n < 1 ∨ 20 < n from .inr h2), tupA]; exact fin_pure rfl
    · have hn : ¬ (n < 1 ∨ 20 < n) := by omega
      simp only [dF h1, cond_false, dF h2, bindO_some, recE, if_neg hn]
      by_cases h3 : 200 < x.length
      · simp only [dT (show (200 : Int) < (x.length : Int) by omega), cond_true, if_pos h3, tupA]; exact fin_pure rfl
      · simp only [dF (show ¬ (200 : Int) < (x.length : Int) by omega), cond_false, if_neg h3, cp0 (areSaid_ok (k := x.length) (n := n) ha hl), bindP_some, asB_b]
        by_cases h4 : matP x x.length n
        · simp only [dT h4, Bool.not_true, cond_false, cp0 (areBits_ok (n := x.length) hb hz), bindP_some, asB_b]
          by_cases h5 : rowP z x.length
          · simp only [dT h5, Bool.not_true, bindO_some, cond_false, if_pos (show matP x x.length n ∧ rowP z x.length from ⟨h4, h5⟩), tupA]; exact fin_pure rfl
          · simp only [dF h5, Bool.not_false, bindO_some, cond_true, if_neg (show ¬ (matP x x.length n ∧ rowP z x.length) from fun hh => h5 hh.2), tupA]; exact fin_pure rfl
        · simp only [dF h4, Bool.not_false, cond_true, bindO_some, if_neg (show ¬ (matP x x.length n ∧ rowP z x.length) from fun hh => h4 hh.1), tupA]; exact fin_pure rfl

/-- the bits of one row, as the reference looks at them -/
theorem rowLoop {R : Type} {n : Nat} (r : R) {b0 : Int × Mm → Option ((Int × Mm) ⊕ (Mm ⊕ R))} {m : Mm} {zz : List Int} (hn : n = zz.length)
    (hin : ∀ i, i < n → b0 ((i : Int), m) = some (cond (decide (bitP (zz.getD i 0))) (.inl (((i + 1 : Nat) : Int), m)) (.inr (.inr r)))) (hout : b0 ((n : Int), m) = some (.inr (.inl m))) :
    loopX b0 (0, m) = some (if bitsP zz then .inl m else .inr r) := by
  subst hn
  have hloop := loop_if (b := b0) (fun i => ((i : Int), m)) zz.length (fun i => bitP (zz.getD i 0)) (.inl m) (.inr r) hout (fun i hi hp => by rw [hin i hi, dT hp]; rfl) (fun i hi hp => by rw [hin i hi, dF hp]; rfl)
  have e0 : ((0 : Nat) : Int) = 0 := rfl
  rw [e0] at hloop
  exact hloop

theorem Record_ok {n : Int} (ha : IsMat ro h a x) (hl : LenOk x) (hb : IsRow ro h b z) (hz : z.length ≤ 9223372036854775807) : callX F1 ro 38 [.i .i64 n, a, b] h = some (.i .i64 (recE n x z), h, h.length, h.length) := by
  refine g38_ok (meansX_ok F1 ro) rfl ?_
  unfold g38
  simp only [forceB_eq, ltI_eq, len_mat ha, bindO_some, asI_i, meansX_loop]
  by_cases h1 : n < 1
  · simp only [dT h1, cond_true, bindO_some, recE, if_pos (show n < 1 ∨ 20 < n from .inl h1), tupA]; exact fin_pure rfl
  by_cases h2 : 20 < n
  · simp only [dF h1, cond_false, dT h2, bindO_some, cond_true, recE, if_pos (show n < 1 ∨ 20 < n from .inr h2), tupA]; exact fin_pure rfl
  have hn : ¬ (n < 1 ∨ 20 < n) := by omega
  simp only [dF h1, cond_false, dF h2, bindO_some, recE, if_neg hn]
  by_cases h3 : 200 < x.length
  · simp only [dT (show (200 : Int) < (x.length : Int) by omega), cond_true, if_pos h3, tupA]; exact fin_pure rfl
  simp only [dF (show ¬ (200 : Int) < (x.length : Int) by omega), cond_false, if_neg h3]
  have hloop := loop_if (b := fun s : Int × Mm => g38_b1 (meansX F1 ro) ro n a b s.1 s.2) (fun i => ((i : Int), (⟨h, h.length, h.length⟩ : Mm))) x.length (fun i => rowP (nthR x i) n) (.inl ⟨h, h.length, h.length⟩) (.inr (2, ⟨h, h.length, h.length⟩)) ?_ ?_ ?_
  · have e0 : ((0 : Nat) : Int) = 0 := rfl
    rw [e0] at hloop
    rw [hloop]
    by_cases hf : ∀ i, i < x.length → rowP (nthR x i) n
    · have hm : matP x x.length n := ⟨hf, rfl⟩
      rw [if_pos hf]
      simp only [bindO_some, len_row hb, asI_i, eqI_eq]
      by_cases h4 : (z.length : Int) = x.length
      · have e4 : (!((z.length : Int) == (x.length : Int))) = false := by rw [h4]; simp
        have hl3 := rowLoop (r := ((2 : Int), (⟨h, h.length, h.length⟩ : Mm))) (b0 := fun s : Int × Mm => g38_b3 (meansX F1 ro) ro b s.1 s.2) (m := ⟨h, h.length, h.length⟩) (zz := z) rfl ?_ ?_
        · simp only [e4, cond_false, hl3]
          by_cases h5 : bitsP z
          · simp only [if_pos h5, bindO_some, if_pos (show matP x x.length n ∧ rowP z x.length from ⟨hm, h5, h4⟩), tupA]; exact fin_pure rfl
          · simp only [if_neg h5, bindO_some, if_neg (show ¬ (matP x x.length n ∧ rowP z x.length) from fun hh => h5 hh.2.1), tupA]; exact fin_pure rfl
        · intro i hi
          obtain ⟨p, h1', h2', h3'⟩ := at_row (m := ⟨h, h.length, h.length⟩) rfl hb hi
          simp only [g38_b3, len_row hb, bindO_some, asI_i, forceB_eq, ltI_eq, lt_yes hi, cond_true, h1', h2', meansX_call, cp0 bit_ok, bindP_some, asB_b]
          cases decide (bitP (z.getD i 0))
          · rfl
          · simp only [Bool.not_true, cond_false, cond_true, forceI_eq]
            rw [wr_id' (by omega) (by omega)]; rfl
        · simp only [g38_b3, len_row hb, bindO_some, asI_i, forceB_eq, ltI_eq, lt_no, cond_false]
      · have e4 : (!((z.length : Int) == (x.length : Int))) = true := by simpa using h4
        simp only [e4, cond_true, if_neg (show ¬ (matP x x.length n ∧ rowP z x.length) from fun hh => h4 hh.2.2), tupA]; exact fin_pure rfl
    · rw [if_neg hf]
      simp only [bindO_some, if_neg (show ¬ (matP x x.length n ∧ rowP z x.length) from fun hh => hf hh.1.1), tupA]; exact fin_pure rfl
  · simp only [g38_b1, len_mat ha, bindO_some, asI_i, forceB_eq, ltI_eq, lt_no, cond_false]
  all_goals
    intro i hi hp
    obtain ⟨p, u, h1', h2', h3', h4'⟩ := at_mat (m := ⟨h, h.length, h.length⟩) rfl ha hi
    simp only [g38_b1, len_mat ha, bindO_some, asI_i, forceB_eq, ltI_eq, lt_yes hi, cond_true, h1', h2', len_row h4', eqI_eq, meansX_loop]
    by_cases h4 : ((nthR x i).length : Int) = n
    · have e4 : (!(((x.getD i []).length : Int) == n)) = false := by rw [show ((x.getD i []).length : Int) = n from h4]; simp
      have hl3 := rowLoop (r := ((2 : Int), (⟨h, h.length, h.length⟩ : Mm))) (b0 := fun s : Int × Mm => g38_b2 (meansX F1 ro) ro n a b (i : Int) s.1 s.2) (m := ⟨h, h.length, h.length⟩) (zz := nthR x i) rfl (fun j hj => by
          obtain ⟨p', h1'', h2'', h3''⟩ := at_row (m := ⟨h, h.length, h.length⟩) rfl h4' hj
          have hjn : decide ((j : Int) < n) = true := dT (by rw [← h4]; omega)
          have hll := hl.2 i hi
          simp only [g38_b2, forceB_eq, ltI_eq, hjn, cond_true, h1', h2', bindO_some, h1'', h2'', asI_i, meansX_call, cp0 bit_ok, bindP_some, asB_b]
          cases decide (bitP ((nthR x i).getD j 0))
          · rfl
          · simp only [Bool.not_true, cond_false, cond_true, forceI_eq]
            rw [wr_id' (by omega) (by omega)]; rfl) (by
          have hjn : decide (((nthR x i).length : Int) < n) = false := dF (by omega)
          simp only [g38_b2, forceB_eq, ltI_eq, hjn, cond_false])
      simp only [e4, cond_false, hl3]
      by_cases h5 : bitsP (nthR x i)
      · simp only [if_pos h5, bindO_some, forceI_eq]
        first
        | (rw [wr_id' (by omega) (by omega)]; rfl)
        | exact absurd ⟨h5, h4⟩ hp
      · first
        | exact absurd hp.1 h5
        | simp only [if_neg h5, bindO_some]
    · have e4 : (!(((x.getD i []).length : Int) == n)) = true := by
        have h4 : ¬ ((x.getD i []).length : Int) = n := h4
        simpa using h4
      first
      | exact absurd hp.2 h4
      | simp only [e4, cond_true]
end
end Go.Proofs.Ytageakoepjkkbaa.T

/- Ratios in lowest terms; what foretellers say; how many bits a number has. -/
open Go.Vm
set_option linter.unusedVariables false
namespace Go.Proofs.Ytageakoepjkkbaa.T
open Go

def saidP (k n : Int) (x : List (List Int)) : Prop := 1 ≤ k ∧ k ≤ 10 ∧ 1 ≤ n ∧ n ≤ 20 ∧ matP x k n
instance (k n : Int) (x : List (List Int)) : Decidable (saidP k n x) := inferInstanceAs (Decidable (_ ∧ _))

section
variable {ro : List ABlk} {h hp : Heap} {a b : AVal} {x : List (List Int)} {z : List Int}

/- bits -/
end
end Go.Proofs.Ytageakoepjkkbaa.T

/- How often foretellers are wrong: by bits, and one by one. -/
open Go.Vm
set_option linter.unusedVariables false
namespace Go.Proofs.Ytageakoepjkkbaa.T
open Go

def bt (x : List (List Int)) (j f : Nat) : Nat := ((nthR x j).getD f 0).toNat
def wrongN (x : List (List Int)) (f s k : Nat) : Nat → Nat
  | 0 => 0
  | j + 1 => wrongN x f s k j + (if bt x j f ≠ s / 2 ^ (k - 1 - j) % 2 then 1 else 0)
def minN (w : Nat → Nat) (d : Nat) : Nat → Nat
  | 0 => d
  | f + 1 => min (minN w d f) (w f)
def best (x : List (List Int)) (k n s : Nat) : Nat := minN (fun f => wrongN x f s k k) k n

section
variable {ro : List ABlk} {h hp : Heap} {a b v : AVal} {x : List (List Int)} {z : List Int}

end
end Go.Proofs.Ytageakoepjkkbaa.T

/- Regret: the program's and the reference's. -/
open Go.Vm
set_option linter.unusedVariables false
namespace Go.Proofs.Ytageakoepjkkbaa.T
open Go

section
variable {ro : List ABlk} {h hp : Heap} {a b v : AVal} {x : List (List Int)} {z : List Int}

theorem holds_row {hp : Heap} {q n : Nat} {vs : List AVal} {z : List Int} (a : Holds hp q vs) (hz : vs = z.map (AVal.i .i64)) (hn : z.length = n) {cap : Cap} : IsRow ro hp (.sl ⟨false, q, 0⟩ n cap) z := by
  subst hz; subst hn
  obtain ⟨blk, h1, h2, h3⟩ := a
  refine .inr ⟨_, cap, blk, rfl, rdB_heap h1 0, by simpa using (Nat.le_of_eq h2.symm), fun j hj => ?_⟩
  rw [show (0 + j) = j by omega, h3 j (by simpa using hj), map_getD hj]

theorem Fits.lens {x : List (List Int)} (hf : Fits x) : LenOk x := ⟨hf.1, fun i hi => by
  have : nthR x i ∈ x := by
    have : nthR x i = x[i] := by simp [nthR, List.getD, hi]
    rw [this]; exact List.getElem_mem hi
  exact (hf.2 _ this).1⟩
end
end Go.Proofs.Ytageakoepjkkbaa.T

/- What points are: the program's checks and the reference's. -/
open Go.Vm
set_option linter.unusedVariables false
namespace Go.Proofs.Ytageakoepjkkbaa.T
open Go

def coordP (z : List Int) : Prop := ∀ j, j < z.length → -100 ≤ z.getD j 0 ∧ z.getD j 0 ≤ 100
instance (z : List Int) : Decidable (coordP z) := inferInstanceAs (Decidable (∀ j, j < z.length → -100 ≤ z.getD j 0 ∧ z.getD j 0 ≤ 100))
def pointP (z : List Int) : Prop := 1 ≤ z.length ∧ z.length ≤ 6 ∧ coordP z
instance (z : List Int) : Decidable (pointP z) := inferInstanceAs (Decidable (_ ∧ _))
def signP (n : Int) : Prop := n = 1 ∨ n = -1
instance (n : Int) : Decidable (signP n) := inferInstanceAs (Decidable (_ ∨ _))
def ptP (x : List (List Int)) (z : List Int) (i : Nat) : Prop := (nthR x i).length = (nthR x 0).length ∧ pointP (nthR x i) ∧ signP (z.getD i 0)
instance (x : List (List Int)) (z : List Int) (i : Nat) : Decidable (ptP x z i) := inferInstanceAs (Decidable (_ ∧ _))
def ptsP (x : List (List Int)) (z : List Int) : Prop := 0 < x.length ∧ z.length = x.length ∧ ∀ i, i < x.length → ptP x z i
instance (x : List (List Int)) (z : List Int) : Decidable (ptsP x z) := inferInstanceAs (Decidable (_ ∧ _ ∧ ∀ i, i < x.length → ptP x z i))
section
variable {ro : List ABlk} {h : Heap} {a b : AVal} {x : List (List Int)} {z : List Int}

end
end Go.Proofs.Ytageakoepjkkbaa.T

/- Perceptron: the program's and the reference's. -/
open Go.Vm
set_option linter.unusedVariables false
namespace Go.Proofs.Ytageakoepjkkbaa.T
open Go

def ints (w : List Int) : List AVal := w.map (AVal.i .i64)
theorem ints_len (w : List Int) : (ints w).length = w.length := by simp [ints]
theorem ints_get {w : List Int} {j : Nat} (hj : j < w.length) : (ints w).getD j und = .i .i64 (w.getD j 0) := map_getD hj
theorem ints_set (w : List Int) (j : Nat) (n : Int) : (ints w).set j (.i .i64 n) = ints (w.set j n) := by simp [ints, List.map_set]

/-- the sum of the coordinates times the weights -/
def dotN (p w : List Int) : Nat → Int
  | 0 => 0
  | k + 1 => wr .i64 (dotN p w k + wr .i64 (p.getD k 0 * w.getD k 0))
/-- is the point at which a round is, on its side? -/
def hitP (x : List (List Int)) (z : List Int) (i : Nat) (w : List Int) : Prop := 0 < wr .i64 (z.getD i 0 * dotN (nthR x i) w w.length)
instance (x : List (List Int)) (z : List Int) (i : Nat) (w : List Int) : Decidable (hitP x z i w) := inferInstanceAs (Decidable (_ < _))
def zeros (n : Nat) : List Int := List.replicate n 0
section
variable {ro : List ABlk} {h hp : Heap} {a b v : AVal} {x : List (List Int)} {z : List Int}

theorem Holds.wr {b k : Nat} {vs : List AVal} {v : AVal} (a : Holds hp b vs) (hk : k < vs.length) (hv : v.one = true) (hc : v.cells = [v]) (hn : nonp [v] = true) (hL : h.length ≤ b) (kp : Keep h hp) :
    ∃ hp', writesM ro [] [(⟨false, b, 0 + k⟩, AVal.cells v)] ⟨hp, h.length, h.length⟩ = some ⟨hp', h.length, h.length⟩ ∧ Holds hp' b (vs.set k v) ∧ hp'.length = hp.length ∧ (∀ i, i ≠ b → hp'[i]? = hp[i]?) ∧ Keep h hp' := by
  obtain ⟨blk, h1, h2, h3⟩ := a
  refine ⟨hp.set b (some { blk with c := blk.c.set (0 + k) v }), ?_, ⟨_, lget_set h1 _, by simpa using h2, fun j hj => ?_⟩, by simp, fun i hi => List.getElem?_set_ne (Ne.symm hi), kp.set hL _⟩
  · rw [hc, wr_heap h1 (by omega) hv hn, Nat.min_eq_left hL]
  · show (blk.c.set (0 + k) v).get j = _
    rw [get_set]
    simp only [List.length_set] at hj
    by_cases e : 0 + k = j
    · have e' : k = j := by omega
      subst e'; simp [List.getD, hj]
    · rw [if_neg e, h3 j hj]
      simp [List.getD, List.getElem?_set_ne (show k ≠ j by omega)]
theorem getD_self {α : Type} {l : List α} {k : Nat} {v d : α} (h : k < l.length) : (l.set k v).getD k d = v := by simp [List.getD, h]
theorem getD_ne {α : Type} {l : List α} {k j : Nat} {v d : α} (h : k ≠ j) : (l.set k v).getD j d = l.getD j d := by simp [List.getD, List.getElem?_set_ne h]
theorem Holds.wrG {b k l p : Nat} {vs : List AVal} {v : AVal} (a : Holds hp b vs) (hk : k < vs.length) (hv : v.one = true) (hc : v.cells = [v]) (hn : nonp [v] = true) :
    ∃ hp', writesM ro [] [(⟨false, b, 0 + k⟩, AVal.cells v)] ⟨hp, l, p⟩ = some ⟨hp', min l b, p⟩ ∧ Holds hp' b (vs.set k v) ∧ hp'.length = hp.length ∧ (∀ i, i ≠ b → hp'[i]? = hp[i]?) := by
  obtain ⟨blk, h1, h2, h3⟩ := a
  refine ⟨hp.set b (some { blk with c := blk.c.set (0 + k) v }), ?_, ⟨_, lget_set h1 _, by simpa using h2, fun j hj => ?_⟩, by simp, fun i hi => List.getElem?_set_ne (Ne.symm hi)⟩
  · rw [hc, wr_heap h1 (by omega) hv hn]
  · show (blk.c.set (0 + k) v).get j = _
    rw [get_set]
    simp only [List.length_set] at hj
    by_cases e : 0 + k = j
    · have e' : k = j := by omega
      subst e'; rw [getD_self hj, if_pos (by omega)]
    · rw [if_neg e, h3 j hj, getD_ne (by omega)]
theorem Holds.setG {b k l p : Nat} {vs : List AVal} {v : AVal} (a : Holds hp b vs) (hk : k < vs.length) (hv : v.one = true) (hc : v.cells = [v]) (hn : nonp [v] = true) :
    ∃ hp', stepM ro ⟨hp, l, p⟩ (.st 1 (.c (.p (some ⟨false, b, 0 + k⟩))) (.c v)) = some (und, ⟨hp', min l b, p⟩) ∧ Holds hp' b (vs.set k v) ∧ hp'.length = hp.length ∧ (∀ i, i ≠ b → hp'[i]? = hp[i]?) := by
  obtain ⟨blk, h1, h2, h3⟩ := a
  refine ⟨hp.set b (some { blk with c := blk.c.set (0 + k) v }), ?_, ⟨_, lget_set h1 _, by simpa using h2, fun j hj => ?_⟩, by simp, fun i hi => List.getElem?_set_ne (Ne.symm hi)⟩
  · rw [st_heap h1 (by omega) hv hc hn]
  · show (blk.c.set (0 + k) v).get j = _
    rw [get_set]
    simp only [List.length_set] at hj
    by_cases e : 0 + k = j
    · have e' : k = j := by omega
      subst e'; rw [getD_self hj, if_pos (by omega)]
    · rw [if_neg e, h3 j hj, getD_ne (by omega)]
theorem fin_out {L : Nat} {v : AVal} {l p : Nat} (hv : v.bel L = false) : finM L v ⟨hp, l, p⟩ = some (v, hp, l, p) := by
  simp [finM, gc, hv]
theorem keep_o {h0 hp' : Heap} {q : Nat} (k : Keep h0 hp) (hq : h0.length ≤ q) (hl : hp'.length = hp.length) (ho : ∀ i, i ≠ q → hp'[i]? = hp[i]?) : Keep h0 hp' :=
  ⟨by rw [hl]; exact k.1, fun j hj => by rw [ho j (by omega)]; exact k.2 j hj⟩
theorem sl_nb {L b n : Nat} {cap : Cap} {l : List AVal} (h : L ≤ b) : (AVal.tup (.sl ⟨false, b, 0⟩ n cap :: l)).bel L = false := by
  simp only [AVal.bel, bels, Bool.false_or]
  have : Nat.blt b L = false := by rw [Bool.eq_false_iff]; simp [Nat.blt_eq]; omega
  simp [this]

/-- the weights as a slice of a block -/
abbrev wSl (q d : Nat) : AVal := .sl ⟨false, q, 0⟩ d (.known d)

end
end Go.Proofs.Ytageakoepjkkbaa.T

/- Perceptron whole; the law that compares both. -/
open Go.Vm
set_option linter.unusedVariables false
namespace Go.Proofs.Ytageakoepjkkbaa.T
open Go

section
variable {ro : List ABlk} {h hp : Heap} {a b v : AVal} {x : List (List Int)} {z : List Int}

theorem holds_ints {q d : Nat} {w : List Int} (a : Holds hp q (ints w)) (hd : w.length = d) : IsRow ro hp (wSl q d) w := holds_row a rfl hd
theorem newInts (h : Heap) (d : Nat) : Holds (h ++ [some (newBlk 3 (.i .i64 0) d)]) h.length (ints (zeros d)) := by
  have e : rep [(AVal.i .i64 0)] d = ints (zeros d) := by
    have : ∀ d, rep [(AVal.i .i64 0)] d = ints (zeros d) := by
      intro d
      induction d with
      | zero => rfl
      | succ d ih => simp only [rep, ih, zeros, ints, List.replicate_succ, List.map_cons]; rfl
    exact this d
  show Holds (h ++ [some (blkOf 3 (rep [(AVal.i .i64 0)] d))]) _ _
  rw [e]
  exact Holds.new h 3 _
theorem zeros_len (d : Nat) : (zeros d).length = d := by simp [zeros]
end
end Go.Proofs.Ytageakoepjkkbaa.T

/- Goals: what they are, their halves, room, guess. -/
open Go.Vm
set_option linter.unusedVariables false
namespace Go.Proofs.Ytageakoepjkkbaa.T
open Go

def goalP (k : Int) (z : List Int) : Prop := 1 ≤ k ∧ k ≤ 10 ∧ z.length = 2 ^ k.toNat ∧ ∀ j, j < z.length → 0 ≤ z.getD j 0 ∧ z.getD j 0 ≤ k * 60
instance (k : Int) (z : List Int) : Decidable (goalP k z) := inferInstanceAs (Decidable (_ ∧ _ ∧ _ ∧ ∀ j, j < z.length → 0 ≤ z.getD j 0 ∧ z.getD j 0 ≤ k * 60))
/-- part i of 2^j numbers each -/
def subL (z : List Int) (j i : Nat) : List Int := (List.range (2 ^ j)).map fun t => z.getD (i * 2 ^ j + t) 0
theorem subL_len (z : List Int) (j i : Nat) : (subL z j i).length = 2 ^ j := by simp [subL]
/-- the sum of the numbers t of a part -/
def sumT (z : List Int) (j i : Nat) : Nat → Int
  | 0 => 0
  | t + 1 => sumT z j i t + z.getD (i * 2 ^ j + t) 0
def sumO (z : List Int) (j i : Nat) : Int := sumT z j i (2 ^ j)
section
variable {ro : List ABlk} {h hp : Heap} {a b v : AVal} {x : List (List Int)} {z : List Int}

theorem mxF_eq {a c : Int} : mxV false a c = min a c := by
  unfold mxV; simp only [Bool.false_eq_true, if_false]; split <;> omega
theorem mxT_eq {a c : Int} : mxV true a c = max a c := by
  unfold mxV; simp only [if_true]; split <;> omega

/-- a part of a goal in memory -/
def IsSub (ro : List ABlk) (h : Heap) (v : AVal) (z : List Int) (j i : Nat) : Prop := IsRow ro h v (subL z j i) ∧ CapO v
theorem IsSub.bel {j i : Nat} (a : IsSub ro h v z j i) : v.bel h.length = true := row_bel a.1
theorem IsSub.len {j i : Nat} (a : IsSub ro h v z j i) : evP .e (.len false (.c v)) = some (.i .i64 ((2 ^ j : Nat) : Int)) := by
  have := len_row a.1
  rwa [subL_len] at this

end
end Go.Proofs.Ytageakoepjkkbaa.T

/- Can: the program's and the reference's. -/
open Go.Vm
set_option linter.unusedVariables false
namespace Go.Proofs.Ytageakoepjkkbaa.T
open Go

section
variable {ro : List ABlk} {h hp : Heap} {a b v : AVal} {x : List (List Int)} {z : List Int}

theorem GV.len {L k : Nat} {zs : List Int} (g : GV hp L 3 1 v k (ints zs)) : evP .e (.len false (.c v)) = some (.i .i64 (k : Int)) := by
  rcases g with ⟨rfl, rfl, -⟩ | ⟨b, blk, rfl, -⟩
  · rfl
  · simp [evP, ev_len, opd, mkI_eq]
end
end Go.Proofs.Ytageakoepjkkbaa.T

/- Can, Guess and Loss: the program's and the reference's. -/
open Go.Vm
set_option linter.unusedVariables false
namespace Go.Proofs.Ytageakoepjkkbaa.T
open Go

section
variable {ro : List ABlk} {h hp : Heap} {a b c v : AVal} {x : List (List Int)} {z y : List Int}

end
end Go.Proofs.Ytageakoepjkkbaa.T

/- The law that compares Can, Guess and Loss. -/
open Go.Vm
set_option linter.unusedVariables false
namespace Go.Proofs.Ytageakoepjkkbaa.T
open Go

section
variable {ro : List ABlk} {h hp : Heap} {a b c v : AVal} {x : List (List Int)} {z y : List Int}

end
end Go.Proofs.Ytageakoepjkkbaa.T

/- Goals whose means are near: room, guess and loss are known; the law about Cover's theorem. -/
open Go.Vm
set_option linter.unusedVariables false
namespace Go.Proofs.Ytageakoepjkkbaa.T
open Go

def nearJ (z : List Int) (j i : Nat) : Prop := sumO z j (2 * i) - sumO z j (2 * i + 1) ≤ 60 * 2 ^ j ∧ sumO z j (2 * i + 1) - sumO z j (2 * i) ≤ 60 * 2 ^ j
instance (z : List Int) (j i : Nat) : Decidable (nearJ z j i) := inferInstanceAs (Decidable (_ ∧ _))
def nearL (z : List Int) (k j : Nat) : Prop := ∀ i, i < 2 ^ (k - 1 - j) → nearJ z j i
instance (z : List Int) (k j : Nat) : Decidable (nearL z k j) := inferInstanceAs (Decidable (∀ i, i < 2 ^ (k - 1 - j) → nearJ z j i))
def nearP (z : List Int) (k : Nat) : Prop := ∀ j, j < k → nearL z k j
instance (z : List Int) (k : Nat) : Decidable (nearP z k) := inferInstanceAs (Decidable (∀ j, j < k → nearL z k j))

section
variable {ro : List ABlk} {h hp : Heap} {a b c v : AVal} {x : List (List Int)} {z y : List Int}

end
end Go.Proofs.Ytageakoepjkkbaa.T

/- Lists of rows that a function makes by append; a row cut; rows of an argument with their room. -/
open Go.Vm
set_option linter.unusedVariables false
namespace Go.Proofs.Ytageakoepjkkbaa.T
open Go

section
variable {ro : List ABlk} {h hp hp' : Heap} {a b v : AVal} {x : List (List Int)} {z : List Int}

/-- the block of a slice -/
def bno : AVal → Option Nat
  | .sl q _ _ => some q.b
  | _ => none
theorem GV.bno {L e es k : Nat} {cs : List AVal} (g : GV hp L e es v k cs) : ∀ i, T.bno v = some i → L ≤ i ∧ i < hp.length := by
  intro i hi
  rcases g with ⟨rfl, -⟩ | ⟨b, blk, rfl, h2, h3, h4, h5⟩
  · cases hi
  · cases hi
    exact ⟨h3, lget_lt h4⟩
theorem GV.byB {L e es k : Nat} {cs : List AVal} (g : GV hp L e es v k cs) (ho : ∀ i, i < hp.length → T.bno v = some i → hp'[i]? = hp[i]?) : GV hp' L e es v k cs := by
  rcases g with h | ⟨b, blk, rfl, h2, h3, h4, h5⟩
  · exact .inl h
  · exact .inr ⟨b, blk, rfl, h2, h3, by rw [lget_of (ho b (lget_lt h4) rfl)]; exact h4, h5⟩
end
end Go.Proofs.Ytageakoepjkkbaa.T

/- Series and walks: what fewer foretellers, one alone, and two that always differ come to. -/
open Go.Vm
set_option linter.unusedVariables false
namespace Go.Proofs.Ytageakoepjkkbaa.T
open Go

end Go.Proofs.Ytageakoepjkkbaa.T

/- The law about walks. -/
open Go.Vm
set_option linter.unusedVariables false
namespace Go.Proofs.Ytageakoepjkkbaa.T
open Go

section
variable {ro : List ABlk} {h hp hp' : Heap} {a b v : AVal} {x : List (List Int)} {z : List Int}

end
end Go.Proofs.Ytageakoepjkkbaa.T

/- The law about walks: the function. -/
open Go.Vm
set_option linter.unusedVariables false
namespace Go.Proofs.Ytageakoepjkkbaa.T
open Go

section
variable {ro : List ABlk} {h hp hp' : Heap} {a b v : AVal} {x : List (List Int)} {z : List Int}

end
end Go.Proofs.Ytageakoepjkkbaa.T

/- An argument that is a list of rows: each with its room. -/
open Go.Vm
set_option linter.unusedVariables false
namespace Go.Proofs.Ytageakoepjkkbaa.T
open Go Go.RowKit Go.Deep Go.WideShapes Go.ChangeShapes

end Go.Proofs.Ytageakoepjkkbaa.T

/- The halver's methods: what it foretells, what it learns. -/
open Go.Vm
set_option linter.unusedVariables false
namespace Go.Proofs.Ytageakoepjkkbaa.T
open Go

/-- how often a foreteller was wrong in the first i rounds -/
def mis (x : List (List Int)) (z : List Int) (f : Nat) : Nat → Nat
  | 0 => 0
  | i + 1 => mis x z f i + (if (nthR x i).getD f 0 ≠ z.getD i 0 then 1 else 0)
def misL (x : List (List Int)) (z : List Int) (n i : Nat) : List Int := (List.range n).map fun f => ((mis x z f i : Nat) : Int)
theorem misL_len (x : List (List Int)) (z : List Int) (n i : Nat) : (misL x z n i).length = n := by simp [misL]
theorem misL_get {x : List (List Int)} {z : List Int} {n i f : Nat} (hf : f < n) : (misL x z n i).getD f 0 = ((mis x z f i : Nat) : Int) := by simp [misL, List.getD, hf]
theorem mis_le (x : List (List Int)) (z : List Int) (f : Nat) : ∀ i, mis x z f i ≤ i
  | 0 => Nat.le_refl _
  | i + 1 => by
    have := mis_le x z f i
    simp only [mis]; split <;> omega
theorem misL_zero (x : List (List Int)) (z : List Int) (n : Nat) : misL x z n 0 = zeros n := by
  refine List.ext_getElem (by simp [misL, zeros]) fun j h1 h2 => by simp [misL, zeros, mis]
def sideV (n : Int) : Int := if 0 < n then 1 else 0
/-- the numbers of mistakes after the first c foretellers -/
def lrn (w row : List Int) (told : Int) (c : Nat) : List Int := (List.range w.length).map fun f => if f < c ∧ row.getD f 0 ≠ told then w.getD f 0 + 1 else w.getD f 0
theorem lrn_len (w row : List Int) (told : Int) (c : Nat) : (lrn w row told c).length = w.length := by simp [lrn]
theorem lrn_get {w row : List Int} {told : Int} {c f : Nat} (hf : f < w.length) : (lrn w row told c).getD f 0 = if f < c ∧ row.getD f 0 ≠ told then w.getD f 0 + 1 else w.getD f 0 := by simp [lrn, List.getD, hf]
theorem lrn_zero (w row : List Int) (told : Int) : lrn w row told 0 = w := by
  refine List.ext_getElem (by simp [lrn]) fun j h1 h2 => ?_
  simp [lrn, List.getD, h2]
theorem lrn_same {w row : List Int} {told : Int} {c : Nat} (he : row.getD c 0 = told) : lrn w row told (c + 1) = lrn w row told c := by
  unfold lrn
  refine List.map_congr_left fun f _ => ?_
  by_cases e : f = c
  · subst e; rw [if_neg (fun hh => hh.2 he), if_neg (fun hh => by omega)]
  · by_cases h : f < c ∧ row.getD f 0 ≠ told
    · rw [if_pos h, if_pos ⟨by omega, h.2⟩]
    · rw [if_neg h, if_neg (fun hh => h ⟨by omega, hh.2⟩)]
theorem lrn_set {w row : List Int} {told : Int} {c : Nat} (hc : c < w.length) (he : row.getD c 0 ≠ told) : (lrn w row told c).set c (w.getD c 0 + 1) = lrn w row told (c + 1) := by
  refine List.ext_getElem (by simp [lrn]) fun j h1 h2 => ?_
  have hj : j < w.length := by simpa [lrn] using h2
  rw [List.getElem_set]
  by_cases e : c = j
  · subst e
    rw [if_pos rfl]
    simp only [lrn, List.getElem_map, List.getElem_range]
    rw [if_pos ⟨by omega, he⟩]
  · rw [if_neg e]
    simp only [lrn, List.getElem_map, List.getElem_range]
    by_cases h : j < c ∧ row.getD j 0 ≠ told
    · rw [if_pos h, if_pos ⟨by omega, h.2⟩]
    · rw [if_neg h, if_neg (fun hh => h ⟨by omega, hh.2⟩)]
theorem misL_next (x : List (List Int)) (z : List Int) (n i : Nat) : lrn (misL x z n i) (nthR x i) (z.getD i 0) n = misL x z n (i + 1) := by
  refine List.ext_getElem (by simp [lrn, misL]) fun j h1 h2 => ?_
  have hj : j < n := by simpa [misL] using h2
  simp only [lrn, misL, List.getElem_map, List.getElem_range, List.length_map, List.length_range]
  have e1 : ((List.range n).map fun f => ((mis x z f i : Nat) : Int)).getD j 0 = ((mis x z j i : Nat) : Int) := misL_get hj
  rw [e1]
  simp only [mis]
  by_cases h : (nthR x i).getD j 0 ≠ z.getD i 0
  · rw [if_pos ⟨hj, h⟩, if_pos h]; omega
  · rw [if_neg (fun hh => h hh.2), if_neg h]; omega

section
variable {ro : List ABlk} {h hp : Heap} {a b u v : AVal} {x : List (List Int)} {z row w : List Int}

theorem vote_ok {n : Int} (hb : bitP n) : callX F1 ro 101 [.i .i64 n] h = some (.i .i64 (2 * n - 1), h, h.length, h.length) := by
  refine g101_ok (meansX_ok F1 ro) rfl ?_
  unfold g101
  unfold bitP at hb
  have w1 : Go.Vm.wr .i64 (2 * n) = 2 * n := wr_id' (by omega) (by omega)
  have w2 : Go.Vm.wr .i64 (2 * n - 1) = 2 * n - 1 := wr_id' (by omega) (by omega)
  simp only [forceI_eq, w1, w2, tupA]
  exact fin_pure rfl
theorem side_ok {n : Int} : callX F1 ro 102 [.i .i64 n] h = some (.i .i64 (sideV n), h, h.length, h.length) := by
  refine g102_ok (meansX_ok F1 ro) rfl ?_
  unfold g102 sideV
  simp only [forceB_eq, ltI_eq]
  by_cases h0 : 0 < n
  · simp only [dT h0, cond_true, if_pos h0, tupA]; exact fin_pure rfl
  · simp only [dF h0, cond_false, if_neg h0, tupA]; exact fin_pure rfl
/-- what a halver learns -/
theorem learn_ok {n q : Nat} {say told : Int} (hu : IsRow ro h u row) (kh : Keep h hp) (hqh : h.length ≤ q) (hrl : row.length = n) (hn : n ≤ 100) (hw : Holds hp q (ints w)) (hwl : w.length = n) (hwr : ∀ f, f < n → 0 ≤ w.getD f 0 ∧ w.getD f 0 ≤ 1000) :
    ∃ hp' lw, callX F1 ro 100 [.agg [wSl q n], u, .i .i64 say, .i .i64 told] hp = some (.tup [], hp', lw, hp.length) ∧ q ≤ lw ∧ hp'.length = hp.length ∧ (∀ i, i ≠ q → hp'[i]? = hp[i]?) ∧ Holds hp' q (ints (lrn w row told n)) := by
  have hq := hw.lt
  have s1 := bx_ok (ro := ro) (hp := hp) (l := hp.length) (p := hp.length) (vs := [wSl q n]) (n := 1) 71 rfl
  obtain ⟨hb1, eb⟩ : ∃ hb1, hb1 = hp ++ [some (blkOf 71 [wSl q n])] := ⟨_, rfl⟩
  rw [← eb] at s1
  have kp : Keep hp hb1 := by rw [eb]; exact Keep.app _
  have hbl : hb1.length = hp.length + 1 := by rw [eb]; simp
  have dB : Holds hb1 hp.length [wSl q n] := by rw [eb]; exact Holds.new hp 71 _
  have dW := hw.by kp
  have kh1 := kh.trans kp
  obtain ⟨m', hrun, hp3, lw3, rfl, hlw3, hl3, ho3, hw3⟩ := loop_all (b := fun s : Int × Mm => g100_b0 (meansX F1 ro) ro told (.p (some ⟨false, hp.length, 0⟩)) u row.length s.1 s.2) n
    (fun c m => ∃ hp2 lw2, m = ⟨hp2, lw2, hp.length⟩ ∧ q ≤ lw2 ∧ hp2.length = hb1.length ∧ (∀ i, i ≠ q → hp2[i]? = hb1[i]?) ∧ Holds hp2 q (ints (lrn w row told c)))
    (fun c m hc hI => by
      obtain ⟨hp2, lw2, rfl, hlw2, hl2, ho2, hw2⟩ := hI
      have kp2 : Keep h hp2 := keep_o kh1 hqh hl2 ho2
      obtain ⟨p1, h1, hld⟩ := at_rowK hu (show c < row.length by omega)
      have h2 := (hld (l := lw2) (q := hp.length) kp2).1
      by_cases he : row.getD c 0 = told
      · have e0 : (row.getD c 0 == told) = true := by rw [he]; exact beq_self_eq_true _
        refine ⟨⟨hp2, lw2, hp.length⟩, ?_, hp2, lw2, rfl, hlw2, hl2, ho2, by rw [lrn_same he]; exact hw2⟩
        simp only [g100_b0, hrl, forceB_eq, ltI_eq, lt_yes hc, cond_true, h1, h2, bindO_some, asI_i, eqI_eq, e0, Bool.not_true, cond_false, forceI_eq]
        rw [wr_next (by omega)]
      · have e0 : (row.getD c 0 == told) = false := by rw [beq_eq_false_iff_ne]; exact he
        have dB2 : Holds hp2 hp.length [wSl q n] := dB.keep (ho2 _ (by omega))
        have f1 := dB2.one (ro := ro) (l := lw2) (p := hp.length) (k := 0) (by simp)
        simp only [Nat.zero_add] at f1
        have f1' : ldM ro ⟨hp2, lw2, hp.length⟩ true 1 (.p (some ⟨false, hp.length, 0⟩)) = some (.sl ⟨false, q, 0⟩ n (.known n)) := f1
        have g4 := ixS_eq (q := ⟨false, q, 0⟩) (cap := .known n) hc
        have hul : c < (lrn w row told c).length := by rw [lrn_len]; omega
        have g5 := hw2.one (ro := ro) (l := lw2) (p := hp.length) (k := c) (by rw [ints_len]; exact hul)
        rw [ints_get hul, lrn_get (by omega), if_neg (fun hh => Nat.lt_irrefl c hh.1)] at g5
        have hwc := hwr c hc
        have w1 : Go.Vm.wr .i64 (w.getD c 0 + 1) = w.getD c 0 + 1 := wr_id' (by omega) (by omega)
        obtain ⟨hp3, hst, hw3, hl3, ho3⟩ := hw2.setG (ro := ro) (l := lw2) (p := hp.length) (k := c) (v := .i .i64 (w.getD c 0 + 1)) (by rw [ints_len]; exact hul) rfl rfl rfl
        simp only [Nat.zero_add] at g4 g5 hst
        refine ⟨⟨hp3, min lw2 q, hp.length⟩, ?_, hp3, min lw2 q, rfl, by omega, by omega, fun j hj => by rw [ho3 j hj]; exact ho2 j hj, by rw [ints_set, lrn_set (by omega) he] at hw3; exact hw3⟩
        simp only [g100_b0, hrl, forceB_eq, ltI_eq, lt_yes hc, cond_true, h1, h2, bindO_some, asI_i, eqI_eq, e0, Bool.not_false, p_faddr, Nat.zero_add, f1', g4, g5, forceI_eq, w1, hst, bindP_some]
        rw [wr_next (by omega)])
    (fun m hI => by simp only [g100_b0, hrl, forceB_eq, ltI_eq, lt_no, cond_false]) n 0 ⟨hb1, hp.length, hp.length⟩ (by omega) ⟨hb1, hp.length, rfl, by omega, rfl, fun _ _ => rfl, by rw [lrn_zero]; exact dW⟩
  have e0 : ((0 : Nat) : Int) = 0 := rfl
  rw [e0] at hrun
  have hkeep : ∀ i, i < hp.length → i ≠ q → hp3[i]? = hp[i]? := fun i hi hne => by rw [ho3 i hne]; exact kp.2 i hi
  refine ⟨hp3.take hp.length, lw3, g100_ok (meansX_ok F1 ro) rfl ?_, hlw3, by rw [List.length_take]; omega, fun i hne => ?_, hw3.keep (by rw [List.getElem?_take, if_pos hq])⟩
  · unfold g100
    simp only [s1, bindP_some, len_row (row_by hu kh), bindO_some, asI_i, meansX_loop, hrun, tupA]
    exact fin_take rfl
  · rw [List.getElem?_take]
    by_cases hi : i < hp.length
    · rw [if_pos hi]; exact hkeep i hi hne
    · rw [if_neg hi, List.getElem?_eq_none (by omega)]
end
end Go.Proofs.Ytageakoepjkkbaa.T

/- A program that foretells and learns, round by round. -/
open Go.Vm
set_option linter.unusedVariables false
namespace Go.Proofs.Ytageakoepjkkbaa.T
open Go

abbrev tabF : List MRow := [(71, (99, [])), (74, (103, [])), (75, (99, [(0, (1, false))])), (76, (105, []))]
abbrev tabL : List MRow := [(71, (100, [])), (74, (104, [])), (75, (100, [(0, (1, false))])), (76, (100, [(0, (1, false))]))]
abbrev tabN : List (String × List MRow) := [("Error", [(8, (84, [])), (10, (86, [])), (11, (88, [])), (14, (90, [])), (19, (97, []))]), ("RuntimeError", [(8, (85, [])), (10, (87, [])), (11, (89, [])), (14, (91, [])), (19, (98, []))]), ("dibber/luck.foretell", [(71, (99, [])), (74, (103, [])), (75, (99, [(0, (1, false))])), (76, (105, []))]), ("dibber/luck.learn", [(71, (100, [])), (74, (104, [])), (75, (100, [(0, (1, false))])), (76, (100, [(0, (1, false))]))]), ("String", [(116, (106, []))])]
def sayM (say : Nat → Int) (T i : Nat) : List Int := (List.range T).map fun j => if j < i then say j else 0
theorem sayM_len (say : Nat → Int) (T i : Nat) : (sayM say T i).length = T := by simp [sayM]
theorem sayM_zero (say : Nat → Int) (T : Nat) : sayM say T 0 = zeros T := by
  refine List.ext_getElem (by simp [sayM, zeros]) fun j h1 h2 => by simp [sayM, zeros]
theorem sayM_set {say : Nat → Int} {T i : Nat} (hi : i < T) : (sayM say T i).set i (say i) = sayM say T (i + 1) := by
  refine List.ext_getElem (by simp [sayM]) fun j h1 h2 => ?_
  rw [List.getElem_set]
  by_cases e : i = j
  · subst e; rw [if_pos rfl]; simp [sayM]
  · rw [if_neg e]
    simp only [sayM, List.getElem_map, List.getElem_range]
    by_cases h : j < i
    · rw [if_pos h, if_pos (by omega)]
    · rw [if_neg h, if_neg (by omega)]
theorem sayM_get {say : Nat → Int} {T i j : Nat} (hj : j < T) (hi : j < i) : (sayM say T i).getD j 0 = say j := by simp [sayM, List.getD, hj, hi]

section
variable {ro : List ABlk} {h hp : Heap} {a b u v v0 : AVal} {x : List (List Int)} {z row w : List Int}

/-- a program whose state is a list of numbers in a block -/
theorem listen_ok {n q T : Nat} {say : Nat → Int} {st : Nat → List Int} (ha : IsMat ro h a x) (hb : IsRow ro h b z) (kh : Keep h hp) (hqh : h.length ≤ q) (hT : x.length = T) (hz : z.length = T) (hT2 : T ≤ 200) (hw : Holds hp q (ints (st 0)))
    (hF : ∀ i, i < T → ∀ (hp' : Heap) (u : AVal), IsRow ro hp' u (nthR x i) → Holds hp' q (ints (st i)) → ∃ f r, mget tabF v0 = some (f, r) ∧ callX F1 ro f [r, u] hp' = some (.i .i64 (say i), hp', hp'.length, hp'.length))
    (hLn : ∀ i, i < T → ∀ (hp' : Heap) (u : AVal), IsRow ro h u (nthR x i) → Keep h hp' → Holds hp' q (ints (st i)) → ∃ f r hp'' lw, mget tabL v0 = some (f, r) ∧ callX F1 ro f [r, u, .i .i64 (say i), .i .i64 (z.getD i 0)] hp' = some (.tup [], hp'', lw, hp'.length) ∧ q ≤ lw ∧ hp''.length = hp'.length ∧ (∀ j, j ≠ q → hp''[j]? = hp'[j]?) ∧ Holds hp'' q (ints (st (i + 1))))
    (hN : evP .e (.nilm tabN (.c (.bm "dibber/luck.learn" v0))) = some (.bm "dibber/luck.learn" v0)) :
    ∃ hp' lw, callX F1 ro 50 [v0, a, b] hp = some (wSl hp.length T, hp', lw, hp.length) ∧ q ≤ lw ∧ hp'.length = hp.length + 1 ∧ (∀ i, i ≠ q → i ≠ hp.length → hp'[i]? = hp[i]?) ∧ Holds hp' q (ints (st T)) ∧ Holds hp' hp.length (ints (sayM say T T)) := by
  have hq := hw.lt
  obtain ⟨hb1, eb⟩ : ∃ hb1, hb1 = hp ++ [some (newBlk 3 (.i .i64 0) T)] := ⟨_, rfl⟩
  have kp : Keep hp hb1 := by rw [eb]; exact Keep.app _
  have hbl : hb1.length = hp.length + 1 := by rw [eb]; simp
  have hnew : ∀ j, j ≠ hp.length → hb1[j]? = hp[j]? := fun j hj => by
    by_cases hlt : j < hp.length
    · exact kp.2 j hlt
    · rw [List.getElem?_eq_none (by omega), List.getElem?_eq_none (by omega)]
  have dS : Holds hb1 hp.length (ints (zeros T)) := by rw [eb]; exact newInts hp T
  obtain ⟨m', hrun, hp3, lw3, rfl, hlw3, hlw3', hl3, ho3, hw3, hs3⟩ := loop_all (b := fun s : Int × Mm => g50_b0 (meansX F1 ro) ro v0 b (wSl hp.length T) a (T : Int) s.1 s.2) T
    (fun i m => ∃ hp2 lw2, m = ⟨hp2, lw2, hp.length⟩ ∧ q ≤ lw2 ∧ lw2 ≤ hp.length ∧ hp2.length = hp.length + 1 ∧ (∀ j, j ≠ q → j ≠ hp.length → hp2[j]? = hp[j]?) ∧ Holds hp2 q (ints (st i)) ∧ Holds hp2 hp.length (ints (sayM say T i)))
    (fun i m hi hI => by
      obtain ⟨hp2, lw2, rfl, hlw2, hlw2', hl2, ho2, hw2, hs2⟩ := hI
      have kp2 : Keep h hp2 := ⟨by have := kh.1; omega, fun j hj => by rw [ho2 j (by omega) (by have := kh.1; omega)]; exact kh.2 j hj⟩
      obtain ⟨p1, u, e1, eld, hu⟩ := at_matK ha (show i < x.length by omega)
      have e2 := (eld (l := lw2) (q := hp.length) kp2).1
      obtain ⟨f, r, hm1, hc1⟩ := hF i hi hp2 u (row_by hu kp2) hw2
      have c1 := callM_pure (l := lw2) (p := hp.length) hc1 (by omega) (by omega)
      have g4 := ixS_eq (q := ⟨false, hp.length, 0⟩) (cap := .known T) hi
      obtain ⟨hp4, hst, hs4, hl4, ho4⟩ := hs2.setG (ro := ro) (l := lw2) (p := hp.length) (k := i) (v := .i .i64 (say i)) (by rw [ints_len, sayM_len]; exact hi) rfl rfl rfl
      rw [ints_set, sayM_set hi] at hs4
      have hw4 : Holds hp4 q (ints (st i)) := hw2.keep (ho4 q (by omega))
      have kp4 : Keep h hp4 := ⟨by have := kh.1; omega, fun j hj => by rw [ho4 j (by have := kh.1; omega)]; exact kp2.2 j hj⟩
      obtain ⟨p2, e3, eld2⟩ := at_rowK hb (show i < z.length by omega)
      have e4 := (eld2 (l := 0) (q := 0) kp4).2
      have g5 := hs4.oneA (ro := ro) (k := i) (by rw [ints_len, sayM_len]; exact hi)
      rw [ints_get (by rw [sayM_len]; exact hi), sayM_get hi (by omega)] at g5
      obtain ⟨f', r', hp5, lw5, hm2, hc2, q1, q2, q3, q4⟩ := hLn i hi hp4 u hu kp4 hw4
      have c2 := callM_eq (call := callX F1 ro) (m := ⟨hp4, min lw2 hp.length, hp.length⟩) hc2
      have hp45 : min hp.length hp4.length = hp.length := by omega
      rw [hp45] at c2
      simp only [Nat.zero_add] at g4 g5 hst
      refine ⟨⟨hp5, min (min lw2 hp.length) lw5, hp.length⟩, ?_, hp5, min (min lw2 hp.length) lw5, rfl, by omega, by omega, by omega, fun j h1 h2 => by rw [q3 j h1, ho4 j h2, ho2 j h1 h2], q4, hs4.keep (q3 _ (by omega))⟩
      simp only [g50_b0, forceB_eq, ltI_eq, lt_yes hi, cond_true, e1, e2, bindO_some, calliM, hm1, meansX_call, c1, bindP_some, asI_i, g4, hst, e3, hN, g5, e4, hm2, c2, forceI_eq]
      rw [wr_next (by omega)])
    (fun m hI => by simp only [g50_b0, forceB_eq, ltI_eq, lt_no, cond_false]) T 0 ⟨hb1, hp.length, hp.length⟩ (by omega) ⟨hb1, hp.length, rfl, by omega, Nat.le_refl _, hbl, (fun j _ h2 => hnew j h2), hw.by kp, by rw [sayM_zero]; exact dS⟩
  have e0 : ((0 : Nat) : Int) = 0 := rfl
  rw [e0] at hrun
  refine ⟨hp3, lw3, g50_ok (meansX_ok F1 ro) rfl ?_, hlw3, hl3, ho3, hw3, hs3⟩
  unfold g50
  have s1 := mk_ok (ro := ro) (hp := hp) (l := hp.length) (p := hp.length) (e := 3) (es := 1) (bytes := 8) (v := .i .i64 0) (n := T) (by omega) (by omega)
  rw [← eb] at s1
  have hl := len_mat (mat_by ha kh)
  rw [hT] at hl
  have hbel : (wSl hp.length T).bel hp.length = false := by
    have : Nat.blt hp.length hp.length = false := by rw [Bool.eq_false_iff]; simp [Nat.blt_eq]
    simp [AVal.bel, this]
  simp only [hl, bindO_some, asI_i, s1, bindP_some, meansX_loop, hrun, tupA]
  exact fin_out hbel
end
end Go.Proofs.Ytageakoepjkkbaa.T

/- Halving: the program and the reference answer the same. -/
open Go.Vm
set_option linter.unusedVariables false
namespace Go.Proofs.Ytageakoepjkkbaa.T
open Go

theorem rec_facts {n : Int} {x : List (List Int)} {z : List Int} (h : recE n x z = 0) : ∃ N : Nat, n = (N : Int) ∧ 1 ≤ N ∧ N ≤ 20 ∧ x.length ≤ 200 ∧ (∀ i, i < x.length → bitsP (nthR x i) ∧ (nthR x i).length = N) ∧ bitsP z ∧ z.length = x.length := by
  unfold recE at h
  split at h
  · cases h
  split at h
  · cases h
  split at h
  · rename_i h1 h2 h3
    refine ⟨n.toNat, by omega, by omega, by omega, by omega, fun i hi => ?_, h3.2.1, ?_⟩
    · have := h3.1.1 i hi
      exact ⟨this.1, by have := this.2; omega⟩
    · have := h3.2.2; omega
  · cases h
section
variable {ro : List ABlk} {h hp : Heap} {a b u v v0 : AVal} {x : List (List Int)} {z row w : List Int}

end
end Go.Proofs.Ytageakoepjkkbaa.T

/- slices.Repeat of one number; the product of two small numbers in two words. -/
open Go.Vm
set_option linter.unusedVariables false
namespace Go.Proofs.Ytageakoepjkkbaa.T
open Go

section
variable {ro : List ABlk} {h hp : Heap} {a b u v v0 : AVal} {x : List (List Int)} {z row w vs ws : List Int}

end
end Go.Proofs.Ytageakoepjkkbaa.T

/- Winnow: the program and the reference answer the same. -/
open Go.Vm
set_option linter.unusedVariables false
namespace Go.Proofs.Ytageakoepjkkbaa.T
open Go

section
variable {ro : List ABlk} {h hp : Heap} {a b u v v0 : AVal} {x : List (List Int)} {z row w : List Int}

end
end Go.Proofs.Ytageakoepjkkbaa.T

/- Winnow by the reference. -/
open Go.Vm
set_option linter.unusedVariables false
namespace Go.Proofs.Ytageakoepjkkbaa.T
open Go

section
variable {ro : List ABlk} {h hp : Heap} {a b u v v0 : AVal} {x : List (List Int)} {z row w : List Int}

end
end Go.Proofs.Ytageakoepjkkbaa.T

/- A list of rows copied . -/
open Go.Vm
set_option linter.unusedVariables false
namespace Go.Proofs.Ytageakoepjkkbaa.T
open Go

section
variable {ro : List ABlk} {h hp hp' : Heap} {a b u v v0 : AVal} {x : List (List Int)} {z row w : List Int}

end
end Go.Proofs.Ytageakoepjkkbaa.T

/- The law about halving and winnowing. -/
open Go.Vm
set_option linter.unusedVariables false
namespace Go.Proofs.Ytageakoepjkkbaa.T
open Go
section
variable {ro : List ABlk} {h hp hp' : Heap} {a b u v v0 : AVal} {x : List (List Int)} {z row w : List Int}
theorem cond_of {β : Type} {c : Bool} {A B : Option β} (h : c = false) : cond c A B = B := by rw [h]; rfl
theorem bindP_of {β : Type} {o : Option (AVal × Mm)} {v : AVal} {m : Mm} {f : AVal → Mm → Option β} (h : o = some (v, m)) : bindP o f = f v m := by rw [h]; rfl
theorem bindO_of {α β : Type} {o : Option α} {v : α} {f : α → Option β} (h : o = some v) : bindO o f = f v := by rw [h]; rfl
theorem asI_of {β : Type} {n : Int} {k : Int → Option β} : asI .i64 (.i .i64 n) k = k n := rfl
theorem forceB_of {β : Type} {c : Bool} {k : Bool → Option β} : forceB c k = k c := forceB_eq ..
end
end Go.Proofs.Ytageakoepjkkbaa.T

/- Weighing: the weigher's methods, the program. -/
open Go.Vm
set_option linter.unusedVariables false
namespace Go.Proofs.Ytageakoepjkkbaa.T
open Go

/-- the votes by the number of mistakes, after the first c foretellers -/
def vtL (w row : List Int) : Nat → List Int
  | 0 => zeros 200
  | c + 1 => (vtL w row c).set (w.getD c 0).toNat (wr .i64 ((vtL w row c).getD (w.getD c 0).toNat 0 + (2 * row.getD c 0 - 1)))
theorem vtL_len (w row : List Int) : ∀ c, (vtL w row c).length = 200
  | 0 => zeros_len 200
  | c + 1 => by simp only [vtL, List.length_set, vtL_len w row c]
def accV (vs : List Int) : Nat → Int
  | 0 => 0
  | t + 1 => wr .i64 (wr .i64 (2 * accV vs t) + vs.getD t 0)
def stopV (vs : List Int) (n : Nat) (t : Nat) : Option Int := if (n : Int) < max (accV vs (t + 1)) (wr .i64 (0 - accV vs (t + 1))) then some (accV vs (t + 1)) else none
def weighV (w row : List Int) (n : Nat) : Int := sideV ((firstS (stopV (vtL w row n) n) 200 0).getD (accV (vtL w row n) 200))
def vsay (x : List (List Int)) (z : List Int) (n i : Nat) : Int := weighV (misL x z n i) (nthR x i) n

section
variable {ro : List ABlk} {h hp : Heap} {a b u v v0 : AVal} {x : List (List Int)} {z row w : List Int}

set_option maxRecDepth 100000 in
theorem vforetell_ok {n q : Nat} (hu : IsRow ro hp u row) (hrl : row.length = n) (hb : ∀ f, f < n → bitP (row.getD f 0)) (hn : n ≤ 100) (hw : Holds hp q (ints w)) (hwl : w.length = n) (hwr : ∀ f, f < n → 0 ≤ w.getD f 0 ∧ w.getD f 0 < 200) :
    callX F1 ro 105 [.agg [wSl q n], u] hp = some (.i .i64 (weighV w row n), hp, hp.length, hp.length) := by
  refine g105_ok (meansX_ok F1 ro) rfl ?_
  have s1 : stepM ro ⟨hp, hp.length, hp.length⟩ (.bx 76 1 (.c (.agg [wSl q n]))) = some (.p (some ⟨false, hp.length, 0⟩), ⟨hp ++ [some (blkOf 76 [wSl q n])], hp.length, hp.length⟩) := rfl
  obtain ⟨hb1, eb⟩ : ∃ hb1, hb1 = hp ++ [some (blkOf 76 [wSl q n])] := ⟨_, rfl⟩
  rw [← eb] at s1
  have kp : Keep hp hb1 := by rw [eb]; exact Keep.app _
  have hbl : hb1.length = hp.length + 1 := by rw [eb]; simp
  have dB : Holds hb1 hp.length [wSl q n] := by rw [eb]; exact Holds.new hp 76 _
  obtain ⟨hc1, ec⟩ : ∃ hc1, hc1 = hb1 ++ [some (blkOf 124 (ints (zeros 200)))] := ⟨_, rfl⟩
  have kc : Keep hb1 hc1 := by rw [ec]; exact Keep.app _
  have hcl : hc1.length = hp.length + 2 := by rw [ec]; simp; omega
  have dV : Holds hc1 (hp.length + 1) (ints (zeros 200)) := by rw [ec, ← hbl]; exact Holds.new hb1 124 _
  have hq := hw.lt
  obtain ⟨m', hrun, hp3, rfl, hl3, ho3, hv3⟩ := loop_all (b := fun s : Int × Mm => g105_b0 (meansX F1 ro) ro u (.p (some ⟨false, hp.length, 0⟩)) (.p (some ⟨false, hp.length + 1, 0⟩)) row.length s.1 s.2) n
    (fun c m => ∃ hp2, m = ⟨hp2, hp.length, hp.length⟩ ∧ hp2.length = hc1.length ∧ (∀ i, i ≠ hp.length + 1 → hp2[i]? = hc1[i]?) ∧ Holds hp2 (hp.length + 1) (ints (vtL w row c)))
    (fun c m hc hI => by
      obtain ⟨hp2, rfl, hl2, ho2, hv2⟩ := hI
      have kp2 : Keep hp hp2 := ⟨by omega, fun j hj => by rw [ho2 j (by omega), kc.2 j (by omega)]; exact kp.2 j hj⟩
      obtain ⟨p1, h1, hld⟩ := at_rowK hu (show c < row.length by omega)
      have h2 := (hld (l := hp.length) (q := hp.length) kp2).1
      have dB2 : Holds hp2 hp.length [wSl q n] := (dB.by kc).keep (ho2 _ (by omega))
      have f1 := dB2.oneA (ro := ro) (k := 0) (by simp)
      have dW := hw.by kp2
      have g4 := ixS_eq (q := ⟨false, q, 0⟩) (cap := .known n) hc
      have g5 := dW.oneA (ro := ro) (k := c) (by rw [ints_len]; omega)
      rw [ints_get (by omega)] at g5
      simp only [Nat.zero_add] at f1 g4 g5
      have f1' : ldA ro hp2 true 1 (.p (some ⟨false, hp.length, 0⟩)) = some (.sl ⟨false, q, 0⟩ n (.known n)) := f1
      obtain ⟨hw0, hw1⟩ := hwr c hc
      have g6 := p_ixA (r := false) (b := hp.length + 1) (o := 0) (len := 200) (es := 1) (x := w.getD c 0) (i := (w.getD c 0).toNat) (by omega) (by omega)
      have g7 := hv2.oneA (ro := ro) (k := (w.getD c 0).toNat) (by rw [ints_len, vtL_len]; omega)
      rw [ints_get (by rw [vtL_len]; omega)] at g7
      have cv := callN_pure (call := callX F1 ro) (h := hp2) (vote_ok (ro := ro) (h := hp2) (hb c hc)) rfl rfl
      obtain ⟨hp4, hwt, hv4, hl4, ho4⟩ := hv2.wrG (ro := ro) (l := hp.length) (p := hp.length) (k := (w.getD c 0).toNat) (v := .i .i64 (Go.Vm.wr .i64 ((vtL w row c).getD (w.getD c 0).toNat 0 + (2 * row.getD c 0 - 1)))) (by rw [ints_len, vtL_len]; omega) rfl rfl rfl
      rw [show min hp.length (hp.length + 1) = hp.length by omega] at hwt
      rw [ints_set] at hv4
      simp only [Nat.zero_add, Nat.mul_one] at g6 g7 hwt
      refine ⟨⟨hp4, hp.length, hp.length⟩, ?_, hp4, rfl, by omega, fun j hj => by rw [ho4 j hj]; exact ho2 j hj, hv4⟩
      simp only [g105_b0, hrl, forceB_eq, ltI_eq, lt_yes hc, cond_true, h1, h2, bindO_some, asI_i, p_faddr, Nat.zero_add, f1', g4, g5, g6, g7, meansX_call, cv, forceI_eq, asP_p, hwt]
      rw [wr_next (by omega)])
    (fun m hI => by simp only [g105_b0, hrl, forceB_eq, ltI_eq, lt_no, cond_false]) n 0 ⟨hc1, hp.length, hp.length⟩ (by omega) ⟨hc1, rfl, rfl, fun _ _ => rfl, dV⟩
  have e0 : ((0 : Nat) : Int) = 0 := rfl
  rw [e0] at hrun
  have kp3 : Keep hp hp3 := ⟨by omega, fun j hj => by rw [ho3 j (by omega), kc.2 j (by omega)]; exact kp.2 j hj⟩
  have hall := hv3.all (ro := ro) (l := hp.length) (p := hp.length) (n := 200) (by rw [ints_len, vtL_len])
  obtain ⟨vs, evs⟩ : ∃ vs, vs = vtL w row n := ⟨_, rfl⟩
  have hvl : vs.length = 200 := by rw [evs]; exact vtL_len _ _ _
  rw [← evs] at hall
  have hloop := loop_st (b := fun s : Int × Int => g105_b1 (meansX F1 ro) ro u (.agg (ints vs)) ⟨hp3, hp.length, hp.length⟩ s.1 s.2) (fun t => (accV vs t, (t : Int))) 200 (stopV vs n) (accV vs 200)
    (by simp only [g105_b1, forceB_eq, ltI_eq, show decide (((200 : Nat) : Int) < 200) = false from rfl, cond_false])
    (fun t ht => by
      have e1 : evP .e (.ixV 200 1 true (.c (.agg (ints vs))) (.c (.i .i64 (t : Int)))) = some (.i .i64 (vs.getD t 0)) := by
        have hblt : Nat.blt t 200 = true := by rw [Nat.blt_eq]; exact ht
        have en : ((t : Nat) : Int) = Int.ofNat t := rfl
        have hg : lget (ints vs) (t * 1) = some (.i .i64 (vs.getD t 0)) := by
          rw [Nat.mul_one, lget_eq]
          have := ints_get (w := vs) (j := t) (by omega)
          rw [List.getD_eq_getElem?_getD, List.getElem?_eq_getElem (by rw [ints_len]; omega)] at this
          rw [List.getElem?_eq_getElem (by rw [ints_len]; omega)]
          exact congrArg some this
        simp only [evP, ev_ixV, opd, en, hblt, cond_true, partA, if_true, hg]
      have hlt : decide ((t : Int) < 200) = true := dT (by omega)
      have hlen := len_row (row_by hu kp3)
      rw [hrl] at hlen
      have ea : accV vs (t + 1) = Go.Vm.wr .i64 (Go.Vm.wr .i64 (2 * accV vs t) + vs.getD t 0) := rfl
      simp only [g105_b1, forceB_eq, ltI_eq, hlt, cond_true, e1, bindO_some, asI_i, forceI_eq, mxT_eq, hlen, ← ea]
      unfold stopV
      by_cases hs : (n : Int) < max (accV vs (t + 1)) (Go.Vm.wr .i64 (0 - accV vs (t + 1)))
      · rw [if_pos hs, dT hs]; rfl
      · rw [if_neg hs, dF hs]
        simp only [cond_false]
        rw [wr_next (by omega)]) 200 0 rfl
  have hloop' : loopX (fun s : Int × Int => g105_b1 (meansX F1 ro) ro u (.agg (ints vs)) ⟨hp3, hp.length, hp.length⟩ s.1 s.2) (0, 0) = _ := hloop
  have cs := cp (F := F1) (l := hp.length) (p := hp.length) (side_ok (ro := ro) (h := hp3) (n := (firstS (stopV vs n) 200 0).getD (accV vs 200))) kp3.1 kp3.1
  unfold g105
  refine (bindP_of s1).trans ?_
  refine (bindP_of (show stepM ro ⟨hb1, hp.length, hp.length⟩ (.al 124 _) = some (.p (some ⟨false, hp.length + 1, 0⟩), ⟨hc1, hp.length, hp.length⟩) by rw [ec, ← hbl]; rfl)).trans ?_
  refine (bindO_of (len_row hu)).trans ?_
  refine asI_of.trans ?_
  refine (bindO_of hrun).trans ?_
  refine (bindO_of hall).trans ?_
  refine (bindO_of hloop').trans ?_
  refine (bindP_of cs).trans ?_
  refine asI_of.trans ?_
  unfold weighV
  rw [← evs]
  exact fin_keep kp3 rfl
end
end Go.Proofs.Ytageakoepjkkbaa.T

/- Weighing and the best expert; how often a halver can be wrong where one is never wrong. -/
open Go.Vm
set_option linter.unusedVariables false
namespace Go.Proofs.Ytageakoepjkkbaa.T
open Go

def mnL (w : List Int) : Nat → Int
  | 0 => w.getD 0 0
  | t + 1 => min (mnL w t) (w.getD (t + 1) 0)
section
variable {ro : List ABlk} {h hp : Heap} {a b u v v0 : AVal} {x : List (List Int)} {z y row w : List Int}

theorem Min_ok (ha : IsRow ro h a w) (hw1 : 1 ≤ w.length) (hw2 : w.length ≤ 1000) : callX F1 ro 54 [a] h = some (.i .i64 (mnL w (w.length - 1)), h, h.length, h.length) := by
  refine g54_ok (meansX_ok F1 ro) rfl ?_
  have hla := len_row ha
  obtain ⟨p0, a0, ald0⟩ := at_rowK ha (show 0 < w.length by omega)
  have a00 := (ald0 (l := h.length) (q := h.length) (Keep.refl h)).1
  have a0' : evP .e (.ixS 1 (.c a) (.c (.i .i64 0))) = some p0 := a0
  have hloop := loop_run (b := fun s : Int × Int => g54_b0 (meansX F1 ro) ro a ⟨h, h.length, h.length⟩ s.1 s.2) (fun i => (mnL w i, ((i + 1 : Nat) : Int))) (w.length - 1) (r0 := mnL w (w.length - 1))
    (by
      have : ((w.length - 1 + 1 : Nat) : Int) = (w.length : Int) := by omega
      simp only [g54_b0, hla, this, bindO_some, asI_i, forceB_eq, ltI_eq, lt_no, cond_false])
    (fun i hi => by
      obtain ⟨p1, a1, ald⟩ := at_rowK ha (show i + 1 < w.length by omega)
      have a2 := (ald (l := h.length) (q := h.length) (Keep.refl h)).1
      simp only [g54_b0, hla, bindO_some, asI_i, forceB_eq, ltI_eq, lt_yes (show i + 1 < w.length by omega), cond_true, a1, a2, forceI_eq, mxF_eq]
      rw [wr_next (by omega)]; rfl)
  have hloop' : loopX (fun s : Int × Int => g54_b0 (meansX F1 ro) ro a ⟨h, h.length, h.length⟩ s.1 s.2) (w.getD 0 0, 1) = _ := hloop
  unfold g54
  refine (bindO_of hla).trans ?_
  refine asI_of.trans ?_
  refine forceB_of.trans ?_
  refine (cond_of (show ltI (w.length : Int) 1 = false by rw [ltI_eq]; exact dF (by omega))).trans ?_
  refine (bindO_of a0').trans ?_
  refine (bindO_of a00).trans ?_
  refine asI_of.trans ?_
  refine (bindO_of hloop').trans ?_
  exact fin_pure rfl
/-- what Weighing answers: a forecast for each round, the numbers of mistakes -/
theorem Weighing_ok {n : Int} (ha : IsMat ro h a x) (hl : LenOk x) (hb : IsRow ro h b z) (hz : z.length ≤ 9223372036854775807) : ∃ v1 v2 h', callX F1 ro 23 [.i .i64 n, a, b] h = some (.tup [v1, v2, .i .i64 (recE n x z)], h', h.length, h.length) ∧ Keep h h' ∧
    (recE n x z = 0 → IsRow ro h' v1 (sayM (vsay x z n.toNat) x.length x.length) ∧ IsRow ro h' v2 (misL x z n.toNat x.length)) := by
  have go : ∀ o, g23 (meansX F1 ro) ro n a b ⟨h, h.length, h.length⟩ = some o → callX F1 ro 23 [.i .i64 n, a, b] h = some o := fun o ho => g23_ok (meansX_ok F1 ro) rfl ho
  have c0 := cp0 (checkRecord_ok (n := n) ha hl hb hz)
  by_cases hr : recE n x z = 0
  case neg =>
    have e : (!eqI (recE n x z) 0) = true := by rw [eqI_eq]; simpa using hr
    refine ⟨.nsl, .nsl, h, go _ ?_, Keep.refl h, fun h0 => absurd h0 hr⟩
    unfold g23
    refine (bindP_of c0).trans ?_
    refine asI_of.trans ?_
    refine forceB_of.trans ?_
    rw [e]
    exact fin_pure (by simp [tupA, AVal.bel, bels])
  obtain ⟨N, rfl, hN1, hN2, hT, hrows, hzb, hzl⟩ := rec_facts hr
  have e : (!eqI (recE (N : Int) x z) 0) = false := by rw [eqI_eq, hr]; rfl
  obtain ⟨hb1, eb⟩ : ∃ hb1, hb1 = h ++ [some (newBlk 3 (.i .i64 0) N)] := ⟨_, rfl⟩
  have kp : Keep h hb1 := by rw [eb]; exact Keep.app _
  have hbl : hb1.length = h.length + 1 := by rw [eb]; simp
  have dS : Holds hb1 h.length (ints (misL x z N 0)) := by rw [eb, misL_zero]; exact newInts h N
  have s1 := mk_ok (ro := ro) (hp := h) (l := h.length) (p := h.length) (e := 3) (es := 1) (bytes := 8) (v := .i .i64 0) (n := N) (by omega) (by omega)
  rw [← eb] at s1
  obtain ⟨hp', lw, c1, q1, q2, q3, q4, q5⟩ := listen_ok (ro := ro) (h := h) (hp := hb1) (v0 := .ifc 76 (.agg [wSl h.length N])) (n := N) (q := h.length) (T := x.length) (say := vsay x z N) (st := misL x z N) ha hb kp (Nat.le_refl _) rfl hzl hT dS
    (fun i hi hp' u hu hw => ⟨105, .agg [wSl h.length N], rfl, vforetell_ok hu (hrows i hi).2 (fun f hf => (hrows i hi).1 f (by have := (hrows i hi).2; omega)) (by omega) hw (misL_len _ _ _ _) (fun f hf => by rw [misL_get hf]; have := mis_le x z f i; omega)⟩)
    (fun i hi hp' u hu kh hw => by
      obtain ⟨hp'', lw, c, r1, r2, r3, r4⟩ := learn_ok (ro := ro) (h := h) (say := vsay x z N i) (told := z.getD i 0) hu kh (Nat.le_refl _) (hrows i hi).2 (by omega) hw (misL_len _ _ _ _) (fun f hf => by rw [misL_get hf]; have := mis_le x z f i; omega)
      rw [misL_next] at r4
      exact ⟨100, .agg [wSl h.length N], hp'', lw, rfl, c, r1, r2, r3, r4⟩)
    rfl
  have c2 := callM_eq (call := callX F1 ro) (m := ⟨hb1, h.length, h.length⟩) c1
  have m1 : min h.length lw = h.length := by omega
  have m2 : min h.length hb1.length = h.length := by omega
  rw [m1, m2] at c2
  have kp' : Keep h hp' := ⟨by omega, fun j hj => by rw [q3 j (by omega) (by omega)]; exact kp.2 j hj⟩
  have fl : (fillA [AVal.nsl] [((0, 1), wSl h.length N)]).map AVal.agg = some (.agg [wSl h.length N]) := rfl
  have fl2 : (fillA [AVal.nsl] [((0, 1), (AVal.agg [wSl h.length N]))]).map AVal.agg = some (.agg [wSl h.length N]) := rfl
  refine ⟨wSl hb1.length x.length, wSl h.length N, hp', go _ ?_, kp', fun _ => ⟨holds_ints q5 (sayM_len _ _ _), holds_ints q4 (misL_len _ _ _ _)⟩⟩
  unfold g23
  refine (bindP_of c0).trans ?_
  refine asI_of.trans ?_
  refine forceB_of.trans ?_
  refine (cond_of e).trans ?_
  refine (bindP_of s1).trans ?_
  refine (bindO_of fl).trans ?_
  refine (bindO_of fl2).trans ?_
  refine (bindO_of rfl).trans ?_
  refine (bindP_of c2).trans ?_
  rw [hr]
  exact fin_out (sl_nb (L := h.length) (b := hb1.length) (by omega))
end
end Go.Proofs.Ytageakoepjkkbaa.T

/- The specification's above. -/
open Go.Vm
set_option linter.unusedVariables false
namespace Go.Proofs.Ytageakoepjkkbaa.T
open Go
/-- the sum of digits, each twice as much as the next one -/
def horn (f : Nat → Int) : Nat → Int
  | 0 => 0
  | t + 1 => 2 * horn f t + f t
theorem horn_congr {f g : Nat → Int} : ∀ {s : Nat}, (∀ i, i < s → f i = g i) → horn f s = horn g s
  | 0, _ => rfl
  | s + 1, h => by simp only [horn, h s (by omega), horn_congr (s := s) fun i hi => h i (by omega)]
theorem horn_sub (f g : Nat → Int) : ∀ s, horn (fun i => f i - g i) s = horn f s - horn g s
  | 0 => by simp [horn]
  | s + 1 => by simp only [horn, horn_sub f g s]; omega
/-- what is above all that may come stays above it -/
theorem horn_up {f : Nat → Int} {n : Int} (hn : 0 ≤ n) {S : Nat} (hf : ∀ i, i < S → -n ≤ f i ∧ f i ≤ n) {t : Nat} (h : n < horn f t) : ∀ {s : Nat}, t ≤ s → s ≤ S → n < horn f s := by
  intro s hs hS
  induction s with
  | zero => obtain rfl : t = 0 := by omega
            exact h
  | succ s ih =>
    rcases Nat.lt_or_ge t (s + 1) with h1 | h1
    · have := ih (by omega) (by omega)
      have := hf s (by omega)
      simp only [horn]; omega
    · obtain rfl : t = s + 1 := by omega
      exact h
theorem horn_down {f : Nat → Int} {n : Int} (hn : 0 ≤ n) {S : Nat} (hf : ∀ i, i < S → -n ≤ f i ∧ f i ≤ n) {t : Nat} (h : horn f t < -n) : ∀ {s : Nat}, t ≤ s → s ≤ S → horn f s < -n := by
  intro s hs hS
  induction s with
  | zero => obtain rfl : t = 0 := by omega
            exact h
  | succ s ih =>
    rcases Nat.lt_or_ge t (s + 1) with h1 | h1
    · have := ih (by omega) (by omega)
      have := hf s (by omega)
      simp only [horn]; omega
    · obtain rfl : t = s + 1 := by omega
      exact h
/-- two of a digit are one of the next -/
theorem horn_carry {f g : Nat → Int} {i : Nat} {q : Int} (h1 : g i = f i + q) (h2 : g (i + 1) = f (i + 1) - 2 * q) (h3 : ∀ j, j ≠ i → j ≠ i + 1 → g j = f j) : ∀ {s : Nat}, i + 2 ≤ s → horn g s = horn f s := by
  intro s hs
  induction s with
  | zero => omega
  | succ s ih =>
    rcases Nat.lt_or_ge (i + 1) s with h | h
    · simp only [horn, ih (by omega), h3 s (by omega) (by omega)]
    · obtain rfl : s = i + 1 := by omega
      have : horn g i = horn f i := horn_congr fun j hj => h3 j (by omega) (by omega)
      simp only [horn, h1, h2, this]; omega
/-- digits that are 0 or 1 behind the first one: the first difference tells which is more -/
theorem horn_lex {a b : Nat → Int} {S i : Nat} (ha : ∀ j, 0 < j → j < S → 0 ≤ a j ∧ a j ≤ 1) (hb : ∀ j, 0 < j → j < S → 0 ≤ b j ∧ b j ≤ 1) (hi : i < S) (he : ∀ j, j < i → a j = b j) (hl : b i < a i) : horn b S < horn a S := by
  have h0 : horn b i = horn a i := (horn_congr he).symm
  have key : ∀ s, i + 1 ≤ s → s ≤ S → horn b s < horn a s := by
    intro s
    induction s with
    | zero => intro h; omega
    | succ s ih =>
      intro h1 h2
      rcases Nat.lt_or_ge i s with h | h
      · have := ih (by omega) (by omega)
        have := ha s (by omega) (by omega)
        have := hb s (by omega) (by omega)
        simp only [horn]; omega
      · obtain rfl : s = i := by omega
        simp only [horn]; omega
  exact key S (by omega) (Nat.le_refl _)
/-- the carries, from place i on -/
def carL (z : List Int) : Nat → List Int
  | 0 => z
  | i + 1 => carL ((z.set i (z.getD i 0 + z.getD (i + 1) 0 / 2)).set (i + 1) (z.getD (i + 1) 0 % 2)) i
theorem carL_len : ∀ (i : Nat) (z : List Int), (carL z i).length = z.length
  | 0, z => rfl
  | i + 1, z => by rw [carL, carL_len i]; simp
theorem getD_setI {z : List Int} {i j : Nat} {x : Int} (hj : j < z.length) : (z.set i x).getD j 0 = if i = j then x else z.getD j 0 := by
  rw [List.getD_eq_getElem?_getD, List.getElem?_set]
  by_cases h : i = j
  · subst h; simp [hj]
  · simp [h, List.getD_eq_getElem?_getD]
theorem carL_at {z : List Int} {i : Nat} (hi : i + 1 < z.length) (j : Nat) (hj : j < z.length) : ((z.set i (z.getD i 0 + z.getD (i + 1) 0 / 2)).set (i + 1) (z.getD (i + 1) 0 % 2)).getD j 0 = if j = i + 1 then z.getD (i + 1) 0 % 2 else if j = i then z.getD i 0 + z.getD (i + 1) 0 / 2 else z.getD j 0 := by
  rw [getD_setI (by simpa using hj), getD_setI hj]
  by_cases h1 : j = i + 1
  · subst h1; simp
  · by_cases h2 : j = i
    · subst h2; simp
    · rw [if_neg (by omega), if_neg (by omega), if_neg h1, if_neg h2]
theorem carL_horn : ∀ (i : Nat) (z : List Int), i < z.length → horn (fun j => (carL z i).getD j 0) z.length = horn (fun j => z.getD j 0) z.length
  | 0, z, _ => rfl
  | i + 1, z, hi => by
    have hz : ((z.set i (z.getD i 0 + z.getD (i + 1) 0 / 2)).set (i + 1) (z.getD (i + 1) 0 % 2)).length = z.length := by simp
    have ih := carL_horn i ((z.set i (z.getD i 0 + z.getD (i + 1) 0 / 2)).set (i + 1) (z.getD (i + 1) 0 % 2)) (by omega)
    rw [hz] at ih
    rw [carL, ih]
    have hg : horn (fun j => ((z.set i (z.getD i 0 + z.getD (i + 1) 0 / 2)).set (i + 1) (z.getD (i + 1) 0 % 2)).getD j 0) z.length = horn (fun j => if j = i + 1 then z.getD (i + 1) 0 % 2 else if j = i then z.getD i 0 + z.getD (i + 1) 0 / 2 else z.getD j 0) z.length := horn_congr fun j hj => carL_at hi j hj
    rw [hg]
    refine horn_carry (i := i) (q := z.getD (i + 1) 0 / 2) ?_ ?_ ?_ (by omega)
    · simp
    · have := Int.emod_add_mul_ediv (z.getD (i + 1) 0) 2
      simp only [if_true]
      omega
    · intro j h1 h2
      rw [if_neg h2, if_neg h1]
theorem carL_bits : ∀ (i : Nat) (z : List Int), i < z.length → (∀ j, i < j → j < z.length → 0 ≤ z.getD j 0 ∧ z.getD j 0 ≤ 1) → ∀ j, 0 < j → j < z.length → 0 ≤ (carL z i).getD j 0 ∧ (carL z i).getD j 0 ≤ 1
  | 0, z, _, h, j, h0, hj => h j h0 hj
  | i + 1, z, hi, h, j, h0, hj => by
    have hz : ((z.set i (z.getD i 0 + z.getD (i + 1) 0 / 2)).set (i + 1) (z.getD (i + 1) 0 % 2)).length = z.length := by simp
    rw [carL]
    refine carL_bits i _ (by omega) (fun k h1 hk => ?_) j h0 (by omega)
    rw [carL_at hi k (by omega)]
    by_cases a : k = i + 1
    · rw [if_pos a]; omega
    · rw [if_neg a, if_neg (by omega)]
      exact h k (by omega) (by omega)
/-- is the first list above the second, by the first difference? -/
def aboveL (a b : List Int) : Nat → Bool
  | 0 => false
  | k + 1 => if a.getD (a.length - (k + 1)) 0 = b.getD (a.length - (k + 1)) 0 then aboveL a b k else decide (b.getD (a.length - (k + 1)) 0 < a.getD (a.length - (k + 1)) 0)
theorem aboveL_horn {a b : List Int} (hl : b.length = a.length) (ha : ∀ j, 0 < j → j < a.length → 0 ≤ a.getD j 0 ∧ a.getD j 0 ≤ 1) (hb : ∀ j, 0 < j → j < a.length → 0 ≤ b.getD j 0 ∧ b.getD j 0 ≤ 1) :
    ∀ k, k ≤ a.length → (∀ j, j < a.length - k → a.getD j 0 = b.getD j 0) → aboveL a b k = decide (horn (fun j => b.getD j 0) a.length < horn (fun j => a.getD j 0) a.length)
  | 0, _, he => by
    have : horn (fun j => b.getD j 0) a.length = horn (fun j => a.getD j 0) a.length := horn_congr fun j hj => (he j (by omega)).symm
    rw [this]
    simp [aboveL]
  | k + 1, hk, he => by
    rw [aboveL]
    by_cases h : a.getD (a.length - (k + 1)) 0 = b.getD (a.length - (k + 1)) 0
    · rw [if_pos h]
      refine aboveL_horn hl ha hb k (by omega) fun j hj => ?_
      rcases Nat.lt_or_ge j (a.length - (k + 1)) with h1 | h1
      · exact he j h1
      · obtain rfl : j = a.length - (k + 1) := by omega
        exact h
    · rw [if_neg h]
      refine decide_eq_decide.2 ⟨fun h1 => horn_lex (i := a.length - (k + 1)) ha hb (by omega) he h1, fun h1 => ?_⟩
      by_cases h2 : b.getD (a.length - (k + 1)) 0 < a.getD (a.length - (k + 1)) 0
      · exact h2
      · have := horn_lex (a := fun j => b.getD j 0) (b := fun j => a.getD j 0) (i := a.length - (k + 1)) hb ha (by omega) (fun j hj => (he j hj).symm) (by show a.getD (a.length - (k + 1)) 0 < b.getD (a.length - (k + 1)) 0; omega)
        omega
/-- the votes of one side, by the number of mistakes -/
def cntV (w row : List Int) (x : Int) : Nat → List Int
  | 0 => List.replicate 201 0
  | k + 1 => if row.getD k 0 = x then (cntV w row x k).set (w.getD k 0).toNat ((cntV w row x k).getD (w.getD k 0).toNat 0 + 1) else cntV w row x k
theorem cntV_len (w row : List Int) (x : Int) : ∀ k, (cntV w row x k).length = 201
  | 0 => List.length_replicate
  | k + 1 => by
    rw [cntV]
    split
    · rw [List.length_set, cntV_len w row x k]
    · exact cntV_len w row x k
theorem cntV_rng (w row : List Int) (x : Int) : ∀ k j, j < 201 → 0 ≤ (cntV w row x k).getD j 0 ∧ (cntV w row x k).getD j 0 ≤ k
  | 0, j, hj => by
    rw [cntV, List.getD_eq_getElem?_getD, List.getElem?_replicate, if_pos hj]
    simp
  | k + 1, j, hj => by
    have h := cntV_rng w row x k j hj
    rw [cntV]
    split
    · rw [getD_setI (by rw [cntV_len]; exact hj)]
      split
      · rename_i he
        rw [he]; omega
      · omega
    · omega
/-- the specification's total -/
def totL (w row : List Int) (n : Nat) (x : Int) : List Int := carL (cntV w row x n) 200
/-- one side outweighs the other one -/
theorem tot_above (w row : List Int) (n : Nat) : aboveL (totL w row n 1) (totL w row n 0) 201 = decide (0 < horn (fun j => (cntV w row 1 n).getD j 0 - (cntV w row 0 n).getD j 0) 201) := by
  have l1 : (totL w row n 1).length = 201 := by unfold totL; rw [carL_len, cntV_len]
  have l0 : (totL w row n 0).length = 201 := by unfold totL; rw [carL_len, cntV_len]
  have hb : ∀ x j, 0 < j → j < 201 → 0 ≤ (totL w row n x).getD j 0 ∧ (totL w row n x).getD j 0 ≤ 1 := fun x j h0 hj => by
    unfold totL
    exact carL_bits 200 _ (by rw [cntV_len]; omega) (fun k h1 h2 => by rw [cntV_len] at h2; omega) j h0 (by rw [cntV_len]; exact hj)
  have h := aboveL_horn (a := totL w row n 1) (b := totL w row n 0) (by rw [l1, l0]) (by rw [l1]; exact hb 1) (by rw [l1]; exact hb 0) 201 (by omega) (fun j hj => by omega)
  rw [l1] at h
  rw [h]
  have e1 := carL_horn 200 (cntV w row 1 n) (by rw [cntV_len]; omega)
  have e0 := carL_horn 200 (cntV w row 0 n) (by rw [cntV_len]; omega)
  rw [cntV_len] at e1 e0
  rw [horn_sub]
  have e1' : horn (fun j => (totL w row n 1).getD j 0) 201 = horn (fun j => (cntV w row 1 n).getD j 0) 201 := e1
  have e0' : horn (fun j => (totL w row n 0).getD j 0) 201 = horn (fun j => (cntV w row 0 n).getD j 0) 201 := e0
  rw [e1', e0']
  exact decide_eq_decide.2 (by omega)
/-- the votes for, less those against -/
theorem cnt_diff {w row : List Int} (hb : ∀ k, k < row.length → row.getD k 0 = 0 ∨ row.getD k 0 = 1) : ∀ n, n ≤ row.length → (∀ k, k < n → 0 ≤ w.getD k 0 ∧ w.getD k 0 < 200) → (∀ j, j < 201 → -(n : Int) ≤ (cntV w row 1 n).getD j 0 - (cntV w row 0 n).getD j 0 ∧ (cntV w row 1 n).getD j 0 - (cntV w row 0 n).getD j 0 ≤ n) ∧ (cntV w row 1 n).getD 200 0 - (cntV w row 0 n).getD 200 0 = 0
  | 0, _, _ => by
    have e : cntV w row 1 0 = cntV w row 0 0 := rfl
    rw [e]
    exact ⟨fun j hj => by omega, by omega⟩
  | n + 1, hn, hw => by
    obtain ⟨h1, h2⟩ := cnt_diff hb n (by omega) fun k hk => hw k (by omega)
    have hwn := hw n (by omega)
    have hr := hb n (by omega)
    refine ⟨fun j hj => ?_, ?_⟩
    · have := h1 j hj
      have c1 := cntV_len w row 1 n
      have c0 := cntV_len w row 0 n
      rcases hr with hr | hr
      · rw [cntV, if_neg (by omega), cntV, if_pos hr, getD_setI (by omega)]
        split
        · rename_i he; rw [he]; omega
        · omega
      · rw [cntV, if_pos hr, cntV, if_neg (by omega), getD_setI (by omega)]
        split
        · rename_i he; rw [he]; omega
        · omega
    · have c1 := cntV_len w row 1 n
      have c0 := cntV_len w row 0 n
      rcases hr with hr | hr
      · rw [cntV, if_neg (by omega), cntV, if_pos hr, getD_setI (by omega), if_neg (by omega)]; exact h2
      · rw [cntV, if_pos hr, cntV, if_neg (by omega), getD_setI (by omega), if_neg (by omega)]; exact h2
theorem vt_cnt {w row : List Int} (hb : ∀ k, k < row.length → row.getD k 0 = 0 ∨ row.getD k 0 = 1) : ∀ n, n ≤ row.length → n ≤ 100 → (∀ k, k < n → 0 ≤ w.getD k 0 ∧ w.getD k 0 < 200) → ∀ j, j < 200 → (vtL w row n).getD j 0 = (cntV w row 1 n).getD j 0 - (cntV w row 0 n).getD j 0
  | 0, _, _, _, j, hj => by
    have e : cntV w row 1 0 = cntV w row 0 0 := rfl
    rw [e, vtL, zeros, List.getD_eq_getElem?_getD, List.getElem?_replicate, if_pos hj]
    simp
  | n + 1, hn, h1, hw, j, hj => by
    have ih := vt_cnt hb n (by omega) (by omega) fun k hk => hw k (by omega)
    have hwn := hw n (by omega)
    have hr := hb n (by omega)
    have hd := (cnt_diff hb n (by omega) fun k hk => hw k (by omega)).1
    have c1 := cntV_len w row 1 n
    have c0 := cntV_len w row 0 n
    have cv := vtL_len w row n
    have e1 := ih (w.getD n 0).toNat (by omega)
    have e2 := hd (w.getD n 0).toNat (by omega)
    have e3 := ih j hj
    rw [vtL, getD_setI (by omega)]
    rw [wr_id' (by omega) (by omega)]
    rcases hr with hr | hr
    · have f1 : cntV w row 1 (n + 1) = cntV w row 1 n := by rw [cntV, if_neg (by omega)]
      have f0 : cntV w row 0 (n + 1) = (cntV w row 0 n).set (w.getD n 0).toNat ((cntV w row 0 n).getD (w.getD n 0).toNat 0 + 1) := by rw [cntV, if_pos hr]
      rw [f1, f0, hr, getD_setI (z := cntV w row 0 n) (by omega)]
      split
      · rename_i he
        rw [← he]; omega
      · exact e3
    · have f1 : cntV w row 1 (n + 1) = (cntV w row 1 n).set (w.getD n 0).toNat ((cntV w row 1 n).getD (w.getD n 0).toNat 0 + 1) := by rw [cntV, if_pos hr]
      have f0 : cntV w row 0 (n + 1) = cntV w row 0 n := by rw [cntV, if_neg (by omega)]
      rw [f1, f0, hr, getD_setI (z := cntV w row 1 n) (by omega)]
      split
      · rename_i he
        rw [← he]; omega
      · exact e3
theorem acc_horn {vs : List Int} {n : Nat} (hn : n ≤ 100) (hv : ∀ j, j < 200 → -(n : Int) ≤ vs.getD j 0 ∧ vs.getD j 0 ≤ n) : ∀ t, t ≤ 200 → (∀ s, s < t → stopV vs n s = none) → accV vs t = horn (fun j => vs.getD j 0) t ∧ -(n : Int) ≤ horn (fun j => vs.getD j 0) t ∧ horn (fun j => vs.getD j 0) t ≤ n
  | 0, _, _ => ⟨rfl, by show -(n : Int) ≤ 0; omega, by show (0 : Int) ≤ n; omega⟩
  | t + 1, ht, hs => by
    obtain ⟨h1, h2, h3⟩ := acc_horn hn hv t (by omega) fun s h => hs s (by omega)
    have hd := hv t (by omega)
    have e : accV vs (t + 1) = horn (fun j => vs.getD j 0) (t + 1) := by
      simp only [accV, horn]
      rw [h1, wr_id' (x := 2 * horn (fun j => vs.getD j 0) t) (by omega) (by omega), wr_id' (by omega) (by omega)]
    have hst := hs t (by omega)
    unfold stopV at hst
    have hb : -(1000 : Int) ≤ horn (fun j => vs.getD j 0) (t + 1) ∧ horn (fun j => vs.getD j 0) (t + 1) ≤ 1000 := by simp only [horn]; omega
    rw [e, wr_id' (by omega) (by omega)] at hst
    split at hst
    · cases hst
    · rename_i hm
      exact ⟨e, by omega, by omega⟩
theorem weigh_horn {w row : List Int} {n : Nat} (hn : n ≤ 100) (hv : ∀ j, j < 200 → -(n : Int) ≤ (vtL w row n).getD j 0 ∧ (vtL w row n).getD j 0 ≤ n) : weighV w row n = if 0 < horn (fun j => (vtL w row n).getD j 0) 200 then 1 else 0 := by
  unfold weighV sideV
  cases hf : firstS (stopV (vtL w row n) n) 200 0 with
  | none =>
    have h := firstS_none.1 hf
    have := (acc_horn hn hv 200 (Nat.le_refl _) fun s hs => h s (by omega) (by omega)).1
    rw [Option.getD_none, this]
  | some r =>
    obtain ⟨j, -, j2, j3, j4⟩ := firstS_some hf
    have j2 : j < 200 := by omega
    obtain ⟨h1, h2, h3⟩ := acc_horn hn hv j (by omega) fun s hs => j4 s (by omega) hs
    have hd := hv j j2
    have e : accV (vtL w row n) (j + 1) = horn (fun j => (vtL w row n).getD j 0) (j + 1) := by
      simp only [accV, horn]
      rw [h1, wr_id' (x := 2 * horn (fun j => (vtL w row n).getD j 0) j) (by omega) (by omega), wr_id' (by omega) (by omega)]
    have hb : -(1000 : Int) ≤ horn (fun j => (vtL w row n).getD j 0) (j + 1) ∧ horn (fun j => (vtL w row n).getD j 0) (j + 1) ≤ 1000 := by simp only [horn]; omega
    unfold stopV at j3
    rw [e, wr_id' (by omega) (by omega)] at j3
    split at j3
    · rename_i hm
      cases j3
      rw [Option.getD_some]
      have hup := fun h => horn_up (f := fun j => (vtL w row n).getD j 0) (n := (n : Int)) (by omega) (S := 200) hv (t := j + 1) h (s := 200) (by omega) (Nat.le_refl _)
      have hdn := fun h => horn_down (f := fun j => (vtL w row n).getD j 0) (n := (n : Int)) (by omega) (S := 200) hv (t := j + 1) h (s := 200) (by omega) (Nat.le_refl _)
      by_cases hp : (n : Int) < horn (fun j => (vtL w row n).getD j 0) (j + 1)
      · have := hup hp
        rw [if_pos (by omega), if_pos (by omega)]
      · have := hdn (by omega)
        rw [if_neg (by omega), if_neg (by omega)]
    · cases j3
/-- the weigher says what the specification's totals say -/
theorem weigh_above {w row : List Int} {n : Nat} (hb : ∀ k, k < row.length → row.getD k 0 = 0 ∨ row.getD k 0 = 1) (hl : n ≤ row.length) (hn : n ≤ 100) (hw : ∀ k, k < n → 0 ≤ w.getD k 0 ∧ w.getD k 0 < 200) : weighV w row n = if aboveL (totL w row n 1) (totL w row n 0) 201 = true then 1 else 0 := by
  have hc := vt_cnt hb n hl hn hw
  obtain ⟨hd, h0⟩ := cnt_diff hb n hl hw
  rw [weigh_horn hn fun j hj => by rw [hc j hj]; exact hd j (by omega), tot_above]
  have e : horn (fun j => (vtL w row n).getD j 0) 200 = horn (fun j => (cntV w row 1 n).getD j 0 - (cntV w row 0 n).getD j 0) 200 := horn_congr fun j hj => hc j hj
  have e2 : horn (fun j => (cntV w row 1 n).getD j 0 - (cntV w row 0 n).getD j 0) 201 = 2 * horn (fun j => (cntV w row 1 n).getD j 0 - (cntV w row 0 n).getD j 0) 200 + ((cntV w row 1 n).getD 200 0 - (cntV w row 0 n).getD 200 0) := rfl
  rw [e, e2, h0]
  by_cases h : 0 < horn (fun j => (cntV w row 1 n).getD j 0 - (cntV w row 0 n).getD j 0) 200
  · rw [if_pos h, if_pos (decide_eq_true (by omega))]
  · rw [if_neg h, if_neg (by rw [decide_eq_true_eq]; omega)]
theorem horn_one {f g : Nat → Int} {i : Nat} (h1 : g i = f i + 1) (h2 : ∀ j, j ≠ i → g j = f j) : ∀ s, i < s → horn g s = horn f s + 2 ^ (s - 1 - i)
  | 0, h => by omega
  | s + 1, h => by
    rcases Nat.lt_or_ge i s with h3 | h3
    · have ih := horn_one h1 h2 s h3
      simp only [horn, ih, h2 s (by omega)]
      rw [show s + 1 - 1 - i = s - 1 - i + 1 by omega, Int.pow_succ]
      omega
    · obtain rfl : s = i := by omega
      have : horn g s = horn f s := horn_congr fun j hj => h2 j (by omega)
      simp only [horn, this, h1]
      rw [show s + 1 - 1 - s = 0 by omega]
      simp; omega
/-- the weight of a foreteller, times 2^200 -/
def pwV (w : List Int) (k : Nat) : Int := 2 ^ (200 - (w.getD k 0).toNat)
def sdV (w row : List Int) (x : Int) : Nat → Int
  | 0 => 0
  | k + 1 => sdV w row x k + if row.getD k 0 = x then pwV w k else 0
def ttV (w : List Int) : Nat → Int
  | 0 => 0
  | k + 1 => ttV w k + pwV w k
theorem pwV_pos (w : List Int) (k : Nat) : 0 < pwV w k := Int.pow_pos (by omega)
theorem horn_cnt {w row : List Int} {x : Int} : ∀ n, (∀ k, k < n → 0 ≤ w.getD k 0 ∧ w.getD k 0 < 200) → horn (fun j => (cntV w row x n).getD j 0) 201 = sdV w row x n
  | 0, _ => by
    have h0 : ∀ s, s ≤ 201 → horn (fun j => (cntV w row x 0).getD j 0) s = 0 := by
      intro s
      induction s with
      | zero => intro _; rfl
      | succ s ih =>
        intro hs
        have : (cntV w row x 0).getD s 0 = 0 := by
          rw [cntV, List.getD_eq_getElem?_getD, List.getElem?_replicate, if_pos (by omega)]; rfl
        simp only [horn, ih (by omega), this]; rfl
    exact h0 201 (Nat.le_refl _)
  | n + 1, hw => by
    have ih := horn_cnt (row := row) (x := x) n fun k hk => hw k (by omega)
    have hwn := hw n (by omega)
    have cl := cntV_len w row x n
    rw [sdV]
    by_cases hr : row.getD n 0 = x
    · rw [if_pos hr, ← ih]
      have e : cntV w row x (n + 1) = (cntV w row x n).set (w.getD n 0).toNat ((cntV w row x n).getD (w.getD n 0).toNat 0 + 1) := by rw [cntV, if_pos hr]
      have e2 : ∀ s, s ≤ 201 → horn (fun j => (cntV w row x (n + 1)).getD j 0) s = horn (fun j => if j = (w.getD n 0).toNat then (cntV w row x n).getD (w.getD n 0).toNat 0 + 1 else (cntV w row x n).getD j 0) s := fun s hs => horn_congr fun j hj => by
        rw [e, getD_setI (by omega)]
        by_cases h : j = (w.getD n 0).toNat
        · rw [if_pos h.symm, if_pos h]
        · rw [if_neg (fun k => h k.symm), if_neg h]
      rw [e2 201 (Nat.le_refl _)]
      have := horn_one (f := fun j => (cntV w row x n).getD j 0) (g := fun j => if j = (w.getD n 0).toNat then (cntV w row x n).getD (w.getD n 0).toNat 0 + 1 else (cntV w row x n).getD j 0) (i := (w.getD n 0).toNat) (if_pos rfl) (fun j hj => if_neg hj) 201 (by omega)
      rw [this]
      rfl
    · rw [if_neg hr, ← ih]
      have e : cntV w row x (n + 1) = cntV w row x n := by rw [cntV, if_neg hr]
      rw [e]; omega
/-- the weigher says what weighs more -/
theorem weigh_sides {w row : List Int} {n : Nat} (hb : ∀ k, k < row.length → row.getD k 0 = 0 ∨ row.getD k 0 = 1) (hl : n ≤ row.length) (hn : n ≤ 100) (hw : ∀ k, k < n → 0 ≤ w.getD k 0 ∧ w.getD k 0 < 200) : weighV w row n = if sdV w row 0 n < sdV w row 1 n then 1 else 0 := by
  rw [weigh_above hb hl hn hw, tot_above, horn_sub, horn_cnt n hw, horn_cnt n hw]
  by_cases h : sdV w row 0 n < sdV w row 1 n
  · rw [if_pos h, if_pos (decide_eq_true (by omega))]
  · rw [if_neg h, if_neg (by rw [decide_eq_true_eq]; omega)]
theorem sides_all {w row : List Int} : ∀ n, (∀ k, k < n → row.getD k 0 = 0 ∨ row.getD k 0 = 1) → ttV w n = sdV w row 0 n + sdV w row 1 n
  | 0, _ => rfl
  | n + 1, hb => by
    have ih := sides_all (w := w) n fun k hk => hb k (by omega)
    rw [ttV, sdV, sdV, ih]
    rcases hb n (by omega) with h | h
    · rw [if_pos h, if_neg (by omega)]; omega
    · rw [if_neg (by omega), if_pos h]; omega
/-- those who were wrong have half their weight -/
theorem learn_half {w w' row : List Int} {z : Int} (hz : z = 0 ∨ z = 1) : ∀ n, (∀ k, k < n → row.getD k 0 = 0 ∨ row.getD k 0 = 1) → (∀ k, k < n → 0 ≤ w.getD k 0 ∧ w.getD k 0 < 200) → (∀ k, k < n → w'.getD k 0 = if row.getD k 0 = z then w.getD k 0 else w.getD k 0 + 1) → 2 * ttV w' n = 2 * sdV w row z n + sdV w row (1 - z) n
  | 0, _, _, _ => by simp [ttV, sdV]
  | n + 1, hb, hw, hs => by
    have ih := learn_half hz n (fun k hk => hb k (by omega)) (fun k hk => hw k (by omega)) fun k hk => hs k (by omega)
    have hwn := hw n (by omega)
    have hsn := hs n (by omega)
    rw [ttV, sdV, sdV]
    by_cases h : row.getD n 0 = z
    · rw [if_pos h] at hsn
      rw [if_pos h, if_neg (by omega)]
      have : pwV w' n = pwV w n := by unfold pwV; rw [hsn]
      rw [this]; omega
    · rw [if_neg h] at hsn
      have hr : row.getD n 0 = 1 - z := by rcases hb n (by omega) with h1 | h1 <;> rcases hz with h2 | h2 <;> omega
      rw [if_neg h, if_pos hr]
      have : pwV w n = 2 * pwV w' n := by
        unfold pwV
        rw [hsn, show (w.getD n 0 + 1).toNat = (w.getD n 0).toNat + 1 by omega, show 200 - (w.getD n 0).toNat = 200 - ((w.getD n 0).toNat + 1) + 1 by omega, Int.pow_succ]
        omega
      omega
theorem sd_pos (w row : List Int) (x : Int) : ∀ n, 0 ≤ sdV w row x n
  | 0 => Int.le_refl _
  | n + 1 => by
    have := sd_pos w row x n
    have := pwV_pos w n
    rw [sdV]
    split <;> omega
/-- a night: all weights together get no more, and where the weigher was wrong, three quarters at most -/
theorem night {w w' row : List Int} {z : Int} {n : Nat} (hz : z = 0 ∨ z = 1) (hb : ∀ k, k < row.length → row.getD k 0 = 0 ∨ row.getD k 0 = 1) (hl : n ≤ row.length) (hn : n ≤ 100) (hw : ∀ k, k < n → 0 ≤ w.getD k 0 ∧ w.getD k 0 < 200) (hs : ∀ k, k < n → w'.getD k 0 = if row.getD k 0 = z then w.getD k 0 else w.getD k 0 + 1) :
    ttV w' n ≤ ttV w n ∧ (weighV w row n ≠ z → 4 * ttV w' n ≤ 3 * ttV w n) := by
  have h1 := learn_half hz n (fun k hk => hb k (by omega)) hw hs
  have h2 := sides_all (w := w) n fun k hk => hb k (by omega)
  have p0 := sd_pos w row 0 n
  have p1 := sd_pos w row 1 n
  have hv := weigh_sides hb hl hn hw
  rcases hz with rfl | rfl
  · have e : (1 : Int) - 0 = 1 := rfl
    rw [e] at h1
    refine ⟨by omega, fun hne => ?_⟩
    by_cases h : sdV w row 0 n < sdV w row 1 n
    · omega
    · rw [if_neg h] at hv; exact absurd hv hne
  · have e : (1 : Int) - 1 = 0 := rfl
    rw [e] at h1
    refine ⟨by omega, fun hne => ?_⟩
    by_cases h : sdV w row 0 n < sdV w row 1 n
    · rw [if_pos h] at hv; exact absurd hv hne
    · omega
/-- how often a series was wrong -/
def wrgN (said : Nat → Int) (z : Nat → Int) : Nat → Nat
  | 0 => 0
  | i + 1 => wrgN said z i + if said i = z i then 0 else 1
theorem tt_first {w : List Int} : ∀ n, (∀ k, k < n → w.getD k 0 = 0) → ttV w n = n * 2 ^ 200
  | 0, _ => by simp [ttV]
  | n + 1, h => by
    have ih := tt_first n fun k hk => h k (by omega)
    have e : pwV w n = 2 ^ 200 := by unfold pwV; rw [h n (by omega)]; rfl
    rw [ttV, ih, e, Int.natCast_add, Int.add_mul]
    omega
/-- the weigher is not wrong much more often than any foreteller: 4^m is at most n 2^own 3^m -/
theorem weights {W : Nat → List Int} {rows : Nat → List Int} {z : Nat → Int} {n T : Nat} (hT : T ≤ 200) (hn : n ≤ 100) (hz : ∀ i, i < T → z i = 0 ∨ z i = 1) (hb : ∀ i, i < T → ∀ k, k < (rows i).length → (rows i).getD k 0 = 0 ∨ (rows i).getD k 0 = 1) (hl : ∀ i, i < T → n ≤ (rows i).length)
    (h0 : ∀ k, k < n → (W 0).getD k 0 = 0) (hs : ∀ i, i < T → ∀ k, k < n → (W (i + 1)).getD k 0 = if (rows i).getD k 0 = z i then (W i).getD k 0 else (W i).getD k 0 + 1) :
    ∀ i, i ≤ T → (∀ k, k < n → 0 ≤ (W i).getD k 0 ∧ (W i).getD k 0 ≤ i) ∧ 4 ^ wrgN (fun i => weighV (W i) (rows i) n) z i * ttV (W i) n ≤ 3 ^ wrgN (fun i => weighV (W i) (rows i) n) z i * (n * 2 ^ 200)
  | 0, _ => by
    refine ⟨fun k hk => by rw [h0 k hk]; omega, ?_⟩
    simp only [wrgN, tt_first n h0]
    omega
  | i + 1, hi => by
    obtain ⟨h1, h2⟩ := weights hT hn hz hb hl h0 hs i (by omega)
    have hw : ∀ k, k < n → 0 ≤ (W i).getD k 0 ∧ (W i).getD k 0 < 200 := fun k hk => by have := h1 k hk; omega
    obtain ⟨n1, n2⟩ := night (hz i (by omega)) (hb i (by omega)) (hl i (by omega)) hn hw (hs i (by omega))
    refine ⟨fun k hk => ?_, ?_⟩
    · have := h1 k hk
      rw [hs i (by omega) k hk]
      split <;> omega
    · have p4 : (0 : Int) ≤ 4 ^ wrgN (fun i => weighV (W i) (rows i) n) z i := Int.le_of_lt (Int.pow_pos (by omega))
      rw [wrgN]
      by_cases h : weighV (W i) (rows i) n = z i
      · rw [if_pos h, Nat.add_zero]
        exact Int.le_trans (Int.mul_le_mul_of_nonneg_left n1 p4) h2
      · rw [if_neg h, Int.pow_succ, Int.pow_succ, Int.mul_assoc, Int.mul_assoc]
        have a := Int.mul_le_mul_of_nonneg_left (n2 h) p4
        have e : (4 : Int) ^ wrgN (fun i => weighV (W i) (rows i) n) z i * (3 * ttV (W i) n) = 3 * (4 ^ wrgN (fun i => weighV (W i) (rows i) n) z i * ttV (W i) n) := by rw [← Int.mul_assoc, Int.mul_comm _ 3, Int.mul_assoc]
        have e2 : (3 : Int) ^ wrgN (fun i => weighV (W i) (rows i) n) z i * (3 * (n * 2 ^ 200)) = 3 * (3 ^ wrgN (fun i => weighV (W i) (rows i) n) z i * (n * 2 ^ 200)) := by rw [← Int.mul_assoc, Int.mul_comm _ 3, Int.mul_assoc]
        rw [e] at a
        rw [e2]
        omega
def abvS (a b : List Int) (i : Nat) : Option (Unit ⊕ Bool) := if a.getD i 0 = b.getD i 0 then none else some (.inr (decide (b.getD i 0 < a.getD i 0)))
theorem abv_first (a b : List Int) : ∀ k, k ≤ a.length → ∃ o, (firstS (abvS a b) k (a.length - k)).getD (.inl ()) = o ∧ (match o with | .inl _ => false | .inr c => c) = aboveL a b k
  | 0, _ => ⟨_, rfl, rfl⟩
  | k + 1, hk => by
    obtain ⟨o, h1, h2⟩ := abv_first a b k (by omega)
    unfold firstS abvS aboveL
    by_cases h : a.getD (a.length - (k + 1)) 0 = b.getD (a.length - (k + 1)) 0
    · rw [if_pos h, if_pos h]
      refine ⟨o, ?_, h2⟩
      rw [show a.length - (k + 1) + 1 = a.length - k by omega]
      exact h1
    · rw [if_neg h, if_neg h]
      exact ⟨_, rfl, rfl⟩
theorem above52 {ro : List ABlk} {h : Heap} {u v : AVal} {a b : List Int} (ra : IsRow ro h u a) (rb : IsRow ro h v b) (hl : b.length = a.length) (ha : a.length ≤ 1000) : callX F1 ro 52 [u, v] h = some (.b (aboveL a b a.length), h, h.length, h.length) := by
  refine g52_ok (meansX_ok F1 ro) rfl ?_
  unfold g52
  have hloop := loop_st (b := fun s => g52_b0 (meansX F1 ro) ro u v ⟨h, h.length, h.length⟩ s) (fun i => (i : Int)) a.length (abvS a b) (.inl ()) ?_ ?_ a.length 0 (by omega)
  · have e0 : ((0 : Nat) : Int) = 0 := rfl
    obtain ⟨o, h1, h2⟩ := abv_first a b a.length (Nat.le_refl _)
    rw [Nat.sub_self] at h1
    rw [e0, h1] at hloop
    rw [← h2]
    simp only [meansX_loop, hloop, bindO_some]
    cases o with
    | inl x => exact fin_pure rfl
    | inr c => exact fin_pure rfl
  · simp only [g52_b0, len_row ra, bindO_some, asI_i, forceB_eq, ltI_eq, lt_no, cond_false]
  · intro i hi
    obtain ⟨p, h1, h2, h3⟩ := at_row (m := ⟨h, h.length, h.length⟩) rfl ra hi
    obtain ⟨p', h1', h2', h3'⟩ := at_row (m := ⟨h, h.length, h.length⟩) rfl rb (by omega : i < b.length)
    have hw : Go.Vm.wr .i64 ((i : Int) + 1) = ((i + 1 : Nat) : Int) := by rw [wr_id' (by omega) (by omega)]; omega
    unfold abvS
    by_cases hc : a.getD i 0 = b.getD i 0
    · have e : (!(a.getD i 0 == b.getD i 0)) = false := by simpa using hc
      simp only [g52_b0, len_row ra, bindO_some, asI_i, forceB_eq, ltI_eq, lt_yes hi, cond_true, h1, h3, h1', h3', eqI_eq, e, cond_false, forceI_eq, hw, if_pos hc]
    · have e : (!(a.getD i 0 == b.getD i 0)) = true := by simpa using hc
      simp only [g52_b0, len_row ra, bindO_some, asI_i, forceB_eq, ltI_eq, lt_yes hi, cond_true, h1, h3, h1', h3', eqI_eq, e, if_neg hc]
end Go.Proofs.Ytageakoepjkkbaa.T

/- The specification's total. -/
open Go.Vm
set_option linter.unusedVariables false
namespace Go.Proofs.Ytageakoepjkkbaa.T
open Go
theorem fin_newW {hp : Heap} {v : AVal} {L l p : Nat} (hb : v.bel L = false) : finM L v ⟨hp, l, p⟩ = some (v, hp, l, p) := by
  simp only [finM, gc, hb, Bool.and_false, Bool.false_eq_true, if_false]
theorem carry53 {ro : List ABlk} {h : Heap} : ∀ (i : Nat) (hp : Heap) (z : List Int), i < 201 → z.length = 201 → (∀ j, j < i → 0 ≤ z.getD j 0 ∧ z.getD j 0 ≤ 100) → (0 ≤ z.getD i 0 ∧ z.getD i 0 ≤ 200) → Keep h hp → hp.length = h.length + 1 → Holds hp h.length (ints z) →
    ∃ hp', loopX (fun s : Int × Mm => g53_b2 (meansX F1 ro) ro (.sl ⟨false, h.length, 0⟩ 201 (.known 201)) s.1 s.2) ((i : Int), ⟨hp, h.length, h.length⟩) = some ⟨hp', h.length, h.length⟩ ∧ Keep h hp' ∧ hp'.length = h.length + 1 ∧ Holds hp' h.length (ints (carL z i))
  | 0, hp, z, hi, hz, hb, hc, kp, hl, d => by
    have e0 : ((0 : Nat) : Int) = 0 := rfl
    refine ⟨hp, loopX_out ?_, kp, hl, d⟩
    have e : decide ((0 : Int) < 0) = false := rfl
    simp only [g53_b2, forceB_eq, ltI_eq, e0, e, cond_false]
  | i + 1, hp, z, hi, hz, hb, hc, kp, hl, d => by
    have hbi := hb i (by omega)
    have hlt : decide ((0 : Int) < ((i + 1 : Nat) : Int)) = true := decide_eq_true (by omega)
    have hw1 : Go.Vm.wr .i64 (((i + 1 : Nat) : Int) - 1) = (i : Int) := by rw [wr_id' (by omega) (by omega)]; omega
    have ix0 := ixS_eq (q := ⟨false, h.length, 0⟩) (cap := .known 201) (show i < 201 by omega)
    have ix1 := ixS_eq (q := ⟨false, h.length, 0⟩) (cap := .known 201) (show i + 1 < 201 by omega)
    have a0 := d.oneA (ro := ro) (k := i) (by rw [ints_len]; omega)
    have a1 := d.oneA (ro := ro) (k := i + 1) (by rw [ints_len]; omega)
    rw [ints_get (by omega)] at a0 a1
    have td : Int.tdiv (z.getD (i + 1) 0) 2 = z.getD (i + 1) 0 / 2 := Int.tdiv_eq_ediv_of_nonneg hc.1
    have tm : Int.tmod (z.getD (i + 1) 0) 2 = z.getD (i + 1) 0 % 2 := Int.tmod_eq_emod_of_nonneg hc.1
    have w2 : Go.Vm.wr .i64 (z.getD (i + 1) 0 / 2) = z.getD (i + 1) 0 / 2 := wr_id' (by omega) (by omega)
    have w3 : Go.Vm.wr .i64 (z.getD i 0 + z.getD (i + 1) 0 / 2) = z.getD i 0 + z.getD (i + 1) 0 / 2 := wr_id' (by omega) (by omega)
    obtain ⟨hp1, t1, t2, t3, t4⟩ := d.wrG (ro := ro) (l := h.length) (p := h.length) (k := i) (v := .i .i64 (z.getD i 0 + z.getD (i + 1) 0 / 2)) (by rw [ints_len]; omega) rfl rfl rfl
    rw [Nat.min_self] at t1
    rw [ints_set] at t2
    have b1 := t2.one (ro := ro) (l := h.length) (p := h.length) (k := i + 1) (by rw [ints_len]; simp; omega)
    rw [ints_get (by simp; omega), getD_setI (by omega), if_neg (by omega)] at b1
    obtain ⟨hp2, u1, u2, u3, u4⟩ := t2.setG (ro := ro) (l := h.length) (p := h.length) (k := i + 1) (v := .i .i64 (z.getD (i + 1) 0 % 2)) (by rw [ints_len]; simp; omega) rfl rfl rfl
    rw [Nat.min_self] at u1
    rw [ints_set] at u2
    obtain ⟨hp', l1, l2, l3, l4⟩ := carry53 (ro := ro) (h := h) i hp2 _ (by omega) (by simp; omega) (fun j hj => by
      rw [carL_at (by omega) j (by omega), if_neg (by omega), if_neg (by omega)]
      exact hb j (by omega)) (by
      rw [carL_at (by omega) i (by omega), if_neg (by omega), if_pos rfl]; omega) ⟨by omega, fun j hj => by rw [u4 j (by omega), t4 j (by omega)]; exact kp.2 j hj⟩ (by omega) u2
    refine ⟨hp', loopX_on ?_ l1, l2, l3, by rw [carL]; exact l4⟩
    simp only [g53_b2, forceB_eq, ltI_eq, hlt, cond_true, forceI_eq, hw1, ix0, ix1, bindO_some, a0, a1, asI_i, td, w2, w3, asP_p, t1, b1, tm, u1, bindP_some]
theorem total53 {ro : List ABlk} {h : Heap} {u v : AVal} {w row : List Int} {n : Nat} {x : Int} (rw' : IsRow ro h u w) (rr : IsRow ro h v row) (hwl : w.length = n) (hrl : row.length = n) (hn : n ≤ 100) (hw : ∀ k, k < n → 0 ≤ w.getD k 0 ∧ w.getD k 0 < 200) :
    ∃ hp, callX F1 ro 53 [u, v, .i .i64 x] h = some (.sl ⟨false, h.length, 0⟩ 201 (.known 201), hp, h.length, h.length) ∧ Keep h hp ∧ Holds hp h.length (ints (totL w row n x)) ∧ hp.length = h.length + 1 := by
  obtain ⟨N, hN⟩ : ∃ N, N = 201 := ⟨_, rfl⟩
  have s1 := mk_ok (ro := ro) (hp := h) (l := h.length) (p := h.length) (e := 3) (es := 1) (bytes := 8) (v := .i .i64 0) (n := N) (by omega) (by omega)
  rw [hN] at s1
  obtain ⟨h1, e1⟩ : ∃ h1, h1 = h ++ [some (newBlk 3 (AVal.i .i64 0) 201)] := ⟨_, rfl⟩
  have s1' : stepM ro ⟨h, h.length, h.length⟩ (.mk 3 1 8 [(AVal.i IntKind.i64 0)] (.c (.i .i64 201)) (.c (.i .i64 201))) = some (.sl ⟨false, h.length, 0⟩ 201 (.known 201), ⟨h1, h.length, h.length⟩) := by rw [e1]; exact s1
  have k1 : Keep h h1 := by rw [e1]; exact Keep.app _
  have l1 : h1.length = h.length + 1 := by rw [e1]; simp
  have d1 : Holds h1 h.length (ints (cntV w row x 0)) := by rw [e1]; exact newInts h 201
  obtain ⟨m', hrun, hp2, rfl, hl2, k2, d2⟩ := loop_all (b := fun s : Int × Mm => g53_b0 (meansX F1 ro) ro u v x (.sl ⟨false, h.length, 0⟩ 201 (.known 201)) s.1 s.2) n
    (fun c m => ∃ hp, m = ⟨hp, h.length, h.length⟩ ∧ hp.length = h.length + 1 ∧ Keep h hp ∧ Holds hp h.length (ints (cntV w row x c)))
    (fun c m hc hI => by
      obtain ⟨hp, rfl, hl, kp, d⟩ := hI
      obtain ⟨p, p1, p2, p3⟩ := at_row (m := ⟨hp, h.length, h.length⟩) rfl (row_by rr kp) (show c < row.length by omega)
      obtain ⟨q, q1, q2, q3⟩ := at_row (m := ⟨hp, h.length, h.length⟩) rfl (row_by rw' kp) (show c < w.length by omega)
      have hwn : Go.Vm.wr .i64 ((c : Int) + 1) = ((c + 1 : Nat) : Int) := by rw [wr_id' (by omega) (by omega)]; omega
      have hlt : decide ((c : Int) < (w.length : Int)) = true := decide_eq_true (by omega)
      by_cases hr : row.getD c 0 = x
      · have e : (row.getD c 0 == x) = true := by simpa using hr
        have hwc := hw c hc
        obtain ⟨j, hj, hj2⟩ : ∃ j : Nat, w.getD c 0 = (j : Int) ∧ j < 200 := ⟨(w.getD c 0).toNat, by omega, by omega⟩
        have cl := cntV_len w row x c
        have cr := cntV_rng w row x c j (by omega)
        have ix := ixS_eq (q := ⟨false, h.length, 0⟩) (cap := .known 201) (show j < 201 by omega)
        have b1 := d.one (ro := ro) (l := h.length) (p := h.length) (k := j) (by rw [ints_len]; omega)
        rw [ints_get (by omega)] at b1
        obtain ⟨hp', t1, t2, t3, t4⟩ := d.setG (ro := ro) (l := h.length) (p := h.length) (k := j) (v := .i .i64 ((cntV w row x c).getD j 0 + 1)) (by rw [ints_len]; omega) rfl rfl rfl
        rw [Nat.min_self] at t1
        rw [ints_set] at t2
        have hw2 : Go.Vm.wr .i64 ((cntV w row x c).getD j 0 + 1) = (cntV w row x c).getD j 0 + 1 := wr_id' (by omega) (by omega)
        have ec : cntV w row x (c + 1) = (cntV w row x c).set j ((cntV w row x c).getD j 0 + 1) := by rw [cntV, if_pos hr, hj]; rfl
        refine ⟨⟨hp', h.length, h.length⟩, ?_, hp', rfl, by omega, ⟨by omega, fun i hi => by rw [t4 i (by omega)]; exact kp.2 i hi⟩, by rw [ec]; exact t2⟩
        simp only [g53_b0, len_row (row_by rw' kp), bindO_some, asI_i, forceB_eq, ltI_eq, hlt, cond_true, p1, p2, eqI_eq, e, q1, q2, hj, ix, b1, forceI_eq, hw2, t1, bindP_some, hwn]
      · have e : (row.getD c 0 == x) = false := by simpa using hr
        have ec : cntV w row x (c + 1) = cntV w row x c := by rw [cntV, if_neg hr]
        refine ⟨⟨hp, h.length, h.length⟩, ?_, hp, rfl, hl, kp, by rw [ec]; exact d⟩
        simp only [g53_b0, len_row (row_by rw' kp), bindO_some, asI_i, forceB_eq, ltI_eq, hlt, cond_true, p1, p2, eqI_eq, e, cond_false, forceI_eq, hwn])
    (fun m hI => by
      obtain ⟨hp, rfl, hl, kp, d⟩ := hI
      have hlt : decide ((n : Int) < (w.length : Int)) = false := decide_eq_false (by omega)
      simp only [g53_b0, len_row (row_by rw' kp), bindO_some, asI_i, forceB_eq, ltI_eq, hlt, cond_false]) n 0 ⟨h1, h.length, h.length⟩ (by omega) ⟨h1, rfl, l1, k1, d1⟩
  have e0 : ((0 : Nat) : Int) = 0 := rfl
  rw [e0] at hrun
  have hr := cntV_rng w row x n
  obtain ⟨hp3, l1', l2', l3', l4'⟩ := carry53 (ro := ro) (h := h) 200 hp2 (cntV w row x n) (by omega) (cntV_len _ _ _ _) (fun j hj => by have := hr j (by omega); omega) (by have := hr 200 (by omega); omega) k2 hl2 d2
  have e2 : ((200 : Nat) : Int) = 200 := rfl
  rw [e2] at l1'
  refine ⟨hp3, g53_ok (meansX_ok F1 ro) rfl ?_, l2', l4', l3'⟩
  unfold g53
  simp only [s1', bindP_some, meansX_loop, hrun, bindO_some, l1', tupA]
  exact fin_newW (not_bel (Nat.le_refl _))
end Go.Proofs.Ytageakoepjkkbaa.T

/- The specification's Weighing: what is learnt in a night. -/
open Go.Vm
set_option linter.unusedVariables false
namespace Go.Proofs.Ytageakoepjkkbaa.T
open Go
theorem learn24 {ro : List ABlk} {h hp : Heap} {a b v46 : AVal} {x : List (List Int)} {z w : List Int} {n i : Nat} (ha : IsMat ro h a x) (hb : IsRow ro h b z) (hi : i < x.length) (hiz : i < z.length) (hrl : (nthR x i).length = n) (hn : n ≤ 100) (kh : Keep h hp) (hw : Holds hp h.length (ints w)) (hwl : w.length = n) (hwr : ∀ f, f < n → 0 ≤ w.getD f 0 ∧ w.getD f 0 ≤ 1000) :
    ∃ hp', loopX (fun s : Int × Mm => g24_b2 (meansX F1 ro) ro (n : Int) a b (.sl ⟨false, h.length, 0⟩ n (.known n)) v46 (i : Int) s.1 s.2) (0, ⟨hp, h.length, h.length⟩) = some ⟨hp', h.length, h.length⟩ ∧ Keep h hp' ∧ hp'.length = hp.length ∧ (∀ j, j ≠ h.length → hp'[j]? = hp[j]?) ∧ Holds hp' h.length (ints (lrn w (nthR x i) (z.getD i 0) n)) := by
  obtain ⟨p1, u, a1, ald, hu⟩ := at_matK ha hi
  obtain ⟨p2, b1, bld⟩ := at_rowK hb hiz
  have hu : IsRow ro h u (nthR x i) := hu
  obtain ⟨m', hrun, hp3, rfl, k3, hl3, ho3, hw3⟩ := loop_all (b := fun s : Int × Mm => g24_b2 (meansX F1 ro) ro (n : Int) a b (.sl ⟨false, h.length, 0⟩ n (.known n)) v46 (i : Int) s.1 s.2) n
    (fun c m => ∃ hp2, m = ⟨hp2, h.length, h.length⟩ ∧ Keep h hp2 ∧ hp2.length = hp.length ∧ (∀ j, j ≠ h.length → hp2[j]? = hp[j]?) ∧ Holds hp2 h.length (ints (lrn w (nthR x i) (z.getD i 0) c)))
    (fun c m hc hI => by
      obtain ⟨hp2, rfl, kp2, hl2, ho2, hw2⟩ := hI
      obtain ⟨p3, c1, cld⟩ := at_rowK hu (show c < (nthR x i).length by omega)
      have a2 := (ald (l := h.length) (q := h.length) kp2).2
      have b2 := (bld (l := h.length) (q := h.length) kp2).2
      have c2 := (cld (l := h.length) (q := h.length) kp2).2
      by_cases he : (nthR x i).getD c 0 = z.getD i 0
      · have e0 : ((nthR x i).getD c 0 == z.getD i 0) = true := by rw [he]; exact beq_self_eq_true _
        refine ⟨⟨hp2, h.length, h.length⟩, ?_, hp2, rfl, kp2, hl2, ho2, by rw [lrn_same he]; exact hw2⟩
        simp only [g24_b2, forceB_eq, ltI_eq, lt_yes hc, cond_true, a1, a2, b1, b2, c1, c2, bindO_some, asI_i, eqI_eq, e0, Bool.not_true, cond_false, forceI_eq]
        rw [wr_next (by omega)]
      · have e0 : ((nthR x i).getD c 0 == z.getD i 0) = false := by rw [beq_eq_false_iff_ne]; exact he
        have g4 := ixS_eq (q := ⟨false, h.length, 0⟩) (cap := .known n) hc
        have hul : c < (lrn w (nthR x i) (z.getD i 0) c).length := by rw [lrn_len]; omega
        have g5 := hw2.one (ro := ro) (l := h.length) (p := h.length) (k := c) (by rw [ints_len]; exact hul)
        rw [ints_get hul, lrn_get (by omega), if_neg (fun hh => Nat.lt_irrefl c hh.1)] at g5
        have hwc := hwr c hc
        have w1 : Go.Vm.wr .i64 (w.getD c 0 + 1) = w.getD c 0 + 1 := wr_id' (by omega) (by omega)
        obtain ⟨hp3, hst, hw3, hl3, ho3⟩ := hw2.setG (ro := ro) (l := h.length) (p := h.length) (k := c) (v := .i .i64 (w.getD c 0 + 1)) (by rw [ints_len]; exact hul) rfl rfl rfl
        rw [Nat.min_self] at hst
        simp only [Nat.zero_add] at g4 g5 hst
        refine ⟨⟨hp3, h.length, h.length⟩, ?_, hp3, rfl, ⟨by have := kp2.1; omega, fun j hj => by rw [ho3 j (by omega)]; exact kp2.2 j hj⟩, by omega, fun j hj => by rw [ho3 j hj]; exact ho2 j hj, by rw [ints_set, lrn_set (by omega) he] at hw3; exact hw3⟩
        simp only [g24_b2, forceB_eq, ltI_eq, lt_yes hc, cond_true, a1, a2, b1, b2, c1, c2, bindO_some, asI_i, eqI_eq, e0, Bool.not_false, Nat.zero_add, g4, g5, forceI_eq, w1, hst, bindP_some]
        rw [wr_next (by omega)])
    (fun m hI => by simp only [g24_b2, forceB_eq, ltI_eq, lt_no, cond_false]) n 0 ⟨hp, h.length, h.length⟩ (by omega) ⟨hp, rfl, kh, rfl, fun _ _ => rfl, by rw [lrn_zero]; exact hw⟩
  have e0 : ((0 : Nat) : Int) = 0 := rfl
  rw [e0] at hrun
  exact ⟨hp3, hrun, k3, hl3, ho3, hw3⟩
end Go.Proofs.Ytageakoepjkkbaa.T

/- The specification's Weighing: a night. -/
open Go.Vm
set_option linter.unusedVariables false
namespace Go.Proofs.Ytageakoepjkkbaa.T
open Go
set_option maxRecDepth 100000 in
/-- what is foretold in a night -/
theorem said24 {ro : List ABlk} {hp : Heap} {u vw : AVal} {w row : List Int} {n : Nat} (rw' : IsRow ro hp vw w) (rr : IsRow ro hp u row) (hwl : w.length = n) (hrl : row.length = n) (hn : n ≤ 100) (hw : ∀ k, k < n → 0 ≤ w.getD k 0 ∧ w.getD k 0 < 200) (hb : ∀ k, k < row.length → row.getD k 0 = 0 ∨ row.getD k 0 = 1) :
    ∃ hA hB v1 v2 c, callM (callX F1 ro) ⟨hp, hp.length, hp.length⟩ 53 [vw, u, .i .i64 1] = some (v1, ⟨hA, hp.length, hp.length⟩) ∧ callM (callX F1 ro) ⟨hA, hp.length, hp.length⟩ 53 [vw, u, .i .i64 0] = some (v2, ⟨hB, hp.length, hp.length⟩) ∧
      callM (callX F1 ro) ⟨hB, hp.length, hp.length⟩ 52 [v1, v2] = some (.b c, ⟨hB, hp.length, hp.length⟩) ∧ Keep hp hB ∧ weighV w row n = if c then 1 else 0 := by
  obtain ⟨hA, c1, k1, d1, l1⟩ := total53 (x := 1) rw' rr hwl hrl hn hw
  obtain ⟨hB, c2, k2, d2, l2⟩ := total53 (x := 0) (row_by rw' k1) (row_by rr k1) hwl hrl hn hw
  have t1 : (totL w row n 1).length = 201 := by unfold totL; rw [carL_len, cntV_len]
  have t2 : (totL w row n 0).length = 201 := by unfold totL; rw [carL_len, cntV_len]
  have c3 := above52 (ro := ro) (holds_row (cap := .known 201) (d1.by k2) rfl t1) (holds_row (cap := .known 201) d2 rfl t2) (by rw [t1, t2]) (by rw [t1]; omega)
  rw [t1] at c3
  have e1 := callM_eq (m := ⟨hp, hp.length, hp.length⟩) c1
  have e2 := callM_eq (m := ⟨hA, hp.length, hp.length⟩) c2
  have e3 := callM_eq (m := ⟨hB, hp.length, hp.length⟩) c3
  rw [Nat.min_self] at e1
  simp only [Nat.min_eq_left k1.1] at e2
  simp only [Nat.min_eq_left (k1.trans k2).1] at e3
  exact ⟨hA, hB, _, _, _, e1, e2, e3, k1.trans k2, weigh_above hb (by omega) hn hw⟩
end Go.Proofs.Ytageakoepjkkbaa.T

/- The specification's Weighing. -/
open Go.Vm
set_option linter.unusedVariables false
namespace Go.Proofs.Ytageakoepjkkbaa.T
open Go
theorem night24 {ro : List ABlk} {h : Heap} {a b : AVal} {x : List (List Int)} {z : List Int} {N : Nat} (ha : IsMat ro h a x) (hb : IsRow ro h b z) (hN : N ≤ 100) (hT : x.length ≤ 200) (hzl : z.length = x.length) (hrows : ∀ i, i < x.length → rowP (nthR x i) (N : Int)) {hp : Heap} (kp : Keep h hp) (hl : h.length + 1 ≤ hp.length) (d : Holds hp h.length (ints (misL x z N 0))) :
    ∃ v hp', loopX (fun s : AVal × Int × Mm => g24_b0 (meansX F1 ro) ro (N : Int) a b (.sl ⟨false, h.length, 0⟩ N (.known N)) s.1 s.2.1 s.2.2) (.nsl, 0, ⟨hp, h.length, h.length⟩) = some (v, ⟨hp', h.length, h.length⟩) ∧ Keep h hp' ∧ h.length + 1 ≤ hp'.length ∧ Holds hp' h.length (ints (misL x z N x.length)) ∧ GV hp' (h.length + 1) 3 1 v x.length (ints ((List.range x.length).map (vsay x z N))) := by
  obtain ⟨v1, m1, hrun1, hp1, rfl, k1, l1, d1, g1⟩ := loop_all3 (b := fun s : AVal × Int × Mm => g24_b0 (meansX F1 ro) ro (N : Int) a b (.sl ⟨false, h.length, 0⟩ N (.known N)) s.1 s.2.1 s.2.2) x.length
    (fun i v m => ∃ hp, m = ⟨hp, h.length, h.length⟩ ∧ Keep h hp ∧ h.length + 1 ≤ hp.length ∧ Holds hp h.length (ints (misL x z N i)) ∧ GV hp (h.length + 1) 3 1 v i (ints ((List.range i).map (vsay x z N))))
    (fun i v m hi hI => by
      obtain ⟨hp, rfl, kp, hlen, ho, g⟩ := hI
      obtain ⟨p1, u, a1, ald, hu⟩ := at_matK ha hi
      have hu : IsRow ro h u (nthR x i) := hu
      have hrl : (nthR x i).length = N := by have := (hrows i hi).2; omega
      have hbits : ∀ k, k < (nthR x i).length → (nthR x i).getD k 0 = 0 ∨ (nthR x i).getD k 0 = 1 := fun k hk => (hrows i hi).1 k hk
      have hml := misL_len x z N i
      have hmr : ∀ k, k < N → 0 ≤ (misL x z N i).getD k 0 ∧ (misL x z N i).getD k 0 < 200 := fun k hk => by rw [misL_get hk]; have := mis_le x z k i; omega
      obtain ⟨hA, hB, t1, t2, c, c1, c2, c3, kB, hs⟩ := said24 (ro := ro) (holds_row (cap := .known N) ho rfl hml) (row_by hu kp) hml hrl hN hmr hbits
      have a2 := (ald (hp := hp) (l := hp.length) (q := hp.length) kp)
      have kpB := kp.trans kB
      obtain ⟨v2, hp2, v3, hp3, s1, s2, g3, l3, o3⟩ := (g.by kB).push (ro := ro) (L0 := h.length) (bytes := 8) (z := [(AVal.i IntKind.i64 0)]) (w := .i .i64 (vsay x z N i)) (ws := [.i .i64 (vsay x z N i)]) (by omega) (by have := kB.1; omega) (by omega) (by omega) (by omega) rfl rfl rfl rfl rfl
      have k3 : Keep h hp3 := ⟨by have := kpB.1; omega, fun j hj => by rw [o3 j (by omega)]; exact kpB.2 j hj⟩
      have d3 : Holds hp3 h.length (ints (misL x z N i)) := (ho.by kB).keep (o3 _ (by omega))
      obtain ⟨hp4, r1, k4, l4, o4, d4⟩ := learn24 (v46 := v3) ha hb hi (by omega) hrl hN k3 d3 hml fun f hf => by have := hmr f hf; omega
      rw [misL_next] at d4
      have hble : Nat.blt hp.length hp.length = false := by rw [← Bool.not_eq_true, Nat.blt_eq]; omega
      have hbase : Mm.base ⟨hp, h.length, h.length⟩ = (⟨hp, hp.length, hp.length⟩ : Mm) := rfl
      have hjoin : Mm.join ⟨hp, h.length, h.length⟩ ⟨hB, hp.length, hp.length⟩ = (⟨hB, h.length, h.length⟩ : Mm) := by simp [Mm.join, Nat.min_eq_left kp.1]
      refine ⟨v3, ⟨hp4, h.length, h.length⟩, ?_, hp4, rfl, k4, by have := kpB.1; have := kB.1; omega, d4, ?_⟩
      · have hsd : (bindO (α := Int) (cond c (some 1) (some 0)) fun y => (some y : Option Int)) = some (vsay x z N i) := by
          unfold vsay; rw [hs]; cases c <;> rfl
        simp only [g24_b0, len_mat (mat_by ha kp), bindO_some, asI_i, forceB_eq, ltI_eq, lt_yes hi, cond_true, hbase, a1, a2.1, a2.2, meansX_call, c1, bindP_some, hble, Bool.not_false, chk_true, c2, c3, asB_b, hjoin]
        cases c
        · simp only [cond_false, bindO_some, Option.some.injEq] at hsd ⊢
          rw [← hsd] at s1
          simp only [s1, bindP_some, s2, meansX_loop, r1, bindO_some, forceI_eq]
          rw [wr_next (by omega)]
        · simp only [cond_true, bindO_some, Option.some.injEq] at hsd ⊢
          rw [← hsd] at s1
          simp only [s1, bindP_some, s2, meansX_loop, r1, bindO_some, forceI_eq]
          rw [wr_next (by omega)]
      · have g4 := g3.byB (hp' := hp4) fun j hj hb => o4 j (by have := g3.bno j hb; omega)
        rw [List.range_succ, List.map_append]
        simpa [ints] using g4)
    (fun v m hI => by
      obtain ⟨hp, rfl, kp, -⟩ := hI
      simp only [g24_b0, len_mat (mat_by ha kp), bindO_some, asI_i, forceB_eq, ltI_eq, lt_no, cond_false]) x.length 0 .nsl ⟨hp, h.length, h.length⟩ (by omega) ⟨hp, rfl, kp, hl, d, GV.nil _ _ _ _⟩
  have e0 : ((0 : Nat) : Int) = 0 := rfl
  rw [e0] at hrun1
  exact ⟨v1, hp1, hrun1, k1, l1, d1, g1⟩
end Go.Proofs.Ytageakoepjkkbaa.T

/- Weighing, the specification's; the program's where there is an error. -/
open Go.Vm
set_option linter.unusedVariables false
namespace Go.Proofs.Ytageakoepjkkbaa.T
open Go
theorem tup_nb {L : Nat} {v1 v2 : AVal} {e : Int} (hb : v2.bel L = false) : (tupA [v1, v2, .i .i64 e]).bel L = false := by
  simp only [tupA, AVal.bel, bels]
  rw [hb]; simp
theorem refWeighing_ok {ro : List ABlk} {h : Heap} {a b : AVal} {x : List (List Int)} {z : List Int} {n : Int} (ha : IsMat ro h a x) (hl : LenOk x) (hb : IsRow ro h b z) (hz : z.length ≤ 9223372036854775807) : ∃ v1 v2 h', callX F1 ro 24 [.i .i64 n, a, b] h = some (.tup [v1, v2, .i .i64 (recE n x z)], h', h.length, h.length) ∧ Keep h h' ∧
    (recE n x z = 0 → IsRow ro h' v1 (sayM (vsay x z n.toNat) x.length x.length) ∧ IsRow ro h' v2 (misL x z n.toNat x.length)) ∧ (recE n x z ≠ 0 → v1 = .nsl ∧ v2 = .nsl) := by
  have c0 := cp0 (Record_ok (n := n) ha hl hb hz)
  by_cases hr : recE n x z = 0
  case neg =>
    have e : (!(recE n x z == 0)) = true := by simpa using hr
    refine ⟨.nsl, .nsl, h, g24_ok (meansX_ok F1 ro) rfl ?_, Keep.refl h, fun h0 => absurd h0 hr, fun _ => ⟨rfl, rfl⟩⟩
    unfold g24
    simp only [meansX_call, c0, bindP_some, asI_i, forceB_eq, eqI_eq, e, cond_true]
    exact fin_pure (by simp [tupA, AVal.bel, bels])
  obtain ⟨N, rfl, hN1, hN2, hT, hrows, hzb, hzl⟩ := rec_facts hr
  have e : (!(recE (N : Int) x z == 0)) = false := by rw [hr]; rfl
  obtain ⟨hb1, eb⟩ : ∃ hb1, hb1 = h ++ [some (newBlk 3 (.i .i64 0) N)] := ⟨_, rfl⟩
  have kp : Keep h hb1 := by rw [eb]; exact Keep.app _
  have hbl : hb1.length = h.length + 1 := by rw [eb]; simp
  have dS : Holds hb1 h.length (ints (misL x z N 0)) := by rw [eb, misL_zero]; exact newInts h N
  have s1 := mk_ok (ro := ro) (hp := h) (l := h.length) (p := h.length) (e := 3) (es := 1) (bytes := 8) (v := .i .i64 0) (n := N) (by omega) (by omega)
  rw [← eb] at s1
  obtain ⟨v, hp', r1, k1, l1, d1, g1⟩ := night24 ha hb (by omega) hT hzl (fun i hi => ⟨(hrows i hi).1, by rw [(hrows i hi).2]⟩) kp (by omega) dS
  refine ⟨v, .sl ⟨false, h.length, 0⟩ N (.known N), hp', g24_ok (meansX_ok F1 ro) rfl ?_, k1, fun _ => ⟨?_, ?_⟩, fun h0 => absurd hr h0⟩
  · unfold g24
    simp only [meansX_call, c0, bindP_some, asI_i, forceB_eq, eqI_eq, e, cond_false, s1, meansX_loop, r1, bindO_some]
    rw [hr]
    exact fin_newW (tup_nb (not_bel (Nat.le_refl _)))
  · have hsayT : sayM (vsay x z N) x.length x.length = (List.range x.length).map (vsay x z N) := by
      unfold sayM
      refine List.map_congr_left fun j hj => ?_
      rw [if_pos (List.mem_range.1 hj)]
    rw [Int.toNat_natCast, hsayT]
    exact g1.row (by simp)
  · rw [Int.toNat_natCast]
    exact holds_row d1 rfl (misL_len _ _ _ _)
theorem Weighing_err {ro : List ABlk} {h : Heap} {a b : AVal} {x : List (List Int)} {z : List Int} {n : Int} (ha : IsMat ro h a x) (hl : LenOk x) (hb : IsRow ro h b z) (hz : z.length ≤ 9223372036854775807) (hr : recE n x z ≠ 0) : callX F1 ro 23 [.i .i64 n, a, b] h = some (.tup [.nsl, .nsl, .i .i64 (recE n x z)], h, h.length, h.length) := by
  have c0 := cp0 (checkRecord_ok (n := n) ha hl hb hz)
  have e : (!eqI (recE n x z) 0) = true := by rw [eqI_eq]; simpa using hr
  refine g23_ok (meansX_ok F1 ro) rfl ?_
  unfold g23
  refine (bindP_of c0).trans ?_
  refine asI_of.trans ?_
  refine forceB_of.trans ?_
  rw [e]
  exact fin_pure (by simp [tupA, AVal.bel, bels])
end Go.Proofs.Ytageakoepjkkbaa.T

/- The first of the fewest; the law. -/
open Go.Vm
set_option linter.unusedVariables false
namespace Go.Proofs.Ytageakoepjkkbaa.T
open Go
def biN (w : List Int) : Nat → Nat
  | 0 => 0
  | t + 1 => if w.getD (t + 1) 0 < w.getD (biN w t) 0 then t + 1 else biN w t
theorem biN_le (w : List Int) : ∀ t, biN w t ≤ t
  | 0 => Nat.le_refl _
  | t + 1 => by
    have := biN_le w t
    rw [biN]; split <;> omega
theorem biN_mn (w : List Int) : ∀ t, w.getD (biN w t) 0 = mnL w t
  | 0 => rfl
  | t + 1 => by
    have ih := biN_mn w t
    rw [biN, mnL, ← ih]
    by_cases h : w.getD (t + 1) 0 < w.getD (biN w t) 0
    · rw [if_pos h]; omega
    · rw [if_neg h]; omega
theorem biN_first (w : List Int) : ∀ t j, j < biN w t → mnL w t < w.getD j 0
  | 0, j, h => by simp [biN] at h
  | t + 1, j, h => by
    have hm := biN_mn w t
    have hlow : ∀ i, i ≤ t → mnL w t ≤ w.getD i 0 := by
      intro i hi
      induction t with
      | zero => obtain rfl : i = 0 := by omega
                exact Int.le_refl _
      | succ t ih =>
        rw [mnL]
        rcases Nat.lt_or_ge t i with h1 | h1
        · obtain rfl : i = t + 1 := by omega
          exact Int.min_le_right _ _
        · exact Int.le_trans (Int.min_le_left _ _) (by
            clear ih
            have key : ∀ s i, i ≤ s → mnL w s ≤ w.getD i 0 := by
              intro s
              induction s with
              | zero => intro i hi; obtain rfl : i = 0 := by omega
                        exact Int.le_refl _
              | succ s ihs =>
                intro i hi
                rw [mnL]
                rcases Nat.lt_or_ge s i with h2 | h2
                · obtain rfl : i = s + 1 := by omega
                  exact Int.min_le_right _ _
                · exact Int.le_trans (Int.min_le_left _ _) (ihs i h2)
            exact key t i h1)
    rw [biN] at h
    rw [mnL]
    by_cases hc : w.getD (t + 1) 0 < w.getD (biN w t) 0
    · rw [if_pos hc] at h
      have := hlow j (by omega)
      omega
    · rw [if_neg hc] at h
      have := biN_first w t j h
      omega
section
variable {ro : List ABlk} {h : Heap} {a b : AVal} {x : List (List Int)} {z w : List Int}
theorem Index_at {n : Int} {j : Nat} (ha : IsRow ro h a w) (hw2 : w.length ≤ 1000) (hj : j < w.length) (he : w.getD j 0 = n) (hf : ∀ i, i < j → w.getD i 0 ≠ n) : callX F1 ro 55 [a, .i .i64 n] h = some (.i .i64 (j : Int), h, h.length, h.length) := by
  have hla := len_row ha
  have hloop := loop_st (b := fun s : Int => g55_b0 (meansX F1 ro) ro a n (w.length : Int) ⟨h, h.length, h.length⟩ s) (fun i => (i : Int)) w.length (fun i => if n = w.getD i 0 then some (.inr (i : Int)) else none) (.inl ())
    (by simp only [g55_b0, forceB_eq, ltI_eq, lt_no, cond_false])
    (fun i hi' => by
      obtain ⟨p1, a1, ald⟩ := at_rowK ha hi'
      have a2 := (ald (l := h.length) (q := h.length) (Keep.refl h)).1
      by_cases he : n = w.getD i 0
      · have e0 : (n == w.getD i 0) = true := by rw [he]; exact beq_self_eq_true _
        rw [if_pos he]
        simp only [g55_b0, forceB_eq, ltI_eq, lt_yes hi', cond_true, a1, a2, bindO_some, asI_i, eqI_eq, e0]
      · have e0 : (n == w.getD i 0) = false := by rw [beq_eq_false_iff_ne]; exact he
        rw [if_neg he]
        simp only [g55_b0, forceB_eq, ltI_eq, lt_yes hi', cond_true, a1, a2, bindO_some, asI_i, eqI_eq, e0, cond_false, forceI_eq]
        rw [wr_next (by omega)]) w.length 0 (by omega)
  have hfs : firstS (fun i => if n = w.getD i 0 then some (Sum.inr (i : Int) : Unit ⊕ Int) else none) w.length 0 = some (.inr (j : Int)) := by
    cases hs : firstS (fun i => if n = w.getD i 0 then some (Sum.inr (i : Int) : Unit ⊕ Int) else none) w.length 0 with
    | none =>
      have := firstS_none.1 hs j (by omega) (by omega)
      rw [if_pos he.symm] at this; cases this
    | some r =>
      obtain ⟨i, -, i2, i3, i4⟩ := firstS_some hs
      by_cases hc : n = w.getD i 0
      · rw [if_pos hc] at i3
        have : i = j := by
          rcases Nat.lt_or_ge i j with h1 | h1
          · exact absurd hc.symm (hf i h1)
          · rcases Nat.lt_or_ge j i with h2 | h2
            · have := i4 j (by omega) h2
              rw [if_pos he.symm] at this; cases this
            · omega
        subst this
        exact i3.symm
      · rw [if_neg hc] at i3; cases i3
  rw [hfs] at hloop
  have e0 : ((0 : Nat) : Int) = 0 := rfl
  rw [e0] at hloop
  refine g55_ok (meansX_ok F1 ro) rfl ?_
  unfold g55
  refine (bindO_of hla).trans ?_
  refine asI_of.trans ?_
  refine (bindO_of hloop).trans ?_
  exact fin_pure rfl
def bestV (n : Int) (x : List (List Int)) (z : List Int) : Int × Int := if recE n x z = 0 then ((biN (misL x z n.toNat x.length) (n.toNat - 1) : Nat), mnL (misL x z n.toNat x.length) (n.toNat - 1)) else (0, 0)
theorem Best_is {n : Int} (ha : IsMat ro h a x) (hl : LenOk x) (hb : IsRow ro h b z) (hz : z.length ≤ 9223372036854775807) : callX F1 ro 25 [.i .i64 n, a, b] h = some (.tup [.i .i64 (bestV n x z).1, .i .i64 (bestV n x z).2, .i .i64 (recE n x z)], h, h.length, h.length) := by
  have go : ∀ o, g25 (meansX F1 ro) ro n a b ⟨h, h.length, h.length⟩ = some o → callX F1 ro 25 [.i .i64 n, a, b] h = some o := fun o ho => g25_ok (meansX_ok F1 ro) rfl ho
  obtain ⟨v1, v2, h', c1, k1, hrest⟩ := Weighing_ok (n := n) ha hl hb hz
  have c1' := callM_eq (call := callX F1 ro) (m := ⟨h, h.length, h.length⟩) c1
  simp only [Nat.min_self] at c1'
  by_cases hr : recE n x z = 0
  case neg =>
    have e : (!eqI (recE n x z) 0) = true := by rw [eqI_eq]; simpa using hr
    have eb : bestV n x z = (0, 0) := by unfold bestV; rw [if_neg hr]
    rw [eb]
    refine go _ ?_
    unfold g25
    refine (bindP_of c1').trans ?_
    refine (bindO_of (ext0 _ _)).trans ?_
    refine (bindO_of (ext1 _ _ _)).trans ?_
    refine (bindO_of (ext2 _ _ _ _)).trans ?_
    refine asI_of.trans ?_
    refine forceB_of.trans ?_
    rw [e]
    exact fin_keep k1 rfl
  obtain ⟨N, rfl, hN1, hN2, hT, hrows, hzb, hzl⟩ := rec_facts hr
  obtain ⟨-, hm⟩ := hrest hr
  have hml : (misL x z (N : Int).toNat x.length).length = N := by rw [misL_len]; rfl
  have e : (!eqI (recE (N : Int) x z) 0) = false := by rw [eqI_eq, hr]; rfl
  have cM := cp (F := F1) (l := h.length) (p := h.length) (Min_ok hm (by omega) (by omega)) k1.1 k1.1
  have hble := biN_le (misL x z (N : Int).toNat x.length) ((misL x z (N : Int).toNat x.length).length - 1)
  have cI0 := Index_at (n := mnL (misL x z (N : Int).toNat x.length) ((misL x z (N : Int).toNat x.length).length - 1)) hm (by omega) (j := biN (misL x z (N : Int).toNat x.length) ((misL x z (N : Int).toNat x.length).length - 1)) (by omega) (biN_mn _ _) (fun i hi h0 => by have := biN_first _ _ i hi; omega)
  have cI := cp (F := F1) (l := h.length) (p := h.length) cI0 k1.1 k1.1
  have eb : bestV (N : Int) x z = (((biN (misL x z (N : Int).toNat x.length) ((misL x z (N : Int).toNat x.length).length - 1) : Nat) : Int), mnL (misL x z (N : Int).toNat x.length) ((misL x z (N : Int).toNat x.length).length - 1)) := by
    unfold bestV; rw [if_pos hr, hml]; rfl
  rw [eb]
  refine go _ ?_
  unfold g25
  refine (bindP_of c1').trans ?_
  refine (bindO_of (ext0 _ _)).trans ?_
  refine (bindO_of (ext1 _ _ _)).trans ?_
  refine (bindO_of (ext2 _ _ _ _)).trans ?_
  refine asI_of.trans ?_
  refine forceB_of.trans ?_
  rw [e]
  simp only [cond_false, meansX_call, cM, bindP_some, asI_i, cI, tupA]
  rw [hr]
  exact fin_keep k1 rfl
theorem refBest_is {n : Int} (ha : IsMat ro h a x) (hl : LenOk x) (hb : IsRow ro h b z) (hz : z.length ≤ 9223372036854775807) : callX F1 ro 26 [.i .i64 n, a, b] h = some (.tup [.i .i64 (bestV n x z).1, .i .i64 (bestV n x z).2, .i .i64 (recE n x z)], h, h.length, h.length) := by
  obtain ⟨v1, v2, h', c1, k1, hrest, -⟩ := refWeighing_ok (n := n) ha hl hb hz
  have c1' := callM_eq (call := callX F1 ro) (m := ⟨h, h.length, h.length⟩) c1
  simp only [Nat.min_self] at c1'
  refine g26_ok (meansX_ok F1 ro) rfl ?_
  unfold g26
  by_cases hr : recE n x z = 0
  case neg =>
    have e : (!(recE n x z == 0)) = true := by simpa using hr
    have eb : bestV n x z = (0, 0) := by unfold bestV; rw [if_neg hr]
    rw [eb]
    simp only [meansX_call, c1', bindP_some, ext0, ext1, ext2, bindO_some, asI_i, forceB_eq, eqI_eq, e, cond_true]
    exact fin_keep k1 rfl
  obtain ⟨N, rfl, hN1, hN2, hT, hrows, hzb, hzl⟩ := rec_facts hr
  obtain ⟨-, hm⟩ := hrest hr
  have hml : (misL x z (N : Int).toNat x.length).length = N := by rw [misL_len]; rfl
  have e : (!(recE (N : Int) x z == 0)) = false := by rw [hr]; rfl
  have eb : bestV (N : Int) x z = (((biN (misL x z (N : Int).toNat x.length) (N - 1) : Nat) : Int), mnL (misL x z (N : Int).toNat x.length) (N - 1)) := by
    unfold bestV; rw [if_pos hr]; rfl
  generalize misL x z (N : Int).toNat x.length = w at *
  have key : ∀ (j i : Nat), i + j = N → 1 ≤ i → loopX (fun s : Int × Int => g26_b0 (meansX F1 ro) ro (N : Int) v2 ⟨h', h.length, h.length⟩ s.1 s.2) (((biN w (i - 1) : Nat) : Int), (i : Int)) = some ((biN w (N - 1) : Nat) : Int) := by
    intro j
    induction j with
    | zero =>
      intro i hi h1
      obtain rfl : i = N := by omega
      refine loopX_out ?_
      simp only [g26_b0, forceB_eq, ltI_eq, lt_no, cond_false]
    | succ j ih =>
      intro i hi h1
      have hb1 := biN_le w (i - 1)
      obtain ⟨p1, a1, ald⟩ := at_rowK hm (show i < w.length by omega)
      obtain ⟨p2, b1, bld⟩ := at_rowK hm (show biN w (i - 1) < w.length by omega)
      have a2 := (ald (l := h.length) (q := h.length) (Keep.refl h')).2
      have b2 := (bld (l := h.length) (q := h.length) (Keep.refl h')).2
      have hi' : i < N := by omega
      have eb : biN w i = if w.getD i 0 < w.getD (biN w (i - 1)) 0 then i else biN w (i - 1) := by
        obtain ⟨t, rfl⟩ : ∃ t, i = t + 1 := ⟨i - 1, by omega⟩
        rfl
      have ih := ih (i + 1) (by omega) (by omega)
      rw [show i + 1 - 1 = i by omega, eb] at ih
      refine loopX_on ?_ ih
      by_cases hc : w.getD i 0 < w.getD (biN w (i - 1)) 0
      · rw [if_pos hc]
        simp only [g26_b0, forceB_eq, ltI_eq, lt_yes hi', cond_true, a1, a2, b1, b2, bindO_some, asI_i, dT hc, forceI_eq]
        rw [wr_next (by omega)]
      · rw [if_neg hc]
        simp only [g26_b0, forceB_eq, ltI_eq, lt_yes hi', cond_true, cond_false, a1, a2, b1, b2, bindO_some, asI_i, dF hc, forceI_eq]
        rw [wr_next (by omega)]
  have hrun := key (N - 1) 1 (by omega) (Nat.le_refl _)
  have e1 : ((1 : Nat) : Int) = 1 := rfl
  have e0 : ((biN w (1 - 1) : Nat) : Int) = 0 := rfl
  rw [e0, e1] at hrun
  have hb1 := biN_le w (N - 1)
  obtain ⟨p2, b1, bld⟩ := at_rowK hm (show biN w (N - 1) < w.length by omega)
  have b2 := (bld (l := h.length) (q := h.length) (Keep.refl h')).1
  rw [biN_mn] at b2
  rw [eb]
  simp only [meansX_call, c1', bindP_some, ext0, ext1, ext2, bindO_some, asI_i, forceB_eq, eqI_eq, e, cond_false, meansX_loop, hrun, b1, b2, tupA]
  rw [hr]
  exact fin_keep k1 rfl
end
end Go.Proofs.Ytageakoepjkkbaa.T

/- Weighing and Best are those of the specification. -/
open Go.Vm
set_option linter.unusedVariables false
namespace Go.Proofs.Ytageakoepjkkbaa.T
open Go
section
variable {ro : List ABlk} {h : Heap} {a b : AVal} {x : List (List Int)} {z w : List Int}
def tWl (n : Int) (x : List (List Int)) (z : List Int) : List Int := if recE n x z = 0 then sayM (vsay x z n.toNat) x.length x.length else []
def mWl (n : Int) (x : List (List Int)) (z : List Int) : List Int := if recE n x z = 0 then misL x z n.toNat x.length else []
theorem Weighing_is {n : Int} (ha : IsMat ro h a x) (hl : LenOk x) (hb : IsRow ro h b z) (hz : z.length ≤ 9223372036854775807) : ∃ v1 v2 h', callX F1 ro 23 [.i .i64 n, a, b] h = some (.tup [v1, v2, .i .i64 (recE n x z)], h', h.length, h.length) ∧ Keep h h' ∧ IsRow ro h' v1 (tWl n x z) ∧ IsRow ro h' v2 (mWl n x z) := by
  unfold tWl mWl
  by_cases hr : recE n x z = 0
  · obtain ⟨v1, v2, h', c1, k1, hrest⟩ := Weighing_ok (n := n) ha hl hb hz
    rw [if_pos hr, if_pos hr]
    exact ⟨v1, v2, h', c1, k1, hrest hr⟩
  · rw [if_neg hr, if_neg hr]
    exact ⟨.nsl, .nsl, h, Weighing_err ha hl hb hz hr, Keep.refl h, .inl ⟨rfl, rfl⟩, .inl ⟨rfl, rfl⟩⟩
theorem refWeighing_is {n : Int} (ha : IsMat ro h a x) (hl : LenOk x) (hb : IsRow ro h b z) (hz : z.length ≤ 9223372036854775807) : ∃ v1 v2 h', callX F1 ro 24 [.i .i64 n, a, b] h = some (.tup [v1, v2, .i .i64 (recE n x z)], h', h.length, h.length) ∧ Keep h h' ∧ IsRow ro h' v1 (tWl n x z) ∧ IsRow ro h' v2 (mWl n x z) := by
  unfold tWl mWl
  obtain ⟨v1, v2, h', c1, k1, hrest, herr⟩ := refWeighing_ok (n := n) ha hl hb hz
  by_cases hr : recE n x z = 0
  · rw [if_pos hr, if_pos hr]
    exact ⟨v1, v2, h', c1, k1, hrest hr⟩
  · obtain ⟨rfl, rfl⟩ := herr hr
    rw [if_neg hr, if_neg hr]
    exact ⟨.nsl, .nsl, h', c1, k1, .inl ⟨rfl, rfl⟩, .inl ⟨rfl, rfl⟩⟩
theorem tWl_len (n : Int) (x : List (List Int)) (z : List Int) : (tWl n x z).length ≤ 1000 ∧ (mWl n x z).length ≤ 1000 := by
  unfold tWl mWl
  by_cases hr : recE n x z = 0
  · obtain ⟨N, rfl, hN1, hN2, hT, hrows, hzb, hzl⟩ := rec_facts hr
    rw [if_pos hr, if_pos hr, misL_len]
    refine ⟨by simp [sayM]; omega, by omega⟩
  · rw [if_neg hr, if_neg hr]; simp
theorem law4 {n : Int} (ha : IsMat ro [] a x) (hf : Fits x) (hb : IsRow ro [] b z) : ∃ h' lw lp, callX F1 ro 4 [.i .i64 n, a, b] [] = some (.b true, h', lw, lp) := by
  have hfew := cp0 (few_ok ha hb hf.1)
  have hal := cp0 (F := F1) (alive_pure (ro := ro) (h := []))
  simp only [List.length_nil] at hfew hal
  by_cases hw : few x z
  case neg =>
    refine ⟨[], 0, 0, g4_ok (meansX_ok F1 ro) rfl ?_⟩
    unfold g4
    simp only [List.length_nil, meansX_call, hfew, bindP_some, asB_b, forceB_eq, dF hw, Bool.not_false, cond_true, hal, tupA]
    exact fin_pure (h := []) rfl
  have hzl := hw.2
  have k0 : ∀ {l : Nat}, 0 ≤ l := Nat.zero_le _
  have hz' : z.length ≤ 9223372036854775807 := by omega
  obtain ⟨v1, v2, h1, c1, k1, r1, r2⟩ := Weighing_is (n := n) ha hf.lens hb hz'
  have c1' := callM_eq (call := callX F1 ro) (m := ⟨[], 0, 0⟩) c1
  simp only [List.length_nil, Nat.min_self] at c1'
  obtain ⟨u1, u2, h2, c2, k2, s1, s2⟩ := refWeighing_is (n := n) (mat_by ha k1) hf.lens (row_by hb k1) hz'
  have c2' := callM_eq (call := callX F1 ro) (m := ⟨h1, 0, 0⟩) c2
  simp only [Nat.zero_min] at c2'
  have k12 := k1.trans k2
  obtain ⟨t1, t2⟩ := tWl_len n x z
  have e1 := cp (F := F1) (l := 0) (p := 0) (same_ok (row_by r1 k2) s1 (by omega)) k0 k0
  have e2 := cp (F := F1) (l := 0) (p := 0) (same_ok (row_by r2 k2) s2 (by omega)) k0 k0
  have e3 := cp (F := F1) (l := 0) (p := 0) (Best_is (n := n) (mat_by ha k12) hf.lens (row_by hb k12) hz') k0 k0
  have e4 := cp (F := F1) (l := 0) (p := 0) (refBest_is (n := n) (mat_by ha k12) hf.lens (row_by hb k12) hz') k0 k0
  have hal2 := cp (F := F1) (l := 0) (p := 0) (alive_pure (ro := ro) (h := h2)) k0 k0
  suffices hs : ∃ q, g4 (meansX F1 ro) ro n a b ⟨[], 0, 0⟩ = some q ∧ q.1 = .b true by
    obtain ⟨⟨u, h', lw, lp⟩, h1, rfl⟩ := hs
    exact ⟨h', lw, lp, g4_ok (meansX_ok F1 ro) rfl h1⟩
  unfold g4
  simp only [decide_true] at e1 e2
  simp only [meansX_call, hfew, bindP_some, asB_b, forceB_eq, dT hw, Bool.not_true, cond_false, c1', ext0, ext1, ext2, bindO_some, asI_i, c2', e1, e2, eqI_eq, beq_self_eq_true, e3, e4, cond_true, hal2]
  exact ⟨_, rfl, rfl⟩
end
end Go.Proofs.Ytageakoepjkkbaa.T

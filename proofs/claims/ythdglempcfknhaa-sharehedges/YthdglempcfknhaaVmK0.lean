/- Contracts of the functions: what each of them answers. -/
import Derived.Test.YthdglempcfknhaaVmGa0
import Derived.Test.YthdglempcfknhaaVmFO
import Derived.Test.YthdglempcfknhaaVmGt
import Derived.Test.YthdglempcfknhaaVmAE
import Derived.Test.YthdglempcfknhaaVmAF
import Derived.Test.YthdglempcfknhaaRows
import Derived.WalkKit
import Derived.ProofKit
import Derived.OpenShut
import Derived.Carry
import Derived.Deep.Matrix
import Derived.Deep.Slices
/- From the small machine to the statement: lists of numbers and lists of such lists, in memory that is only read. -/
open Go.Vm
set_option linter.unusedVariables false
namespace Go.Proofs.Ythdglempcfknhaa.T
open Go Go.RowKit Go.Deep Go.WideShapes Go.ChangeShapes

/-- what every list of lists is -/
def Fits (rows : List (List Int)) : Prop := rows.length ≤ 9223372036854775807 ∧ ∀ z ∈ rows, z.length ≤ 9223372036854775807 ∧ ∀ n ∈ z, inI64 n
abbrev F1 : Tab := ⟨F, known0 15 (.b true)⟩
def IsRowK (k : IntKind) (ro : List ABlk) (h : Heap) (v : AVal) (z : List Int) : Prop :=
  (v = .nsl ∧ z = []) ∨ ∃ q cap blk, v = .sl q z.length cap ∧ rdB ro h q = some blk ∧ q.off + z.length ≤ blk.n ∧ ∀ j, j < z.length → blk.c.get (q.off + j) = .i k (z.getD j 0)

/-- what is read in the world of a list of lists: the value, the rows -/
structure OpenM (W : World) (v0 : Value) (rows : List (List Int)) : Prop where
  o : (v0 = .slice none 0 0 ∧ rows = []) ∨ ∃ (a : Addr) (cap : Nat) (A : Nat → Option Addr) (L C : Nat → Nat) (Z : Nat → List Int), v0 = .slice (some a) rows.length cap ∧
    rows.length ≤ cap ∧ rows = (List.range rows.length).map (fun r => (Z r).take (L r)) ∧
    ∀ r, r < cap → a.block < W.heap.size ∧ W.cell? (a.add r) = some (.slice (A r) (L r) (C r)) ∧ L r ≤ C r ∧ (Z r).length = C r ∧ (A r = none → C r = 0) ∧
      ∀ x, A r = some x → ∀ c, c < C r → x.block < W.heap.size ∧ W.cell? (x.add c) = some (.int .i64 ((Z r).getD c 0))
  fits : Fits rows


/-- what is read in the world of a list of numbers -/
structure OpenK (k : IntKind) (W : World) (v0 : Value) (z : List Int) : Prop where
  o : (v0 = .slice none 0 0 ∧ z = []) ∨ ∃ (a : Addr) (cap : Nat) (Z : List Int), v0 = .slice (some a) z.length cap ∧ z.length ≤ cap ∧ Z.length = cap ∧ z = Z.take z.length ∧ ∀ i, i < cap → a.block < W.heap.size ∧ W.cell? (a.add i) = some (.int k (Z.getD i 0))
  len_le : z.length ≤ 9223372036854775807
  z : ∀ n ∈ z, (Lit.int k n).wf = true

theorem cells22 : Try.prog.cellsOf 22 = 1 := by kernel_rfl
theorem cells3 : Try.prog.cellsOf 3 = 1 := by kernel_rfl
theorem laidOut : laidOutB Try.prog = true := by kernel_rfl
theorem own : ownKnob Try.prog.godebug = none := by kernel_rfl

section
variable {H : Type} {enc : TypeId × Value → H} {W : World} {v0 : Value} {d : DataW H} {p : List MemPlace}
theorem opened_ints (hs : ∃ a len cap, v0 = .slice a len cap) (h : DataW.Trod enc Try.prog W 0 (fun _ => true) true 22 v0 d p) : ∃ z, OpenK .i64 W v0 z := by
  obtain ⟨a0, len, cap, rfl⟩ := hs
  obtain ⟨fuel, hf⟩ := h
  have hml : maxLen = 9223372036854775807 := rfl
  rcases open_ints Try.underlying22 Try.underlying3 cells3 hf with ⟨hcs0, hx⟩ | ⟨a, len', cap', zs, hcs0, _, hl, hm, hz, hx, hcell, hw⟩
  · simp [Value.cells] at hcs0
    obtain ⟨rfl, rfl, rfl⟩ := hcs0
    exact ⟨[], .inl ⟨rfl, rfl⟩, by simp, by simp⟩
  · simp [Value.cells] at hcs0
    obtain ⟨rfl, rfl, rfl⟩ := hcs0
    simp only [if_true] at hz
    have hlen : (zs.take len).length = len := by simp; omega
    refine ⟨zs.take len, .inr ⟨a, cap, zs, by rw [hlen], by omega, by omega, by rw [hlen], fun i hi => ?_⟩, by omega, fun n hn => hw n (List.mem_of_mem_take hn)⟩
    have h1 := hcell i (by omega)
    exact ⟨World.block_lt_of_cell? _ _ h1 |> fun h => by simpa [addr_block] using h, h1⟩
end

/-- the reading of a list of lists -/
theorem opened_mat {H : Type} {enc : TypeId × Value → H} {W : World} {v0 : Value} {d : DataW H} {p : List MemPlace} (hs : ∃ a len cap, v0 = .slice a len cap) (h : DataW.Trod enc Try.prog W 0 (fun _ => true) true 32 v0 d p) : ∃ rows, OpenM W v0 rows := by
  obtain ⟨a0, len, cap, rfl⟩ := hs
  obtain ⟨fuel, hf⟩ := h
  rcases open_int_rows Try.underlying32 Try.underlying22 Try.underlying3 cells22 cells3 hf with ⟨hcs0, hx⟩ | ⟨a, len', cap', A, L, C, Z, hcs0, _, hl, hm, hx, hrows⟩
  · simp [Value.cells] at hcs0
    obtain ⟨rfl, rfl, rfl⟩ := hcs0
    exact ⟨[], .inl ⟨rfl, rfl⟩, by simp [Fits]⟩
  · simp [Value.cells] at hcs0
    obtain ⟨rfl, rfl, rfl⟩ := hcs0
    have hml : maxLen = 9223372036854775807 := rfl
    refine ⟨(List.range len).map fun r => (Z r).take (L r), .inr ⟨a, cap, A, L, C, Z, by simp, by simpa using hl, by simp, fun r hr => ?_⟩, ?_⟩
    · obtain ⟨h1, h2, h3, h4, h5, h6, h7⟩ := hrows r hr
      refine ⟨World.block_lt_of_cell? _ _ h1 |> fun h => by simpa [addr_block] using h, h1, h2, h4, h6, fun x hx c hc => ?_⟩
      obtain ⟨-, h8⟩ := h7 x hx
      have := World.block_lt_of_cell? _ _ (h8 c hc)
      exact ⟨by simpa [addr_block] using this, h8 c hc⟩
    · refine ⟨by simp; omega, fun z hz => ?_⟩
      obtain ⟨r, hr, rfl⟩ := List.mem_map.1 hz
      have hr := List.mem_range.1 hr
      obtain ⟨h1, h2, h3, h4, h5, h6, h7⟩ := hrows r (by omega)
      refine ⟨by simp; omega, fun n hn => wf_i64 (h5 n (List.mem_of_mem_take hn))⟩

/-- of an argument: read-only memory for it -/
theorem ro_mat {W : World} {v0 : Value} {rows : List (List Int)} (h : OpenM W v0 rows) (pre : List ABlk) (prl : Rl) (hp : pre.length = prl.length) : ∃ (ro : List ABlk) (rl : Rl) (v : AVal), ro.length = rl.length ∧ (∀ x y h, IsMat (pre ++ ro ++ x) h v rows ∧ VR (prl ++ rl ++ y) [] v v0) ∧
    ∀ (i : Nat) (b : ABlk), ro[i]? = some b → ∃ x, rl[i]? = some x ∧ ∀ j, j < b.n → x.block < W.heap.size ∧ ∃ v', W.cell? (x.add j) = some v' ∧ ∀ y, VR (prl ++ rl ++ y) [] (b.c.get j) v' := by
  rcases h.o with ⟨rfl, rfl⟩ | ⟨a, cap, A, L, C, Z, rfl, hcap, hrows, hcell⟩
  · exact ⟨[], [], .nsl, rfl, fun x y h => ⟨.inl ⟨rfl, rfl⟩, .nsl⟩, fun i b hb => by simp at hb⟩
  · have hro : ∀ (x : List ABlk) (r : Nat), r < cap → (pre ++ roMat pre.length cap A L C Z ++ x)[pre.length + 1 + r]? = some ⟨0, cond (A r).isSome (C r) 0, Tr.mk ((Z r).map (AVal.i .i64)), none⟩ := fun x r hr => by
      rw [List.append_assoc, List.getElem?_append_right (by omega), show pre.length + 1 + r - pre.length = r + 1 by omega]
      simp [roMat, hr, List.getElem?_append_left]
    have hro0 : ∀ (x : List ABlk), (pre ++ roMat pre.length cap A L C Z ++ x)[pre.length]? = some ⟨0, cap, Tr.mk ((List.range cap).map (roCell pre.length A L C)), none⟩ := fun x => by
      rw [List.append_assoc, List.getElem?_append_right (by omega)]
      simp [roMat]
    have hrl : ∀ (y : Rl) (r : Nat), r < cap → (prl ++ rlMat a cap A ++ y)[pre.length + 1 + r]? = some ((A r).getD a) := fun y r hr => by
      rw [List.append_assoc, List.getElem?_append_right (by omega), show pre.length + 1 + r - prl.length = r + 1 by omega]
      simp [rlMat, hr, List.getElem?_append_left]
    have hrl0 : ∀ (y : Rl), (prl ++ rlMat a cap A ++ y)[pre.length]? = some a := fun y => by
      rw [List.append_assoc, List.getElem?_append_right (by omega), show pre.length - prl.length = 0 by omega]
      simp [rlMat]
    have hvr : ∀ (y : Rl) (r : Nat), r < cap → VR (prl ++ rlMat a cap A ++ y) [] (roCell pre.length A L C r) (.slice (A r) (L r) (C r)) := fun y r hr => by
      obtain ⟨-, -, h1, h2, h3, -⟩ := hcell r hr
      unfold roCell
      cases hA : A r with
      | none =>
        have := h3 hA
        have h0 : L r = 0 := by omega
        rw [this, h0]
        exact .nsl
      | some x =>
        refine .slk _ _ _ _ ?_
        have := hrl y r hr
        rw [hA] at this
        show (((prl ++ rlMat a cap A ++ y)[pre.length + 1 + r]?).map fun x => x.add 0) = some x
        rw [this]; simp [Addr.add]
    refine ⟨roMat pre.length cap A L C Z, rlMat a cap A, .sl ⟨true, pre.length, 0⟩ rows.length (.known cap), by simp [roMat, rlMat], fun x y h => ⟨.inr ⟨_, _, ⟨0, cap, Tr.mk ((List.range cap).map (roCell pre.length A L C)), none⟩, rfl, ?_, ?_, ?_⟩, ?_⟩, ?_⟩
    · simp only [rdB, cond_true, lget_eq]; exact hro0 x
    · simpa using hcap
    · intro r hr
      have hr' : r < cap := by omega
      obtain ⟨-, -, h1, h2, h3, h4⟩ := hcell r hr'
      have hg : (Tr.mk ((List.range cap).map (roCell pre.length A L C))).get (0 + r) = roCell pre.length A L C r := by
        rw [get_mk]; simp [List.getD, hr']
      have hrow : rows.getD r [] = (Z r).take (L r) := by
        rw [List.getD_eq_getElem?_getD]
        conv => lhs; rw [hrows]
        simp [hr]
      simp only [hg, hrow]
      unfold roCell
      cases hA : A r with
      | none =>
        have := h3 hA
        have h0 : L r = 0 := by omega
        exact .inl ⟨rfl, by simp [h0]⟩
      | some y =>
        refine .inr ⟨⟨true, pre.length + 1 + r, 0⟩, .known (C r), ⟨0, cond (A r).isSome (C r) 0, Tr.mk ((Z r).map (AVal.i .i64)), none⟩, ?_, ?_, ?_, ?_⟩
        · simp; omega
        · simp only [rdB, cond_true, lget_eq]; exact hro x r hr'
        · simp [hA]; omega
        · intro j hj
          simp only [List.length_take] at hj
          rw [get_mk]
          have hj2 : j < (Z r).length := by omega
          have hj3 : j < L r := by omega
          simp [List.getD, hj2, hj3]
    · refine .slk _ _ _ _ ?_
      show (((prl ++ rlMat a cap A ++ y)[pre.length]?).map fun x => x.add 0) = some a
      rw [hrl0 y]; simp [Addr.add]
    · intro i b hb
      cases i with
      | zero =>
        simp [roMat] at hb
        subst hb
        refine ⟨a, by simp [rlMat], fun j hj => ?_⟩
        obtain ⟨h0, h1, -⟩ := hcell j hj
        refine ⟨h0, _, h1, fun y => ?_⟩
        have hg : (Tr.mk ((List.range cap).map (roCell pre.length A L C))).get j = roCell pre.length A L C j := by
          rw [get_mk]; simp [List.getD, show j < cap from hj]
        simp only [hg]
        exact hvr y j hj
      | succ r =>
        simp only [roMat, List.getElem?_cons_succ, List.getElem?_map, Option.map_eq_some_iff] at hb
        obtain ⟨r', hr', rfl⟩ := hb
        obtain ⟨hlt, he⟩ := List.getElem?_eq_some_iff.1 hr'
        simp only [List.length_range] at hlt
        simp only [List.getElem_range] at he
        subst he
        refine ⟨(A r).getD a, by simp [rlMat, hlt], fun j hj => ?_⟩
        obtain ⟨-, -, h1, h2, h3, h4⟩ := hcell r hlt
        cases hA : A r with
        | none => simp [hA] at hj
        | some x =>
          simp only [hA, Option.isSome_some, cond_true] at hj
          obtain ⟨h5, h6⟩ := h4 x hA j hj
          refine ⟨h5, _, h6, fun y => ?_⟩
          have hg : (Tr.mk ((Z r).map (AVal.i .i64))).get j = .i .i64 ((Z r).getD j 0) := by
            rw [get_mk]; simp [List.getD, show j < (Z r).length by omega]
          simp only [hg]
          exact .i _ _


/-- a slice's room is at least its length -/
def CapO (v : AVal) : Prop := ∀ q n c, v = .sl q n (.known c) → n ≤ c
theorem ro_flat {k : IntKind} {W : World} {v0 : Value} {z : List Int} (h : OpenK k W v0 z) (pre : List ABlk) (prl : Rl) (hp : pre.length = prl.length) : ∃ (ro : List ABlk) (rl : Rl) (v : AVal), ro.length = rl.length ∧ CapO v ∧
    (∀ x y h, IsRowK k (pre ++ ro ++ x) h v z ∧ VR (prl ++ rl ++ y) [] v v0) ∧
    ∀ (i : Nat) (b : ABlk), ro[i]? = some b → ∃ x, rl[i]? = some x ∧ ∀ j, j < b.n → x.block < W.heap.size ∧ ∃ v', W.cell? (x.add j) = some v' ∧ ∀ y, VR y [] (b.c.get j) v' := by
  rcases h.o with ⟨rfl, rfl⟩ | ⟨a, cap, Z, rfl, hcap, hlen, hz, hcell⟩
  · exact ⟨[], [], .nsl, rfl, (fun q n c e => by cases e), fun x y h => ⟨.inl ⟨rfl, rfl⟩, .nsl⟩, fun i b hb => by simp at hb⟩
  · have hget : ∀ j, j < cap → (Tr.mk (Z.map (AVal.i k))).get j = .i k (Z.getD j 0) := fun j hj => by
      rw [get_mk]; simp [List.getD, show j < Z.length by omega]
    refine ⟨[⟨0, cap, Tr.mk (Z.map (AVal.i k)), none⟩], [a], .sl ⟨true, pre.length, 0⟩ z.length (.known cap), rfl, (fun q n c e => by cases e; exact hcap), fun x y h => ⟨.inr ⟨⟨true, pre.length, 0⟩, .known cap, ⟨0, cap, Tr.mk (Z.map (AVal.i k)), none⟩, rfl, ?_, ?_, fun j hj => ?_⟩, ?_⟩, fun i b hb => ?_⟩
    · simp only [rdB, cond_true, lget_eq, List.append_assoc]
      rw [List.getElem?_append_right (Nat.le_refl _)]; simp
    · simpa using hcap
    · have e := hget j (by omega)
      have e2 : Z.getD j 0 = z.getD j 0 := by
        rw [hz, List.getD_eq_getElem?_getD, List.getD_eq_getElem?_getD, List.getElem?_take_of_lt hj]
      rw [e2] at e
      simpa using e
    · refine .slk _ _ _ _ ?_
      show (((prl ++ [a] ++ y)[pre.length]?).map fun x => x.add 0) = some a
      rw [List.append_assoc, List.getElem?_append_right (by omega), hp]; simp [Addr.add]
    · cases i with
      | zero =>
        simp at hb
        subst hb
        refine ⟨a, rfl, fun j hj => ?_⟩
        obtain ⟨h1, h2⟩ := hcell j hj
        refine ⟨h1, _, h2, fun y => ?_⟩
        have := hget j hj
        simp only [this]
        exact .i _ _
      | succ i => simp at hb

theorem env_ok {W : World} {ro : List ABlk} {rl : Rl} (h : ∀ (i : Nat) (b : ABlk), ro[i]? = some b → ∃ x, rl[i]? = some x ∧ ∀ j, j < b.n → x.block < W.heap.size ∧ ∃ v', W.cell? (x.add j) = some v' ∧ VR rl [] (b.c.get j) v') :
    (Env.mk Try.prog W.heap.size W ro rl).Ok := ⟨fun i b hb => h i b hb, Nat.le_refl _⟩
/-- what lies in the read-only blocks; more may come behind -/
def RoP (W : World) (ro : List ABlk) (rl : Rl) : Prop := ∀ (i : Nat) (b : ABlk), ro[i]? = some b → ∃ x, rl[i]? = some x ∧ ∀ j, j < b.n → x.block < W.heap.size ∧ ∃ v', W.cell? (x.add j) = some v' ∧ ∀ y, VR (rl ++ y) [] (b.c.get j) v'
theorem RoP.nil (W : World) : RoP W [] [] := fun i b hb => by simp at hb
theorem RoP.env {W : World} {ro : List ABlk} {rl : Rl} (h : RoP W ro rl) : (Env.mk Try.prog W.heap.size W ro rl).Ok := env_ok fun i b hb => by
  obtain ⟨y, h1, h2⟩ := h i b hb
  refine ⟨y, h1, fun j hj => ?_⟩
  obtain ⟨h3, v', h4, h5⟩ := h2 j hj
  exact ⟨h3, v', h4, by have := h5 []; simpa using this⟩
theorem RoP.snoc {W : World} {ro ro' : List ABlk} {rl rl' : Rl} (hl : ro.length = rl.length) (h : RoP W ro rl)
    (h' : ∀ (i : Nat) (b : ABlk), ro'[i]? = some b → ∃ x, rl'[i]? = some x ∧ ∀ j, j < b.n → x.block < W.heap.size ∧ ∃ v', W.cell? (x.add j) = some v' ∧ ∀ y, VR y [] (b.c.get j) v') : RoP W (ro ++ ro') (rl ++ rl') := by
  intro i b hb
  rcases Nat.lt_or_ge i ro.length with hi | hi
  · rw [List.getElem?_append_left hi] at hb
    obtain ⟨x, h1, h2⟩ := h i b hb
    refine ⟨x, by rw [List.getElem?_append_left (by omega)]; exact h1, fun j hj => ?_⟩
    obtain ⟨h3, v', h4, h5⟩ := h2 j hj
    exact ⟨h3, v', h4, fun y => by rw [List.append_assoc]; exact h5 _⟩
  · rw [List.getElem?_append_right hi] at hb
    obtain ⟨x, h1, h2⟩ := h' _ b hb
    refine ⟨x, by rw [List.getElem?_append_right (by omega), ← hl]; exact h1, fun j hj => ?_⟩
    obtain ⟨h3, v', h4, h5⟩ := h2 j hj
    exact ⟨h3, v', h4, fun y => h5 _⟩

/-- the call of the model: true, and below nothing has turned -/
theorem call_of {W : World} {ro : List ABlk} {rl : Rl} (hE : (Env.mk Try.prog W.heap.size W ro rl).Ok) {K : Nat} {vs : List AVal} {args : Array Value}
    (hv : LR rl [] vs args) {h' : Heap} {lw lp : Nat} (hc : callX F1 ro K vs [] = some (.b true, h', lw, lp)) : Calls Try.prog K args W fun e W' => e = .returned (.bool true) ∧ Below W.heap.size W W' := by
  have hm : (Env.mk Try.prog W.heap.size W ro rl).P.follows .mixedOrders = true := Try.checked.mixed
  have hO : CallOk (Env.mk Try.prog W.heap.size W ro rl) (known0 15 (.b true)) := known0_of hE hm fok alive0 rfl
  obtain ⟨-, h2⟩ := callX_sound hE hm (F := F1) fok hO K vs [] _ _ _ _ hc
  refine Calls.mono (h2 [] W args ⟨Below.refl _ _, rfl, by simp, fun i b r K hl => by simp [Live] at hl, fun i j b b' r K K' hl => by simp [Live] at hl⟩ hv) fun e w' hq => ?_
  obtain ⟨v', rfl, m', hvr, T⟩ := hq
  exact ⟨by rw [hvr.inv_b], T.hr.below⟩
theorem alive_pure {ro : List ABlk} {h : Heap} : callX F1 ro 15 [] h = some (.b true, h, h.length, h.length) := callX_ov rfl
end Go.Proofs.Ythdglempcfknhaa.T

/- Blocks that a function makes for itself; loops whose state is known. -/
open Go.Vm
set_option linter.unusedVariables false
namespace Go.Proofs.Ythdglempcfknhaa.T
open Go

/-- a block of the heap that holds these values -/
def Holds (hp : Heap) (b : Nat) (vs : List AVal) : Prop := ∃ blk : ABlk, lget hp b = some (some blk) ∧ blk.n = vs.length ∧ ∀ j, j < vs.length → blk.c.get j = vs.getD j und
/-- what was there is still there -/
def Keep (h hp : Heap) : Prop := h.length ≤ hp.length ∧ ∀ i, i < h.length → hp[i]? = h[i]?

section
variable {ro : List ABlk} {h hp hp' : Heap} {b k e n l p : Nat} {vs : List AVal}
theorem Keep.refl (h : Heap) : Keep h h := ⟨Nat.le_refl _, fun _ _ => rfl⟩
theorem Keep.trans {h1 : Heap} (a : Keep h h1) (c : Keep h1 hp) : Keep h hp := ⟨Nat.le_trans a.1 c.1, fun i hi => by rw [c.2 i (by have := a.1; omega), a.2 i hi]⟩
theorem Keep.app (x : Heap) : Keep h (h ++ x) := ⟨by simp, fun i hi => List.getElem?_append_left hi⟩
theorem Keep.set (a : Keep h hp) (hb : h.length ≤ b) (x : Option ABlk) : Keep h (hp.set b x) := ⟨by simpa using a.1, fun i hi => by rw [List.getElem?_set_ne (by omega)]; exact a.2 i hi⟩
theorem Keep.eq (a : Keep h hp) : hp.take h.length = h := by
  refine List.ext_getElem? fun i => ?_
  rcases Nat.lt_or_ge i h.length with hi | hi
  · rw [List.getElem?_take_of_lt hi, a.2 i hi]
  · rw [List.getElem?_eq_none (by simp; omega), List.getElem?_eq_none hi]
theorem fin_keep {v : AVal} (a : Keep h hp) (hv : v.bel h.length = true) : finM h.length v ⟨hp, h.length, h.length⟩ = some (v, h, h.length, h.length) := by
  rw [fin_take hv, a.eq]
theorem Holds.lt (a : Holds hp b vs) : b < hp.length := by obtain ⟨blk, h1, -⟩ := a; exact lget_lt h1
theorem Holds.new (hp : Heap) (e : Nat) (vs : List AVal) : Holds (hp ++ [some (blkOf e vs)]) hp.length vs := ⟨_, lget_last _ _, rfl, fun j _ => get_blk e vs j⟩
theorem Holds.keep (a : Holds hp b vs) (hk : hp'[b]? = hp[b]?) : Holds hp' b vs := by
  obtain ⟨blk, h1, h2⟩ := a
  exact ⟨blk, by rw [lget_of hk]; exact h1, h2⟩
theorem Holds.ext (a : Holds hp b vs) (x : Heap) : Holds (hp ++ x) b vs := a.keep (List.getElem?_append_left a.lt)
theorem Holds.by (a : Holds hp b vs) (k : Keep hp hp') : Holds hp' b vs := a.keep (k.2 b a.lt)
theorem Holds.one (a : Holds hp b vs) (hk : k < vs.length) : ldM ro ⟨hp, l, p⟩ true 1 (.p (some ⟨false, b, 0 + k⟩)) = some (vs.getD k und) := by
  obtain ⟨blk, h1, h2, h3⟩ := a
  rw [ld_heap rfl h1 (by omega), ← h3 k hk, Nat.zero_add]
theorem Holds.oneA (a : Holds hp b vs) (hk : k < vs.length) : ldA ro hp true 1 (.p (some ⟨false, b, 0 + k⟩)) = some (vs.getD k und) := by
  obtain ⟨blk, h1, h2, h3⟩ := a
  rw [lda_heap h1 (by omega), ← h3 k hk, Nat.zero_add]
theorem row_list {t : Tr} : ∀ (vs : List AVal) (i : Nat), (∀ j, j < vs.length → t.get (i + j) = vs.getD j und) → t.row i vs.length = vs
  | [], i, _ => rfl
  | v :: vs, i, h => by
    simp only [List.length_cons, Tr.row]
    rw [show t.get i = v by simpa using h 0 (by simp), row_list vs (i + 1) fun j hj => by have := h (j + 1) (by simp; omega); rw [show i + 1 + j = i + (j + 1) by omega, this]; simp]
theorem Holds.rd (a : Holds hp b vs) (hn : n = vs.length) : Go.Vm.rd ro hp false n ⟨false, b, 0⟩ = some (.agg vs) := by
  subst hn
  obtain ⟨blk, h1, h2, h3⟩ := a
  have hc : Nat.ble (0 + vs.length) blk.n = true := by rw [Nat.ble_eq]; omega
  simp only [Go.Vm.rd, rdB_heap h1, cond_false, hc, cond_true]
  rw [row_list vs 0 fun j hj => by rw [Nat.zero_add]; exact h3 j hj]
theorem Holds.all (a : Holds hp b vs) (hn : n = vs.length) : ldM ro ⟨hp, l, p⟩ false n (.p (some ⟨false, b, 0⟩)) = some (.agg vs) := by
  simp only [ldM, a.rd hn]
theorem spliceGet (t : Tr) : ∀ (vs : List AVal) (i j : Nat), (t.splice i vs).get j = if i ≤ j ∧ j < i + vs.length then vs.getD (j - i) und else t.get j
  | [], i, j => by simp [Tr.splice]; intro h1 h2; omega
  | v :: vs, i, j => by
    rw [Tr.splice, spliceGet (t.set i v) vs (i + 1) j, get_set]
    by_cases e : i = j
    · subst e
      rw [if_neg (by omega), if_pos rfl, if_pos (by simp)]; simp
    · by_cases h2 : i ≤ j ∧ j < i + (v :: vs).length
      · have h3 : i + 1 ≤ j ∧ j < i + 1 + vs.length := by simp at h2; omega
        rw [if_pos h2, if_pos h3]
        obtain ⟨q, rfl⟩ : ∃ q, j = i + 1 + q := ⟨j - (i + 1), by omega⟩
        rw [show i + 1 + q - i = q + 1 by omega, show i + 1 + q - (i + 1) = q by omega]
        simp
      · have h3 : ¬ (i + 1 ≤ j ∧ j < i + 1 + vs.length) := by simp at h2; omega
        rw [if_neg h2, if_neg h3, if_neg e]
theorem wrH_all {blk : ABlk} (hb : lget hp b = some (some blk)) (hn : vs.length ≤ blk.n) (ho : ones vs = true) : wrH hp ⟨false, b, 0⟩ vs = some (hp.set b (some { blk with c := blk.c.splice 0 vs })) := by
  have : (Nat.ble (0 + vs.length) blk.n && ones vs) = true := by rw [ho, Bool.and_true, Nat.ble_eq]; omega
  simp only [wrH, cond_false, hb, this, cond_true, lset_eq]
/-- a block is written whole -/
theorem Holds.st {vs' : List AVal} {v : AVal} (a : Holds hp b vs) (hv : v.cells = vs') (hn : n = vs'.length) (hl : vs'.length = vs.length) (ho : ones vs' = true) (hL : h.length ≤ b) (kp : Keep h hp) :
    ∃ hp', stepM ro ⟨hp, h.length, h.length⟩ (.st n (.c (.p (some ⟨false, b, 0⟩))) (.c v)) = some (und, ⟨hp', h.length, h.length⟩) ∧ Holds hp' b vs' ∧ hp'.length = hp.length ∧ (∀ i, i ≠ b → hp'[i]? = hp[i]?) ∧ Keep h hp' := by
  obtain ⟨blk, h1, h2, h3⟩ := a
  subst hv hn
  have hw := wrH_all h1 (vs := v.cells) (by omega) ho
  refine ⟨hp.set b (some { blk with c := blk.c.splice 0 v.cells }), ?_, ⟨_, lget_set h1 _, by simpa using (h2.trans hl.symm), fun j hj => ?_⟩, by simp, fun i hi => List.getElem?_set_ne (Ne.symm hi), kp.set hL _⟩
  · have hbq : Nat.beq v.cells.length v.cells.length = true := Nat.beq_refl _
    have e : (cond (nonp v.cells) h.length h.length) = h.length := by cases nonp v.cells <;> rfl
    simp only [stepM, stepK, opd, st_st, hbq, cond_true, hw, St.mm, Nat.min_eq_left hL, e]
  · show (blk.c.splice 0 v.cells).get j = _
    rw [spliceGet, if_pos (by omega)]; simp
end

theorem ext0 (a : AVal) (l : List AVal) : evP .e (.ext 0 (.c (.tup (a :: l)))) = some a := rfl
theorem ext1 (a b : AVal) (l : List AVal) : evP .e (.ext 1 (.c (.tup (a :: b :: l)))) = some b := rfl
theorem ext2 (a b c : AVal) (l : List AVal) : evP .e (.ext 2 (.c (.tup (a :: b :: c :: l)))) = some c := rfl
section
variable {ro : List ABlk} {h : Heap} {v : AVal}
theorem row_by {hp : Heap} {z : List Int} (a : IsRow ro h v z) (k : Keep h hp) : IsRow ro hp v z := by
  rw [take_eq k.1 k.2]; exact a.ext _
end

/-- one cell of a block is written -/
theorem Holds.set {ro : List ABlk} {h hp : Heap} {b k : Nat} {vs : List AVal} {v : AVal} (a : Holds hp b vs) (hk : k < vs.length) (hv : v.one = true) (hc : v.cells = [v]) (hn : nonp [v] = true) (hL : h.length ≤ b) (kp : Keep h hp) :
    ∃ hp', stepM ro ⟨hp, h.length, h.length⟩ (.st 1 (.c (.p (some ⟨false, b, 0 + k * 1⟩))) (.c v)) = some (und, ⟨hp', h.length, h.length⟩) ∧ Holds hp' b (vs.set k v) ∧ hp'.length = hp.length ∧ (∀ i, i ≠ b → hp'[i]? = hp[i]?) ∧ Keep h hp' := by
  obtain ⟨blk, h1, h2, h3⟩ := a
  have e : 0 + k * 1 = k := by omega
  refine ⟨hp.set b (some { blk with c := blk.c.set k v }), ?_, ⟨_, lget_set h1 _, by simpa using h2, fun j hj => ?_⟩, by simp, fun i hi => List.getElem?_set_ne (Ne.symm hi), kp.set hL _⟩
  · rw [e, st_heap h1 (by omega) hv hc hn, Nat.min_eq_left hL]
  · show (blk.c.set k v).get j = _
    rw [get_set]
    simp only [List.length_set] at hj
    by_cases e : k = j
    · subst e; simp [List.getD, hj]
    · rw [if_neg e, h3 j hj]
      simp [List.getD, List.getElem?_set_ne e]


/-- a loop whose state is known for each round -/
theorem loop_st {S R : Type} {b : S → Option (S ⊕ R)} (st : Nat → S) (n : Nat) (step : Nat → Option R) (r0 : R) (hout : b (st n) = some (.inr r0)) (hin : ∀ i, i < n → b (st i) = some (match step i with | some r => .inr r | none => .inl (st (i + 1)))) :
    ∀ (k i : Nat), i + k = n → loopX b (st i) = some ((firstS step k i).getD r0)
  | 0, i, hi => by
    simp only [Nat.add_zero] at hi
    subst hi
    exact loopX_out hout
  | k + 1, i, hi => by
    have h1 := hin i (by omega)
    unfold firstS
    cases hs : step i with
    | some r => rw [hs] at h1; exact loopX_out h1
    | none =>
      rw [hs] at h1
      exact loopX_on h1 (loop_st st n step r0 hout hin k (i + 1) (by omega))
/-- one that looks for something -/
theorem loop_if {S R : Type} {b : S → Option (S ⊕ R)} (st : Nat → S) (n : Nat) (P : Nat → Prop) [DecidablePred P] (r0 r1 : R) (hout : b (st n) = some (.inr r0)) (hin : ∀ i, i < n → P i → b (st i) = some (.inl (st (i + 1)))) (hno : ∀ i, i < n → ¬ P i → b (st i) = some (.inr r1)) :
    loopX b (st 0) = some (if (∀ i, i < n → P i) then r0 else r1) := by
  have := loop_st st n (fun i => if P i then none else some r1) r0 hout (fun i hi => by
    by_cases hp : P i
    · rw [if_pos hp]; exact hin i hi hp
    · rw [if_neg hp]; exact hno i hi hp) n 0 (by omega)
  rw [this]
  by_cases hall : ∀ i, i < n → P i
  · rw [if_pos hall, firstS_none.2 fun j _ h2 => by rw [if_pos (hall j (by omega))]]; rfl
  · rw [if_neg hall]
    cases hf : firstS (fun i => if P i then none else some r1) n 0 with
    | none =>
      refine absurd (fun i hi => ?_) hall
      have := firstS_none.1 hf i (by omega) (by omega)
      simpa using this
    | some r =>
      obtain ⟨j, -, -, h3, -⟩ := firstS_some hf
      by_cases hc : P j
      · rw [if_pos hc] at h3; cases h3
      · rw [if_neg hc] at h3; cases h3; rfl

theorem dT {p : Prop} [Decidable p] (h : p) : decide p = true := decide_eq_true h
theorem dF {p : Prop} [Decidable p] (h : ¬ p) : decide p = false := decide_eq_false h
theorem mat_by {ro : List ABlk} {h hp : Heap} {v : AVal} {z : List (List Int)} (a : IsMat ro h v z) (k : Keep h hp) : IsMat ro hp v z := by
  rw [take_eq k.1 k.2]; exact a.ext _
theorem at_rowK {ro : List ABlk} {h : Heap} {v : AVal} {z : List Int} (hr : IsRow ro h v z) {i : Nat} (hi : i < z.length) : ∃ p, evP .e (.ixS 1 (.c v) (.c (.i .i64 (i : Int)))) = some p ∧ ∀ {hp : Heap} {l q : Nat}, Keep h hp → ldM ro ⟨hp, l, q⟩ true 1 p = some (.i .i64 (z.getD i 0)) ∧ ldA ro hp true 1 p = some (.i .i64 (z.getD i 0)) := by
  obtain ⟨p, h1, -⟩ := at_row (m := ⟨h, 0, 0⟩) rfl hr hi
  refine ⟨p, h1, fun {hp l q} k => ?_⟩
  obtain ⟨p', g1, g2, g3⟩ := at_row (m := ⟨hp, l, q⟩) rfl (row_by hr k) hi
  rw [h1] at g1; cases g1
  exact ⟨g2, g3⟩
theorem at_matK {ro : List ABlk} {h : Heap} {v : AVal} {x : List (List Int)} (hr : IsMat ro h v x) {i : Nat} (hi : i < x.length) : ∃ p u, evP .e (.ixS 1 (.c v) (.c (.i .i64 (i : Int)))) = some p ∧ (∀ {hp : Heap} {l q : Nat}, Keep h hp → ldM ro ⟨hp, l, q⟩ true 1 p = some u ∧ ldA ro hp true 1 p = some u) ∧ IsRow ro h u (x.getD i []) := by
  rcases hr with ⟨rfl, rfl⟩ | ⟨q, cap, blk, rfl, hb, hn, hc⟩
  · simp at hi
  · refine ⟨_, _, ixS_eq hi, fun {hp l q'} k => ?_, hc i hi⟩
    have hb' : rdB ro hp q = some blk := by rw [take_eq k.1 k.2]; exact rdB_ext _ hb
    have h1 := rd_one (i := i) hb' (by omega)
    refine ⟨h1, ?_⟩
    have := rdB_lt hb'
    simp only [ldA, this, cond_true, h1]
abbrev nthR (x : List (List Int)) (i : Nat) : List Int := x.getD i []
theorem cp0 {F : Tab} {ro : List ABlk} {h : Heap} {f : Nat} {a : List AVal} {v : AVal} (e : callX F ro f a h = some (v, h, h.length, h.length)) : callM (callX F ro) ⟨h, h.length, h.length⟩ f a = some (v, ⟨h, h.length, h.length⟩) :=
  callM_pure e (Nat.le_refl _) (Nat.le_refl _)


theorem cM {F : Tab} {ro : List ABlk} {h H : Heap} {f : Nat} {a : List AVal} {v : AVal} {l p : Nat} (e : callX F ro f a h = some (v, H, h.length, h.length)) (hl : l ≤ h.length) (hp : p ≤ h.length) : callM (callX F ro) ⟨h, l, p⟩ f a = some (v, ⟨H, l, p⟩) := by
  rw [callM_eq e, Nat.min_eq_left hl, Nat.min_eq_left hp]
theorem fin_any {h H : Heap} {w : AVal} (k : Keep h H) : ∃ H', finM h.length w ⟨H, h.length, h.length⟩ = some (w, H', h.length, h.length) ∧ Keep h H' ∧ (w.bel h.length = false → H' = H) := by
  obtain ⟨y, h1, h2⟩ := fin_gen (h := h) (h' := H) (v := w) (l := h.length) (p := h.length) k.1 k.2
  exact ⟨h ++ y, h1, Keep.app y, h2⟩
/-- a list read in a heap that keeps another one, below that one's length, is in that one -/
theorem row_down {ro : List ABlk} {h H : Heap} {v : AVal} {z : List Int} (k : Keep h H) (a : IsRow ro H v z) (hb : v.bel h.length = true) : IsRow ro h v z := by
  rcases a with ⟨rfl, rfl⟩ | ⟨q, cap, blk, rfl, hb2, hn, hc⟩
  · exact .inl ⟨rfl, rfl⟩
  · refine .inr ⟨q, cap, blk, rfl, ?_, hn, hc⟩
    have h1 : (q.ro || Nat.blt q.b h.length) = true := by simpa [AVal.bel] using hb
    unfold rdB at hb2 ⊢
    cases hr : q.ro
    · rw [hr] at h1 hb2
      have h2 : q.b < h.length := by simpa [Nat.blt_eq] using h1
      simp only [cond_false] at hb2 ⊢
      rw [← lget_of (k.2 q.b h2)]; exact hb2
    · rw [hr] at hb2; exact hb2
theorem fin_rowW {ro : List ABlk} {h H : Heap} {v w : AVal} {z : List Int} (k : Keep h H) (a : IsRow ro H v z) (hw : w.bel h.length = v.bel h.length) :
    ∃ H', finM h.length w ⟨H, h.length, h.length⟩ = some (w, H', h.length, h.length) ∧ Keep h H' ∧ IsRow ro H' v z := by
  obtain ⟨H', h1, h2, h3⟩ := fin_any (w := w) k
  refine ⟨H', h1, h2, ?_⟩
  cases hb : w.bel h.length
  · rw [h3 hb]; exact a
  · exact row_by (row_down k a (by rw [← hw]; exact hb)) h2
theorem loop_gen {S R : Type} {b : S → Option (S ⊕ R)} (n : Nat) (I : Nat → S → Prop) (Q : R → Prop)
    (hin : ∀ i s, i < n → I i s → ∃ s', b s = some (.inl s') ∧ I (i + 1) s') (hout : ∀ s, I n s → ∃ r, b s = some (.inr r) ∧ Q r) :
    ∀ (k i : Nat) (s : S), i + k = n → I i s → ∃ r, loopX b s = some r ∧ Q r
  | 0, i, s, hk, hi => by
    obtain rfl : i = n := by omega
    obtain ⟨r, h1, h2⟩ := hout s hi
    exact ⟨r, loopX_out h1, h2⟩
  | k + 1, i, s, hk, hi => by
    obtain ⟨s1, h1, h2⟩ := hin i s (by omega) hi
    obtain ⟨r, h3, h4⟩ := loop_gen n I Q hin hout k (i + 1) s1 (by omega) h2
    exact ⟨r, loopX_on h1 h3, h4⟩
theorem loop_exit {S R : Type} {b : S → Option (S ⊕ R)} (n : Nat) (I : Nat → S → Prop) (Q : R → Prop)
    (hin : ∀ i s, i < n → I i s → (∃ s', b s = some (.inl s') ∧ I (i + 1) s') ∨ ∃ r, b s = some (.inr r) ∧ Q r) (hout : ∀ s, I n s → ∃ r, b s = some (.inr r) ∧ Q r) :
    ∀ (k i : Nat) (s : S), i + k = n → I i s → ∃ r, loopX b s = some r ∧ Q r
  | 0, i, s, hk, hi => by
    obtain rfl : i = n := by omega
    obtain ⟨r, h1, h2⟩ := hout s hi
    exact ⟨r, loopX_out h1, h2⟩
  | k + 1, i, s, hk, hi => by
    rcases hin i s (by omega) hi with ⟨s1, h1, h2⟩ | ⟨r, h1, h2⟩
    · obtain ⟨r, h3, h4⟩ := loop_exit n I Q hin hout k (i + 1) s1 (by omega) h2
      exact ⟨r, loopX_on h1 h3, h4⟩
    · exact ⟨r, loopX_out h1, h2⟩

/- the laws' own: few, same -/
def few (x : List (List Int)) : Prop := ∀ i, i < x.length → (nthR x i).length ≤ 100
instance (x : List (List Int)) : Decidable (few x) := inferInstanceAs (Decidable (∀ i, i < x.length → (nthR x i).length ≤ 100))
theorem few_ok {ro : List ABlk} {h : Heap} {a : AVal} {x : List (List Int)} (ha : IsMat ro h a x) (hx : x.length ≤ 9223372036854775807) : callX F1 ro 14 [a] h = some (.b (decide (few x)), h, h.length, h.length) := by
  refine g14_ok (meansX_ok F1 ro) rfl ?_
  unfold g14
  simp only [meansX_loop]
  have hloop := loop_if (b := fun s => g14_b0 (meansX F1 ro) ro a ⟨h, h.length, h.length⟩ s) (fun i => (i : Int)) x.length (fun i => (nthR x i).length ≤ 100) (.inl ()) (.inr false) ?_ ?_ ?_
  · have e0 : ((0 : Nat) : Int) = 0 := rfl
    rw [e0] at hloop
    rw [hloop]
    by_cases hf : ∀ i, i < x.length → (nthR x i).length ≤ 100
    · rw [if_pos hf]
      simp only [bindO_some, tupA, dT (show few x from hf)]
      exact fin_pure rfl
    · rw [if_neg hf]
      simp only [bindO_some, tupA, dF (show ¬ few x from hf)]
      exact fin_pure rfl
  · simp only [g14_b0, len_mat ha, bindO_some, asI_i, forceB_eq, ltI_eq]
    simp
  · intro i hi hp
    obtain ⟨p, u, h1, h2, h3, h4⟩ := at_mat (m := ⟨h, h.length, h.length⟩) rfl ha hi
    have e := lt_yes hi
    have h5 : (x.getD i []).length ≤ 100 := hp
    have e3 : decide ((100 : Int) < ((x.getD i []).length : Int)) = false := dF (by omega)
    simp only [g14_b0, len_mat ha, bindO_some, asI_i, forceB_eq, ltI_eq, e, cond_true, cond_false, h1, h2, len_row h4, e3, forceI_eq]
    rw [wr_id' (by omega) (by omega)]
    rfl
  · intro i hi hp
    obtain ⟨p, u, h1, h2, h3, h4⟩ := at_mat (m := ⟨h, h.length, h.length⟩) rfl ha hi
    have e := lt_yes hi
    have h5 : ¬ (x.getD i []).length ≤ 100 := hp
    have e3 : decide ((100 : Int) < ((x.getD i []).length : Int)) = true := dT (by omega)
    simp only [g14_b0, len_mat ha, bindO_some, asI_i, forceB_eq, ltI_eq, e, cond_true, h1, h2, len_row h4, e3]

end Go.Proofs.Ythdglempcfknhaa.T

/- Lists that a function makes by append. -/
open Go.Vm
set_option linter.unusedVariables false
namespace Go.Proofs.Ythdglempcfknhaa.T
open Go

/-- a list made by append, in a block from L on -/
def GV (hp : Heap) (L e es : Nat) (v : AVal) (k : Nat) (cs : List AVal) : Prop :=
  (v = .nsl ∧ k = 0 ∧ cs = []) ∨ ∃ b blk, v = .sl ⟨false, b, 0⟩ k .grow ∧ 0 < k ∧ L ≤ b ∧ lget hp b = some (some blk) ∧ blk.e = e ∧ cs.length = k * es ∧ k * es ≤ blk.n ∧ ∀ j, j < k * es → blk.c.get j = cs.getD j und
theorem GV.nil (hp : Heap) (L e es : Nat) : GV hp L e es .nsl 0 [] := .inl ⟨rfl, rfl, rfl⟩
/-- blocks below L, and those above that are kept, hold the list as before -/
theorem GV.by {hp hp' : Heap} {L e es k : Nat} {v : AVal} {cs : List AVal} (g : GV hp L e es v k cs) (kp : Keep hp hp') : GV hp' L e es v k cs := by
  rcases g with h | ⟨b, blk, h1, h2, h3, h4, h5⟩
  · exact .inl h
  · exact .inr ⟨b, blk, h1, h2, h3, by rw [lget_of (kp.2 b (lget_lt h4))]; exact h4, h5⟩
theorem row_row {t : Tr} : ∀ (n i : Nat) (cs : List AVal), cs.length = n → (∀ j, j < n → t.get (i + j) = cs.getD j und) → t.row i n = cs := by
  intro n i cs hl h
  subst hl
  exact row_list cs i h
theorem GV.push {ro : List ABlk} {hp : Heap} {L0 L e es bytes k : Nat} {z : List AVal} {v w : AVal} {cs ws : List AVal} (g : GV hp L e es v k cs) (hL0 : L0 ≤ L) (hL : L ≤ hp.length) (hk : k ≤ 100000) (hb : bytes ≤ 1000) (hes : 0 < es) (hz : z.length = es) (hw : w.cells = ws) (hwl : ws.length = es) (ho : ones ws = true) (hsp : splice z 0 ws = ws) :
    ∃ v2 hp2 v3 hp3, stepM ro ⟨hp, L0, L0⟩ (.bsl e es z 1 [((0, es), .c w)]) = some (v2, ⟨hp2, L0, L0⟩) ∧ stepM ro ⟨hp2, L0, L0⟩ (.app e es bytes z (.c v) (.c v2)) = some (v3, ⟨hp3, L0, L0⟩) ∧
      GV hp3 L e es v3 (k + 1) (cs ++ ws) ∧ hp.length ≤ hp3.length ∧ ∀ i, i < L → hp3[i]? = hp[i]? := by
  have s1 : stepM ro ⟨hp, L0, L0⟩ (.bsl e es z 1 [((0, es), .c w)]) = some (.sl ⟨false, hp.length, 0⟩ 1 (.known 1), ⟨hp ++ [some (blkOf e ws)], L0, L0⟩) := by
    simp [stepM, stepK, st_bsl, rep, fillA, opd, hw, hwl, hz, hsp, newB, St.mm]
  have src : app_src ro (hp ++ [some (blkOf e ws)]) es (.sl ⟨false, hp.length, 0⟩ 1 (.known 1)) = some (ws, 1) := by
    have hbq : rdB ro (hp ++ [some (blkOf e ws)]) ⟨false, hp.length, 0⟩ = some (blkOf e ws) := by simp [rdB, lget_eq]
    have hg : (blkOf e ws).c.row 0 es = ws := row_row es 0 ws hwl fun j hj => by rw [Nat.zero_add, get_blk]
    have hble : Nat.ble (0 + 1 * es) (blkOf e ws).n = true := by rw [Nat.ble_eq]; show 0 + 1 * es ≤ ws.length; omega
    simp only [app_src, hbq, hble, cond_true]
    rw [show 1 * es = es by omega, hg]
  rcases g with ⟨rfl, rfl, rfl⟩ | ⟨b, blk, rfl, hpos, hLb, hbk, hbe, hcl, hbn, hrows⟩
  · refine ⟨_, _, .sl ⟨false, hp.length + 1, 0⟩ 1 .grow, hp ++ [some (blkOf e ws)] ++ [some (blkOf e ws)], s1, ?_, .inr ⟨hp.length + 1, blkOf e ws, rfl, by omega, by omega, ?_, rfl, by simp; omega, by show 1 * es ≤ ws.length; omega, fun j hj => ?_⟩, by simp, fun i hi => ?_⟩
    · have hb1 : Nat.beq 1 0 = false := rfl
      simp only [stepM, stepK, opd, st_app, src, hb1, cond_false, fits_small (by omega : 1 ≤ 1000000) hb, cond_true, newB, St.mm, List.length_append, List.length_cons, List.length_nil, Nat.zero_add]
    · have := lget_last (hp ++ [some (blkOf e ws)]) (some (blkOf e ws))
      rwa [List.length_append, List.length_singleton] at this
    · rw [get_blk]; simp
    · rw [List.append_assoc, List.getElem?_append_left (by omega)]
  · obtain ⟨hp2, e2⟩ : ∃ hp2, hp2 = hp ++ [some (blkOf e ws)] := ⟨_, rfl⟩
    rw [← e2] at src s1
    have hlt : b < hp.length := lget_lt hbk
    have hb2 : lget hp2 b = some (some blk) := by rw [e2]; exact lget_ext hbk _
    have hlen2 : hp2.length = hp.length + 1 := by rw [e2]; simp
    have hrow : blk.c.row 0 (k * es) = cs := row_row (k * es) 0 cs hcl fun j hj => by rw [Nat.zero_add]; exact hrows j hj
    have hke : 0 < k * es := Nat.mul_pos hpos hes
    refine ⟨_, _, .sl ⟨false, hp2.length, 0⟩ (k + 1) .grow, lset none hp2 b ++ [some (blkOf e (cs ++ ws))], s1, ?_, .inr ⟨hp2.length, blkOf e (cs ++ ws), rfl, by omega, by omega, ?_, rfl, ?_, ?_, fun j hj => ?_⟩, ?_, fun i hi => ?_⟩
    · have h1 : (Nat.beq blk.e e && Nat.ble (k * es) blk.n && fits (k + 1) bytes && ones ws) = true := by
        rw [hbe, fits_small (by omega : k + 1 ≤ 1000000) hb]
        simp [ho, Nat.ble_eq]; omega
      have h2 : (!Nat.beq 0 0) = false := rfl
      have h3 : Nat.blt 0 blk.n = true := by rw [Nat.blt_eq]; omega
      have hb10 : Nat.beq 1 0 = false := rfl
      simp only [stepM, stepK, opd, st_app, src, app_grow, hb10, h2, cond_false, Bool.or_false, Bool.false_or, hb2, h1, h3, Bool.and_self, cond_true, St.mm, hrow, Nat.min_eq_left (Nat.le_trans hL0 hLb)]
    · rw [lget_eq, lset_eq, List.getElem?_append_right (by simp)]
      simp
    · rw [List.length_append, hcl, hwl, Nat.add_mul]; omega
    · show (k + 1) * es ≤ (cs ++ ws).length
      rw [List.length_append, hcl, hwl, Nat.add_mul]; omega
    · rw [get_blk]
    · simp [lset_eq]; omega
    · rw [lset_eq, List.getElem?_append_left (by simp; omega), List.getElem?_set_ne (by omega), e2, List.getElem?_append_left (by omega)]
theorem GV.row {ro : List ABlk} {hp : Heap} {L e : Nat} {v : AVal} {k : Nat} {z : List Int} (g : GV hp L e 1 v k (z.map (AVal.i .i64))) (hk : z.length = k) : IsRow ro hp v z := by
  subst hk
  rcases g with ⟨rfl, h2, -⟩ | ⟨b, blk, rfl, hpos, hLb, hbk, hbe, hcl, hbn, hrows⟩
  · exact .inl ⟨rfl, List.length_eq_zero_iff.1 h2⟩
  · refine .inr ⟨_, _, blk, rfl, rdB_heap hbk 0, by simpa using hbn, fun j hj => ?_⟩
    rw [Nat.zero_add, hrows j (by omega), map_getD hj]
end Go.Proofs.Ythdglempcfknhaa.T

/- Groups as bits: the operations on them. -/
open Go.Vm
set_option linter.unusedVariables false
namespace Go.Proofs.Ythdglempcfknhaa.T
open Go

theorem ofInt64 {a : Nat} (ha : a < 9223372036854775808) : (BitVec.ofInt 64 (a : Int)).toNat = a := by
  rw [BitVec.ofInt_natCast, BitVec.toNat_ofNat]; exact Nat.mod_eq_of_lt (by omega)
theorem and64 {a b : Nat} (ha : a < 9223372036854775808) (hb : b < 9223372036854775808) : bitV .and .i64 (a : Int) (b : Int) = ((a &&& b : Nat) : Int) := by
  have hx : a &&& b < 2 ^ 63 := Nat.and_lt_two_pow _ (by omega)
  show numA (some (mkI .i64 (IntKind.i64.wrap ((BitVec.ofInt 64 (a : Int) &&& BitVec.ofInt 64 (b : Int)).toNat : Int)))) = _
  rw [mkI_eq, BitVec.toNat_and, ofInt64 ha, ofInt64 hb, wrap_i64_in _ (by omega) (by omega)]
  rfl
theorem or64 {a b : Nat} (ha : a < 9223372036854775808) (hb : b < 9223372036854775808) : bitV .or .i64 (a : Int) (b : Int) = ((a ||| b : Nat) : Int) := by
  have hx : a ||| b < 2 ^ 63 := Nat.or_lt_two_pow (by omega) (by omega)
  show numA (some (mkI .i64 (IntKind.i64.wrap ((BitVec.ofInt 64 (a : Int) ||| BitVec.ofInt 64 (b : Int)).toNat : Int)))) = _
  rw [mkI_eq, BitVec.toNat_or, ofInt64 ha, ofInt64 hb, wrap_i64_in _ (by omega) (by omega)]
  rfl
theorem shl64 {a c : Nat} (hc : c ≤ 60) (hr : a * 2 ^ c < 9223372036854775808) : shlV .i64 (a : Int) (c : Int) = ((a * 2 ^ c : Nat) : Int) := by
  unfold shlV
  have : min ((c : Int).toNat) (IntKind.i64.bits) = c := by
    show min c 64 = c
    omega
  rw [this]
  have e : ((a : Int) * ((2 ^ c : Nat) : Int)) = ((a * 2 ^ c : Nat) : Int) := (Int.natCast_mul _ _).symm
  show Go.Vm.wr .i64 ((a : Int) * ((2 ^ c : Nat) : Int)) = _
  rw [e, wr_id' (by omega) (by omega)]
theorem shr64 {a c : Nat} (hc : c ≤ 60) : shrV .i64 (a : Int) (c : Int) = ((a / 2 ^ c : Nat) : Int) := by
  unfold shrV
  have : min ((c : Int).toNat) (IntKind.i64.bits) = c := by
    show min c 64 = c
    omega
  rw [this]
  show Int.fdiv (a : Int) (((2 ^ c : Nat)) : Int) = _
  rw [Int.fdiv_eq_ediv_of_nonneg _ (Int.natCast_nonneg _)]
  norm_cast
theorem neg_ltI {a : Nat} : (!ltI (a : Int) (.ofNat 0)) = true := by
  rw [ltI_eq]
  have : decide ((a : Int) < Int.ofNat 0) = false := decide_eq_false (by show ¬ ((a : Int) < 0); omega)
  rw [this]; rfl
theorem shl1 {a : Nat} (ha : a ≤ 60) : shlV .i64 1 (a : Int) = ((2 ^ a : Nat) : Int) := by
  have h2 : 2 ^ a ≤ 2 ^ 60 := Nat.pow_le_pow_right (by omega) ha
  have := shl64 (a := 1) (c := a) ha (by omega)
  rw [Nat.one_mul] at this
  exact this
theorem bit_odd (a k : Nat) : ((a / 2 ^ k : Nat) &&& 1) = if a.testBit k then 1 else 0 := by
  rw [Nat.and_one_is_mod, Nat.testBit_eq_decide_div_mod_eq]
  by_cases h : a / 2 ^ k % 2 = 1
  · simp [h]
  · have : a / 2 ^ k % 2 = 0 := by omega
    simp [this]
theorem odd_and {a k : Nat} (ha : a < 9223372036854775808) (hk : k ≤ 60) : eqI (bitV .and .i64 (shrV .i64 (a : Int) (k : Int)) 1) 1 = a.testBit k := by
  rw [shr64 hk]
  have hlt : a / 2 ^ k < 9223372036854775808 := Nat.lt_of_le_of_lt (Nat.div_le_self _ _) ha
  have e := and64 hlt (show 1 < 9223372036854775808 by omega)
  have e1 : ((1 : Nat) : Int) = 1 := rfl
  rw [e1] at e
  rw [e, bit_odd, eqI_eq]
  cases a.testBit k <;> rfl
theorem has60 {ro : List ABlk} {h : Heap} {a k : Nat} (ha : a < 9223372036854775808) (hk : k ≤ 60) : callX F1 ro 60 [.i .i64 (a : Int), .i .i64 (k : Int)] h = some (.b (a.testBit k), h, h.length, h.length) := by
  refine g60_ok (meansX_ok F1 ro) rfl ?_
  unfold g60
  simp only [neg_ltI, chk_true, forceI_eq, odd_and ha hk, forceB_eq, tupA]
  exact fin_pure rfl
end Go.Proofs.Ythdglempcfknhaa.T

/- What a cost is: the program and the reference. -/
open Go.Vm
set_option linter.unusedVariables false
namespace Go.Proofs.Ythdglempcfknhaa.T
open Go

/-- all numbers within a limit -/
def withinP (c : List Int) (L : Int) : Prop := ∀ j, j < c.length → -L ≤ c.getD j 0 ∧ c.getD j 0 ≤ L
instance (c : List Int) (L : Int) : Decidable (withinP c L) := inferInstanceAs (Decidable (∀ j, j < c.length → -L ≤ c.getD j 0 ∧ c.getD j 0 ≤ L))
def costP (n : Int) (c : List Int) : Prop := (1 ≤ n ∧ n ≤ 6) ∧ (c.length : Int) = ((2 ^ n.toNat : Nat) : Int) ∧ c.getD 0 0 = 0 ∧ withinP c 1000000
instance (n : Int) (c : List Int) : Decidable (costP n c) := inferInstanceAs (Decidable ((1 ≤ n ∧ n ≤ 6) ∧ (c.length : Int) = ((2 ^ n.toNat : Nat) : Int) ∧ c.getD 0 0 = 0 ∧ withinP c 1000000))
def sharP (n : Int) (s : List Int) : Prop := (s.length : Int) = n ∧ withinP s 6000000
instance (n : Int) (s : List Int) : Decidable (sharP n s) := inferInstanceAs (Decidable (_ ∧ _))

section
variable {ro : List ABlk} {h : Heap} {a : AVal} {c : List Int}
theorem within50 {x L : Int} (h0 : 0 ≤ L) (h1 : L ≤ 1000000000) : callX F1 ro 50 [.i .i64 x, .i .i64 L] h = some (.b (decide (-L ≤ x ∧ x ≤ L)), h, h.length, h.length) := by
  refine g50_ok (meansX_ok F1 ro) rfl ?_
  unfold g50
  simp only [forceI_eq, forceB_eq, ltI_eq]
  rw [wr_id' (by omega) (by omega)]
  by_cases h2 : -L ≤ x
  · by_cases h3 : x ≤ L
    · simp only [dF (show ¬ x < 0 - L by omega), dF (show ¬ L < x by omega), Bool.not_false, cond_true, bindO_some, dT (show -L ≤ x ∧ x ≤ L from ⟨h2, h3⟩), tupA]; exact fin_pure rfl
    · simp only [dF (show ¬ x < 0 - L by omega), dT (show L < x by omega), Bool.not_false, Bool.not_true, cond_true, bindO_some, dF (show ¬ (-L ≤ x ∧ x ≤ L) from fun hh => h3 hh.2), tupA]; exact fin_pure rfl
  · simp only [dT (show x < 0 - L by omega), Bool.not_true, cond_false, bindO_some, dF (show ¬ (-L ≤ x ∧ x ≤ L) from fun hh => h2 hh.1), tupA]; exact fin_pure rfl
theorem all87 {L : Int} (ha : IsRow ro h a c) (hl : c.length ≤ 9223372036854775807) (h0 : 0 ≤ L) (h1 : L ≤ 1000000000) : callX F1 ro 87 [a, .i .i64 L] h = some (.b (decide (withinP c L)), h, h.length, h.length) := by
  refine g87_ok (meansX_ok F1 ro) rfl ?_
  unfold g87
  simp only [len_row ha, bindO_some, asI_i, meansX_loop]
  have hloop := loop_if (b := fun s : Int × Mm => g87_b0 (meansX F1 ro) ro L a c.length s.1 s.2) (fun i => ((i : Int), (⟨h, h.length, h.length⟩ : Mm))) c.length (fun i => -L ≤ c.getD i 0 ∧ c.getD i 0 ≤ L) (.inl ⟨h, h.length, h.length⟩) (.inr (false, ⟨h, h.length, h.length⟩)) ?_ ?_ ?_
  · have e0 : ((0 : Nat) : Int) = 0 := rfl
    rw [e0] at hloop
    rw [hloop]
    by_cases hf : withinP c L
    · rw [if_pos (show ∀ i, i < c.length → _ from hf)]
      simp only [bindO_some, dT hf, tupA]; exact fin_pure rfl
    · rw [if_neg (show ¬ ∀ i, i < c.length → _ from hf)]
      simp only [bindO_some, dF hf, tupA]; exact fin_pure rfl
  · simp only [g87_b0, forceB_eq, ltI_eq, lt_no, cond_false]
  · intro i hi hp
    obtain ⟨p, q1, q2, q3⟩ := at_row (m := ⟨h, h.length, h.length⟩) rfl ha hi
    simp only [g87_b0, forceB_eq, ltI_eq, lt_yes hi, cond_true, q1, q2, bindO_some, asI_i, meansX_call, cp0 (within50 h0 h1), bindP_some, asB_b, dT hp, Bool.not_true, cond_false, forceI_eq]
    rw [wr_id' (by omega) (by omega)]; rfl
  · intro i hi hp
    obtain ⟨p, q1, q2, q3⟩ := at_row (m := ⟨h, h.length, h.length⟩) rfl ha hi
    simp only [g87_b0, forceB_eq, ltI_eq, lt_yes hi, cond_true, q1, q2, bindO_some, asI_i, meansX_call, cp0 (within50 h0 h1), bindP_some, asB_b, dF hp, Bool.not_false]
theorem count84 {n : Int} : callX F1 ro 84 [.i .i64 n] h = some (.b (decide (1 ≤ n ∧ n ≤ 6)), h, h.length, h.length) := by
  refine g84_ok (meansX_ok F1 ro) rfl ?_
  unfold g84
  simp only [forceB_eq, ltI_eq]
  by_cases h1 : 1 ≤ n
  · by_cases h2 : n ≤ 6
    · simp only [dF (show ¬ n < 1 by omega), dF (show ¬ 6 < n by omega), Bool.not_false, cond_true, bindO_some, dT (show 1 ≤ n ∧ n ≤ 6 from ⟨h1, h2⟩), tupA]; exact fin_pure rfl
    · simp only [dF (show ¬ n < 1 by omega), dT (show 6 < n by omega), Bool.not_false, Bool.not_true, cond_true, bindO_some, dF (show ¬ (1 ≤ n ∧ n ≤ 6) from fun hh => h2 hh.2), tupA]; exact fin_pure rfl
  · simp only [dT (show n < 1 by omega), Bool.not_true, cond_false, bindO_some, dF (show ¬ (1 ≤ n ∧ n ≤ 6) from fun hh => h1 hh.1), tupA]; exact fin_pure rfl
theorem pow_pos (k : Nat) : 0 < 2 ^ k := Nat.two_pow_pos k
theorem pow6 {k : Nat} (h : k ≤ 6) : 2 ^ k ≤ 64 := Nat.pow_le_pow_right (by omega) h
theorem shl_n {n : Int} (h1 : 1 ≤ n) (h2 : n ≤ 6) : (!ltI n (.ofNat 0)) = true ∧ shlV .i64 1 n = ((2 ^ n.toNat : Nat) : Int) := by
  obtain ⟨k, rfl⟩ : ∃ k : Nat, n = (k : Int) := ⟨n.toNat, by omega⟩
  exact ⟨neg_ltI, shl1 (by omega)⟩
theorem cost44 {n : Int} (ha : IsRow ro h a c) (hl : c.length ≤ 9223372036854775807) : callX F1 ro 44 [.i .i64 n, a] h = some (.b (decide (costP n c)), h, h.length, h.length) := by
  refine g44_ok (meansX_ok F1 ro) rfl ?_
  unfold g44
  simp only [meansX_call, cp0 count84, bindP_some, asB_b]
  by_cases h1 : 1 ≤ n ∧ n ≤ 6
  · obtain ⟨e1, e2⟩ := shl_n h1.1 h1.2
    simp only [dT h1, cond_true, len_row ha, bindO_some, asI_i, e1, e2, chk_true, forceI_eq, forceB_eq, eqI_eq]
    by_cases h2 : (c.length : Int) = ((2 ^ n.toNat : Nat) : Int)
    · have hc : 0 < c.length := by have := pow_pos n.toNat; omega
      obtain ⟨p, q1, q2, q3⟩ := at_row (m := ⟨h, h.length, h.length⟩) rfl ha hc
      have e0 : ((0 : Nat) : Int) = 0 := rfl
      rw [e0] at q1
      have b2 : ((c.length : Int) == ((2 ^ n.toNat : Nat) : Int)) = true := by rw [h2]; simp
      simp only [b2, cond_true, q1, q2, bindO_some, asI_i, eqI_eq]
      by_cases h3 : c.getD 0 0 = 0
      · have b3 : (c.getD 0 0 == 0) = true := by rw [h3]; rfl
        simp only [b3, cond_true, cp0 (all87 (L := 1000000) ha hl (by omega) (by omega)), bindP_some, asB_b, bindO_some]
        by_cases h4 : withinP c 1000000
        · simp only [dT h4, dT (show costP n c from ⟨h1, h2, h3, h4⟩), tupA]; exact fin_pure rfl
        · simp only [dF h4, dF (show ¬ costP n c from fun hh => h4 hh.2.2.2), tupA]; exact fin_pure rfl
      · have b3 : (c.getD 0 0 == 0) = false := by simpa using h3
        simp only [b3, cond_false, bindO_some, dF (show ¬ costP n c from fun hh => h3 hh.2.2.1), tupA]; exact fin_pure rfl
    · have b2 : ((c.length : Int) == ((2 ^ n.toNat : Nat) : Int)) = false := by simpa using h2
      simp only [b2, cond_false, bindO_some, dF (show ¬ costP n c from fun hh => h2 hh.2.1), tupA]; exact fin_pure rfl
  · simp only [dF h1, cond_false, bindO_some, dF (show ¬ costP n c from fun hh => h1 hh.1), tupA]; exact fin_pure rfl
theorem cost48 {n : Int} (ha : IsRow ro h a c) (hl : c.length ≤ 9223372036854775807) : callX F1 ro 48 [.i .i64 n, a] h = some (.b (decide (costP n c)), h, h.length, h.length) := by
  refine g48_ok (meansX_ok F1 ro) rfl ?_
  unfold g48
  simp only [forceB_eq, ltI_eq, meansX_loop]
  by_cases h0 : n < 1
  · simp only [dT h0, cond_true, bindO_some, dF (show ¬ costP n c from fun hh => by have := hh.1.1; omega), tupA]; exact fin_pure rfl
  by_cases h6 : 6 < n
  · simp only [dF h0, dT h6, cond_true, cond_false, bindO_some, dF (show ¬ costP n c from fun hh => by have := hh.1.2; omega), tupA]; exact fin_pure rfl
  have h1 : 1 ≤ n ∧ n ≤ 6 := by omega
  obtain ⟨e1, e2⟩ := shl_n h1.1 h1.2
  rw [ltI_eq] at e1
  simp only [dF h0, dF h6, cond_false, len_row ha, bindO_some, asI_i, e1, e2, chk_true, forceI_eq, eqI_eq]
  by_cases h2 : (c.length : Int) = ((2 ^ n.toNat : Nat) : Int)
  · have hc : 0 < c.length := by have := pow_pos n.toNat; omega
    obtain ⟨p, q1, q2, q3⟩ := at_row (m := ⟨h, h.length, h.length⟩) rfl ha hc
    have e0 : ((0 : Nat) : Int) = 0 := rfl
    rw [e0] at q1
    have b2 : ((c.length : Int) == ((2 ^ n.toNat : Nat) : Int)) = true := by rw [h2]; simp
    simp only [b2, Bool.not_true, cond_false, q1, q2, bindO_some, asI_i, eqI_eq]
    by_cases h3 : c.getD 0 0 = 0
    · have b3 : (c.getD 0 0 == 0) = true := by rw [h3]; rfl
      simp only [b3, Bool.not_true, cond_false]
      have hloop := loop_if (b := fun s : Int => g48_b3 (meansX F1 ro) ro a ⟨h, h.length, h.length⟩ s) (fun i => (i : Int)) c.length (fun i => -1000000 ≤ c.getD i 0 ∧ c.getD i 0 ≤ 1000000) (.inl ()) (.inr false) ?_ ?_ ?_
      · rw [e0] at hloop
        rw [hloop]
        by_cases hf : withinP c 1000000
        · rw [if_pos (show ∀ i, i < c.length → _ from hf)]
          simp only [bindO_some, dT (show costP n c from ⟨h1, h2, h3, hf⟩), tupA]; exact fin_pure rfl
        · rw [if_neg (show ¬ ∀ i, i < c.length → _ from hf)]
          simp only [bindO_some, dF (show ¬ costP n c from fun hh => hf hh.2.2.2), tupA]; exact fin_pure rfl
      · simp only [g48_b3, len_row ha, bindO_some, asI_i, forceB_eq, ltI_eq, lt_no, cond_false]
      · intro i hi hp
        obtain ⟨p, q1, q2, q3⟩ := at_row (m := ⟨h, h.length, h.length⟩) rfl ha hi
        simp only [g48_b3, len_row ha, bindO_some, asI_i, forceB_eq, ltI_eq, lt_yes hi, cond_true, q1, q2, dF (show ¬ c.getD i 0 < -1000000 by omega), dF (show ¬ (1000000 : Int) < c.getD i 0 by omega), cond_false, forceI_eq]
        rw [wr_id' (by omega) (by omega)]; rfl
      · intro i hi hp
        obtain ⟨p, q1, q2, q3⟩ := at_row (m := ⟨h, h.length, h.length⟩) rfl ha hi
        by_cases hlo : c.getD i 0 < -1000000
        · simp only [g48_b3, len_row ha, bindO_some, asI_i, forceB_eq, ltI_eq, lt_yes hi, cond_true, q1, q2, dT hlo]
        · simp only [g48_b3, len_row ha, bindO_some, asI_i, forceB_eq, ltI_eq, lt_yes hi, cond_true, q1, q2, dF hlo, cond_false, dT (show (1000000 : Int) < c.getD i 0 by omega)]
    · have b3 : (c.getD 0 0 == 0) = false := by simpa using h3
      simp only [b3, Bool.not_false, cond_true, dF (show ¬ costP n c from fun hh => h3 hh.2.2.1), tupA]; exact fin_pure rfl
  · have b2 : ((c.length : Int) == ((2 ^ n.toNat : Nat) : Int)) = false := by simpa using h2
    simp only [b2, Bool.not_false, cond_true, bindO_some, dF (show ¬ costP n c from fun hh => h2 hh.2.1), tupA]; exact fin_pure rfl
end
end Go.Proofs.Ythdglempcfknhaa.T

/- Tests as function values, the groups that pass them. -/
open Go.Vm
set_option linter.unusedVariables false
namespace Go.Proofs.Ythdglempcfknhaa.T
open Go

/-- a function value that answers a test for groups below N, whatever more there is in memory -/
def IsTest (ro : List ABlk) (h : Heap) (v : AVal) (N : Nat) (P : Nat → Bool) : Prop :=
  ∃ f capt, v = .fn f [] capt ∧ ∀ H, Keep h H → ∀ g, g < N → callX F1 ro f ([] ++ [.i .i64 (g : Int)] ++ capt) H = some (.b (P g), H, H.length, H.length)
theorem IsTest.by {ro : List ABlk} {h H : Heap} {v : AVal} {N : Nat} {P : Nat → Bool} (a : IsTest ro h v N P) (k : Keep h H) : IsTest ro H v N P := by
  obtain ⟨f, c, rfl, h1⟩ := a
  exact ⟨f, c, rfl, fun H' k' => h1 H' (k.trans k')⟩
abbrev tru : Nat → Bool := fun _ => true
def IsTests (ro : List ABlk) (h : Heap) (v : AVal) (N : Nat) (Ps : List (Nat → Bool)) : Prop :=
  (v = .nsl ∧ Ps = []) ∨ ∃ q cap blk, v = .sl q Ps.length cap ∧ rdB ro h q = some blk ∧ q.off + Ps.length ≤ blk.n ∧ ∀ j, j < Ps.length → IsTest ro h (blk.c.get (q.off + j)) N (Ps.getD j tru)
theorem rdB_keep {ro : List ABlk} {h H : Heap} {q : Vm.Loc} {blk : ABlk} (k : Keep h H) (a : rdB ro h q = some blk) : rdB ro H q = some blk := by
  rw [take_eq k.1 k.2]; exact rdB_ext _ a
theorem IsTests.by {ro : List ABlk} {h H : Heap} {v : AVal} {N : Nat} {Ps : List (Nat → Bool)} (a : IsTests ro h v N Ps) (k : Keep h H) : IsTests ro H v N Ps := by
  rcases a with h1 | ⟨q, cap, blk, rfl, h1, h2, h3⟩
  · exact .inl h1
  · exact .inr ⟨q, cap, blk, rfl, rdB_keep k h1, h2, fun j hj => (h3 j hj).by k⟩
/-- a list in memory that a function made itself -/
def New (L : Nat) (v : AVal) : Prop := v = .nsl ∨ ∃ b n cap, v = .sl ⟨false, b, 0⟩ n cap ∧ L ≤ b
theorem GV.new {hp : Heap} {L e es k : Nat} {v : AVal} {cs : List AVal} (g : GV hp L e es v k cs) : New L v := by
  rcases g with ⟨rfl, -⟩ | ⟨b, blk, rfl, -, hL, -⟩
  · exact .inl rfl
  · exact .inr ⟨b, _, _, rfl, hL⟩
/-- such a list is kept if its memory is -/
theorem New.row {ro : List ABlk} {H H' : Heap} {L : Nat} {v : AVal} {z : List Int} (n : New L v) (a : IsRow ro H v z) (h : ∀ b, L ≤ b → b < H.length → H'[b]? = H[b]?) : IsRow ro H' v z := by
  rcases n with rfl | ⟨b, m, cap, rfl, hL⟩
  · rcases a with ⟨-, rfl⟩ | ⟨q, cap, blk, e, -⟩
    · exact .inl ⟨rfl, rfl⟩
    · cases e
  · rcases a with ⟨e, -⟩ | ⟨q, cap', blk, e, hb, hn, hc⟩
    · cases e
    · cases e
      refine .inr ⟨_, _, blk, rfl, ?_, hn, hc⟩
      have hlt := rdB_lt hb
      unfold rdB at hb ⊢
      simp only [cond_false, Bool.false_or] at hb hlt ⊢
      rw [lget_of (h b hL (by simpa [Nat.blt_eq] using hlt))]; exact hb
section
variable {ro : List ABlk} {h : Heap} {v : AVal} {N : Nat} {Ps : List (Nat → Bool)}
theorem len_tests (a : IsTests ro h v N Ps) : evP .e (.len false (.c v)) = some (.i .i64 (Ps.length : Int)) := by
  rcases a with ⟨rfl, rfl⟩ | ⟨q, cap, blk, rfl, -⟩
  · rfl
  · simp [evP, ev_len, opd, mkI_eq]
theorem all_iff (g : Nat) : (Ps.all fun P => P g) = true ↔ ∀ i, i < Ps.length → Ps.getD i tru g = true := by
  rw [List.all_eq_true]
  constructor
  · intro hh i hi
    have : Ps.getD i tru = Ps[i] := by simp [List.getD, hi]
    rw [this]; exact hh _ (List.getElem_mem hi)
  · intro hh P hP
    obtain ⟨i, hi, rfl⟩ := List.getElem_of_mem hP
    have := hh i hi
    simpa [List.getD, hi] using this
theorem passes88 (a : IsTests ro h v N Ps) (hl : Ps.length ≤ 1000) {g : Nat} (hg : g < N) : callX F1 ro 88 [.i .i64 (g : Int), v] h = some (.b (Ps.all fun P => P g), h, h.length, h.length) := by
  refine g88_ok (meansX_ok F1 ro) rfl ?_
  unfold g88
  simp only [len_tests a, bindO_some, asI_i, meansX_loop]
  have at_t : ∀ i, i < Ps.length → ∃ p f capt, evP .e (.ixS 1 (.c v) (.c (.i .i64 (i : Int)))) = some p ∧ ldM ro ⟨h, h.length, h.length⟩ true 1 p = some (.fn f [] capt) ∧ callX F1 ro f ([] ++ [.i .i64 (g : Int)] ++ capt) h = some (.b (Ps.getD i tru g), h, h.length, h.length) := by
    intro i hi
    rcases a with ⟨rfl, rfl⟩ | ⟨q, cap, blk, rfl, h1, h2, h3⟩
    · simp at hi
    · obtain ⟨f, c, e, h4⟩ := h3 i hi
      have h5 := rd_one (i := i) h1 (by omega)
      exact ⟨_, f, c, ixS_eq hi, by simp only [ldM, h5, e], h4 h (Keep.refl h) g hg⟩
  have hloop := loop_if (b := fun s : Int × Mm => g88_b0 (meansX F1 ro) ro (g : Int) v Ps.length s.1 s.2) (fun i => ((i : Int), (⟨h, h.length, h.length⟩ : Mm))) Ps.length (fun i => Ps.getD i tru g = true) (.inl ⟨h, h.length, h.length⟩) (.inr (false, ⟨h, h.length, h.length⟩)) ?_ ?_ ?_
  · have e0 : ((0 : Nat) : Int) = 0 := rfl
    rw [e0] at hloop
    rw [hloop]
    by_cases hf : ∀ i, i < Ps.length → Ps.getD i tru g = true
    · rw [if_pos hf, (all_iff g).2 hf]
      simp only [bindO_some, tupA]; exact fin_pure rfl
    · have : (Ps.all fun P => P g) = false := by
        cases hh : (Ps.all fun P => P g)
        · rfl
        · exact absurd ((all_iff g).1 hh) hf
      rw [if_neg hf, this]
      simp only [bindO_some, tupA]; exact fin_pure rfl
  · simp only [g88_b0, forceB_eq, ltI_eq, lt_no, cond_false]
  · intro i hi hp
    obtain ⟨p, f, c, q1, q2, q3⟩ := at_t i hi
    simp only [g88_b0, forceB_eq, ltI_eq, lt_yes hi, cond_true, q1, q2, bindO_some, callyM, callvM, meansX_call, cp0 q3, bindP_some, asB_b, hp, Bool.not_true, cond_false, forceI_eq]
    rw [wr_id' (by omega) (by omega)]; rfl
  · intro i hi hp
    obtain ⟨p, f, c, q1, q2, q3⟩ := at_t i hi
    have hp' : Ps.getD i tru g = false := by simpa using hp
    simp only [g88_b0, forceB_eq, ltI_eq, lt_yes hi, cond_true, q1, q2, bindO_some, callyM, callvM, meansX_call, cp0 q3, bindP_some, asB_b, hp', Bool.not_false]
/-- the groups below N that pass all tests -/
def grp (N : Nat) (Ps : List (Nat → Bool)) : List Nat := (List.range N).filter fun g => Ps.all fun P => P g
theorem filter_succ (f : Nat → Bool) (i : Nat) : (List.range (i + 1)).filter f = (List.range i).filter f ++ cond (f i) [i] [] := by
  rw [List.range_succ, List.filter_append]
  cases h : f i <;> simp [h]
theorem groups45N {k : Nat} (hk : k ≤ 6) (hN : N = 2 ^ k) (a : IsTests ro h v N Ps) (hl : Ps.length ≤ 1000) :
    ∃ out H, callX F1 ro 45 [.i .i64 (k : Int), v] h = some (out, H, h.length, h.length) ∧ Keep h H ∧ IsRow ro H out (nts (grp N Ps)) ∧ New h.length out := by
  have h64 : N ≤ 64 := by rw [hN]; exact pow6 hk
  have key : ∃ r, loopX (fun s : AVal × Int × Mm => g45_b0 (meansX F1 ro) ro v ((N : Nat) : Int) s.1 s.2.1 s.2.2) (AVal.nsl, 0, ⟨h, h.length, h.length⟩) = some r ∧ ∃ w H, r = (w, ⟨H, h.length, h.length⟩) ∧ Keep h H ∧ IsRow ro H w (nts (grp N Ps)) ∧ New h.length w := by
    refine loop_gen N (fun i s => ∃ w H, s = (w, (i : Int), ⟨H, h.length, h.length⟩) ∧ Keep h H ∧ GV H h.length 3 1 w ((List.range i).filter fun g => Ps.all fun P => P g).length ((nts ((List.range i).filter fun g => Ps.all fun P => P g)).map (AVal.i .i64))) _ ?_ ?_ N 0 _ (by omega) ⟨.nsl, h, rfl, Keep.refl h, GV.nil _ _ _ _⟩
    · rintro i s hi ⟨w, H, rfl, kp, g⟩
      have hlen : ((List.range i).filter fun g => Ps.all fun P => P g).length ≤ 100000 := by
        have := List.length_filter_le (fun g => Ps.all fun P => P g) (List.range i)
        rw [List.length_range] at this
        omega
      have hpass := passes88 (a.by kp) hl (g := i) (by omega)
      simp only [g45_b0, forceB_eq, ltI_eq, lt_yes hi, cond_true, meansX_call, callM_pure hpass kp.1 kp.1, bindP_some, asB_b]
      rw [filter_succ]
      cases hf : (Ps.all fun P => P i)
      · simp only [cond_false, bindO_some, forceI_eq, wr_next (show i ≤ 1000000 by omega)]
        exact ⟨_, rfl, w, H, rfl, kp, by simpa using g⟩
      · obtain ⟨v2, hp2, v3, hp3, s1, s2, g2, k1, k2⟩ := GV.push (ro := ro) (L0 := h.length) (bytes := 8) (z := [AVal.i .i64 0]) (w := .i .i64 (i : Int)) (ws := [.i .i64 (i : Int)]) g (Nat.le_refl _) kp.1 hlen (by omega) (by omega) rfl rfl rfl rfl rfl
        simp only [cond_true, s1, bindP_some, s2, bindO_some, forceI_eq, wr_next (show i ≤ 1000000 by omega)]
        refine ⟨_, rfl, v3, hp3, rfl, ⟨Nat.le_trans kp.1 k1, fun j hj => by rw [k2 j hj, kp.2 j hj]⟩, ?_⟩
        rw [List.length_append, nts_app]
        simpa using g2
    · rintro s ⟨w, H, rfl, kp, g⟩
      simp only [g45_b0, forceB_eq, ltI_eq, lt_no, cond_false]
      exact ⟨_, rfl, w, H, rfl, kp, GV.row g (by rw [nts_len]; rfl), g.new⟩
  obtain ⟨r, h1, w, H, rfl, kp, hrow, hnew⟩ := key
  obtain ⟨H', f1, f2, f3⟩ := fin_rowW (w := w) kp hrow rfl
  refine ⟨w, H', g45_ok (meansX_ok F1 ro) rfl ?_, f2, f3, hnew⟩
  unfold g45
  have hs : shlV .i64 1 (k : Int) = ((N : Nat) : Int) := by rw [hN]; exact shl1 (by omega)
  simp only [neg_ltI, chk_true, forceI_eq, hs, meansX_loop]
  rw [h1]
  simp only [bindO_some, tupA]
  exact f1
theorem groups45 {k : Nat} (hk : k ≤ 6) (hN : N = 2 ^ k) (a : IsTests ro h v N Ps) (hl : Ps.length ≤ 1000) :
    ∃ out H, callX F1 ro 45 [.i .i64 (k : Int), v] h = some (out, H, h.length, h.length) ∧ Keep h H ∧ IsRow ro H out (nts (grp N Ps)) := by
  obtain ⟨out, H, h1, h2, h3, -⟩ := groups45N hk hN a hl
  exact ⟨out, H, h1, h2, h3⟩
end
theorem row_cells {ro : List ABlk} {h : Heap} {v : AVal} {z : List Int} (a : IsRow ro h v z) : v.cells = [v] ∧ v.one = true := by
  rcases a with ⟨rfl, -⟩ | ⟨q, cap, blk, rfl, -⟩ <;> exact ⟨rfl, rfl⟩
theorem bx1 {ro : List ABlk} {hp : Heap} {l p e : Nat} {v : AVal} (hv : v.cells = [v]) : stepM ro ⟨hp, l, p⟩ (.bx e 1 (.c v)) = some (.p (some ⟨false, hp.length, 0⟩), ⟨hp ++ [some (blkOf e [v])], l, p⟩) := by
  simp only [stepM, stepK, opd, st_bx, hv]
  rfl
/-- a captured variable -/
theorem cap_ld {ro : List ABlk} {hp : Heap} {b l p : Nat} {v : AVal} (a : Holds hp b [v]) : ldM ro ⟨hp, l, p⟩ true 1 (.p (some ⟨false, b, 0⟩)) = some v := a.one (k := 0) (by simp)
theorem cap_ldA {ro : List ABlk} {hp : Heap} {b : Nat} {v : AVal} (a : Holds hp b [v]) : ldA ro hp true 1 (.p (some ⟨false, b, 0⟩)) = some v := a.oneA (k := 0) (by simp)
/-- slices of tests -/
theorem tests1 {ro : List ABlk} {h : Heap} {N l p : Nat} {v : AVal} {P : Nat → Bool} (a : IsTest ro h v N P) : ∃ u H, stepM ro ⟨h, l, p⟩ (.bsl 53 1 [AVal.nfn] 1 [((0, 1), .c v)]) = some (u, ⟨H, l, p⟩) ∧ Keep h H ∧ IsTests ro H u N [P] := by
  have a' := a
  obtain ⟨f, c, rfl, -⟩ := a'
  refine ⟨.sl ⟨false, h.length, 0⟩ 1 (.known 1), h ++ [some (blkOf 53 [.fn f [] c])], rfl, Keep.app _, .inr ⟨⟨false, h.length, 0⟩, .known 1, blkOf 53 [.fn f [] c], rfl, rdB_heap (lget_last _ _) 0, by simp [blkOf], fun j hj => ?_⟩⟩
  obtain rfl : j = 0 := by simp at hj; omega
  rw [Nat.zero_add, get_blk]
  exact a.by (Keep.app _)
theorem tests2 {ro : List ABlk} {h : Heap} {N l p : Nat} {v w : AVal} {P Q : Nat → Bool} (a : IsTest ro h v N P) (b : IsTest ro h w N Q) : ∃ u H, stepM ro ⟨h, l, p⟩ (.bsl 53 1 [AVal.nfn] 2 [((0, 1), .c v), ((1, 1), .c w)]) = some (u, ⟨H, l, p⟩) ∧ Keep h H ∧ IsTests ro H u N [P, Q] := by
  have a' := a; have b' := b
  obtain ⟨f, c, rfl, -⟩ := a'
  obtain ⟨f2, c2, rfl, -⟩ := b'
  refine ⟨.sl ⟨false, h.length, 0⟩ 2 (.known 2), h ++ [some (blkOf 53 [.fn f [] c, .fn f2 [] c2])], rfl, Keep.app _, .inr ⟨⟨false, h.length, 0⟩, .known 2, blkOf 53 [.fn f [] c, .fn f2 [] c2], rfl, rdB_heap (lget_last _ _) 0, by simp [blkOf], fun j hj => ?_⟩⟩
  have hj2 : j = 0 ∨ j = 1 := by simp at hj; omega
  rcases hj2 with rfl | rfl
  · rw [Nat.zero_add, get_blk]
    exact a.by (Keep.app _)
  · rw [Nat.zero_add, get_blk]
    exact b.by (Keep.app _)
end Go.Proofs.Ythdglempcfknhaa.T

/- The tests, what a group pays. -/
open Go.Vm
set_option linter.unusedVariables false
namespace Go.Proofs.Ythdglempcfknhaa.T
open Go

abbrev cs (c : List Int) (g : Nat) : Int := c.getD g 0
def brk (c : List Int) (a b : Nat) : Bool := decide (cs c a + cs c b < cs c (a ||| b) + cs c (a &&& b))
section
variable {ro : List ABlk} {h : Heap} {a b : AVal} {c s : List Int} {N : Nat}
/-- a function value that captures something new -/
theorem fin_fn {H : Heap} {f : Nat} {l : List AVal} {b : Nat} {w : AVal} (kp : Keep h H) (hw : w = .fn f [] l) (hm : AVal.p (some ⟨false, b, 0⟩) ∈ l) (hb : h.length ≤ b) : finM h.length w ⟨H, h.length, h.length⟩ = some (w, H, h.length, h.length) := by
  obtain ⟨H', h1, h2, h3⟩ := fin_any (w := w) kp
  have : w.bel h.length = false := by
    subst hw
    have : ∀ l : List AVal, AVal.p (some ⟨false, b, 0⟩) ∈ l → bels h.length l = false := by
      intro l hl
      induction l with
      | nil => cases hl
      | cons x l ih =>
        rcases List.mem_cons.1 hl with e | hl
        · subst e
          have : Nat.blt b h.length = false := by
            cases hh : Nat.blt b h.length
            · rfl
            · rw [Nat.blt_eq] at hh; omega
          simp [bels, AVal.bel, this]
        · simp [bels, ih hl]
    simp [AVal.bel, bels, this l hm]
  rw [h3 this] at h1
  exact h1
theorem above46 {x : Nat} : ∃ v H, callX F1 ro 46 [.i .i64 (x : Int)] h = some (v, H, h.length, h.length) ∧ Keep h H ∧ IsTest ro H v N fun g => decide (x < g) := by
  have hold : Holds (h ++ [some (blkOf 3 [.i .i64 (x : Int)])]) h.length [.i .i64 (x : Int)] := Holds.new _ _ _
  have kp : Keep h (h ++ [some (blkOf 3 [.i .i64 (x : Int)])]) := Keep.app _
  refine ⟨.fn 89 [] [.p (some ⟨false, h.length, 0⟩)], h ++ [some (blkOf 3 [.i .i64 (x : Int)])], g46_ok (meansX_ok F1 ro) rfl ?_, kp, _, _, rfl, fun H k g hg => ?_⟩
  · unfold g46
    simp only [bx1 (show (AVal.i .i64 (x : Int)).cells = [.i .i64 (x : Int)] from rfl), bindP_some, bindO_some, tupA]
    exact fin_fn kp rfl (by simp) (Nat.le_refl _)
  · refine g89_ok (meansX_ok F1 ro) rfl ?_
    unfold g89
    simp only [cap_ld (hold.by k), bindO_some, asI_i, forceB_eq, ltI_eq, tupA]
    have e : decide ((x : Int) < (g : Int)) = decide (x < g) := decide_eq_decide.2 (by omega)
    rw [e]
    exact fin_pure rfl
theorem two_cap {e1 e2 : Nat} {v w : AVal} (hp : Heap) : Keep hp (hp ++ [some (blkOf e1 [v])] ++ [some (blkOf e2 [w])]) ∧ Holds (hp ++ [some (blkOf e1 [v])] ++ [some (blkOf e2 [w])]) hp.length [v] ∧ Holds (hp ++ [some (blkOf e1 [v])] ++ [some (blkOf e2 [w])]) (hp.length + 1) [w] := by
  refine ⟨(Keep.app _).trans (Keep.app _), (Holds.new _ _ _).ext _, ?_⟩
  have := Holds.new (hp ++ [some (blkOf e1 [v])]) e2 [w]
  rwa [List.length_append, List.length_singleton] at this
theorem breaks47 {k : Nat} (hN : N = 2 ^ k) (hk : k ≤ 6) (ha : IsRow ro h a c) (hc : c.length = N) (hw : withinP c 1000000) {x : Nat} (hx : x < N) : ∃ v H, callX F1 ro 47 [a, .i .i64 (x : Int)] h = some (v, H, h.length, h.length) ∧ Keep h H ∧ IsTest ro H v N (brk c x) := by
  obtain ⟨kp, o1, o2⟩ := two_cap (e1 := 22) (e2 := 3) (v := a) (w := .i .i64 (x : Int)) h
  obtain ⟨H, hH⟩ : ∃ H, H = h ++ [some (blkOf 22 [a])] ++ [some (blkOf 3 [.i .i64 (x : Int)])] := ⟨_, rfl⟩
  rw [← hH] at kp o1 o2
  have h64 : N ≤ 64 := by rw [hN]; exact pow6 hk
  refine ⟨.fn 90 [] [.p (some ⟨false, h.length, 0⟩), .p (some ⟨false, h.length + 1, 0⟩)], H, g47_ok (meansX_ok F1 ro) rfl ?_, kp, _, _, rfl, fun H' k' g hg => ?_⟩
  · unfold g47
    simp only [bx1 (row_cells ha).1, bx1 (show (AVal.i .i64 (x : Int)).cells = [.i .i64 (x : Int)] from rfl), bindP_some, bindO_some, tupA, List.length_append, List.length_singleton, ← hH]
    exact fin_fn kp rfl (by simp) (Nat.le_refl _)
  · refine g90_ok (meansX_ok F1 ro) rfl ?_
    unfold g90
    have ko : x ||| g < N := by rw [hN] at hx hg ⊢; exact Nat.or_lt_two_pow hx hg
    have ka : x &&& g < N := by rw [hN] at hx ⊢; exact Nat.lt_of_le_of_lt Nat.and_le_left hx
    have r := row_by ha (kp.trans k')
    obtain ⟨p1, u1, -, u2⟩ := at_row (m := ⟨H', H'.length, H'.length⟩) rfl r (show x < c.length by omega)
    obtain ⟨p2, v1, -, v2⟩ := at_row (m := ⟨H', H'.length, H'.length⟩) rfl r (show g < c.length by omega)
    obtain ⟨p3, w1, -, w2⟩ := at_row (m := ⟨H', H'.length, H'.length⟩) rfl r (show x ||| g < c.length by omega)
    obtain ⟨p4, y1, -, y2⟩ := at_row (m := ⟨H', H'.length, H'.length⟩) rfl r (show x &&& g < c.length by omega)
    have b1 := hw x (by omega); have b2 := hw g (by omega); have b3 := hw (x ||| g) (by omega); have b4 := hw (x &&& g) (by omega)
    simp only [cap_ldA (o1.by k'), cap_ldA (o2.by k'), bindO_some, asI_i, u1, u2, v1, v2, forceI_eq, or64 (show x < 9223372036854775808 by omega) (show g < 9223372036854775808 by omega), and64 (show x < 9223372036854775808 by omega) (show g < 9223372036854775808 by omega), w1, w2, y1, y2, forceB_eq, ltI_eq, tupA]
    rw [wr_id' (by omega) (by omega), wr_id' (by omega) (by omega)]
    exact fin_pure rfl
theorem parts86 (hN : N ≤ 64) {x y : Nat} (hx : x ≤ 60) (hy : y ≤ 60) : ∃ v H, callX F1 ro 86 [.i .i64 (x : Int), .i .i64 (y : Int)] h = some (v, H, h.length, h.length) ∧ Keep h H ∧ IsTest ro H v N fun g => !(g.testBit x == g.testBit y) := by
  obtain ⟨kp, o1, o2⟩ := two_cap (e1 := 3) (e2 := 3) (v := .i .i64 (x : Int)) (w := .i .i64 (y : Int)) h
  obtain ⟨H, hH⟩ : ∃ H, H = h ++ [some (blkOf 3 [.i .i64 (x : Int)])] ++ [some (blkOf 3 [.i .i64 (y : Int)])] := ⟨_, rfl⟩
  rw [← hH] at kp o1 o2
  refine ⟨.fn 102 [] [.p (some ⟨false, h.length, 0⟩), .p (some ⟨false, h.length + 1, 0⟩)], H, g86_ok (meansX_ok F1 ro) rfl ?_, kp, _, _, rfl, fun H' k' g hg => ?_⟩
  · unfold g86
    simp only [bx1 (show (AVal.i .i64 (x : Int)).cells = [.i .i64 (x : Int)] from rfl), bx1 (show (AVal.i .i64 (y : Int)).cells = [.i .i64 (y : Int)] from rfl), bindP_some, bindO_some, tupA, List.length_append, List.length_singleton, ← hH]
    exact fin_fn kp rfl (by simp) (Nat.le_refl _)
  · refine g102_ok (meansX_ok F1 ro) rfl ?_
    unfold g102
    have hlt : Nat.blt H'.length H'.length = false := by
      cases hh : Nat.blt H'.length H'.length
      · rfl
      · rw [Nat.blt_eq] at hh; omega
    simp only [bindO_some, Mm.base, cap_ld (o1.by k'), asI_i, meansX_call, cp0 (has60 (a := g) (k := x) (by omega) hx), bindP_some, asB_b, hlt, Bool.not_false, chk_true, cap_ldA (o2.by k'), cp0 (has60 (a := g) (k := y) (by omega) hy), forceB_eq, Mm.join, Nat.min_self, tupA]
    exact fin_pure rfl
end
end Go.Proofs.Ythdglempcfknhaa.T

/- Check: the first groups for which a cost is not submodular. -/
open Go.Vm
set_option linter.unusedVariables false
namespace Go.Proofs.Ythdglempcfknhaa.T
open Go

/-- the groups after a with which a breaks -/
def badG (c : List Int) (N a : Nat) : List Nat := grp N [fun g => decide (a < g), brk c a]
def badS (c : List Int) (N a : Nat) : Option (Nat × Nat) := (badG c N a).head?.map fun b => (a, b)
def bad (c : List Int) : Option (Nat × Nat) := firstS (badS c c.length) c.length 0
def chkT (n : Int) (c : List Int) : Int × Int × Int := if costP n c then (match bad c with | none => (0, 0, 10) | some (a, b) => ((a : Int), (b : Int), 0)) else (0, 0, 2)
def errS (n : Int) (c : List Int) : Int := if costP n c then (match bad c with | none => 0 | some _ => 5) else 2
def tupT (t : Int × Int × Int) : AVal := .tup [.i .i64 t.1, .i .i64 t.2.1, .i .i64 t.2.2]
theorem first_head {R : Type} (p : Nat → Bool) (f : Nat → R) (N i : Nat) (hi : i ≤ N) : firstS (fun b => if p b = true then some (f b) else none) (N - i) i = ((List.range N).filter fun g => decide (i ≤ g) && p g).head?.map f := by
  rw [List.head?_filter]
  cases hh : (List.range N).find? fun g => decide (i ≤ g) && p g with
  | none =>
    rw [List.find?_range_eq_none] at hh
    refine firstS_none.2 fun j h1 h2 => ?_
    have := hh j (by omega)
    have h3 : p j = false := by simpa [h1] using this
    simp [h3]
  | some b =>
    rw [List.find?_range_eq_some] at hh
    obtain ⟨h1, h2, h3⟩ := hh
    simp only [Bool.and_eq_true, decide_eq_true_eq] at h1
    refine firstS_at h1.1 (by simp at h2; omega) (fun j' h4 h5 => ?_) (by simp [h1.2])
    have := h3 j' h5
    have h6 : p j' = false := by simpa [h4] using this
    simp [h6]
theorem badS_first (c : List Int) {N a : Nat} (ha : a < N) : firstS (fun b => if brk c a b = true then some (a, b) else none) (N - (a + 1)) (a + 1) = badS c N a := by
  rw [first_head (brk c a) (fun b => (a, b)) N (a + 1) (by omega)]
  unfold badS badG grp
  congr 2
  refine List.filter_congr fun g _ => ?_
  simp only [List.all_cons, List.all_nil, Bool.and_true]
  rfl
section
variable {ro : List ABlk} {h : Heap} {a b : AVal} {c s : List Int}
theorem at_nts {ro : List ABlk} {h : Heap} {v : AVal} {z : List Nat} (hr : IsRow ro h v (nts z)) {i : Nat} (hi : i < z.length) : ∃ p, evP .e (.ixS 1 (.c v) (.c (.i .i64 (i : Int)))) = some p ∧ ∀ {hp : Heap} {l q : Nat}, Keep h hp → ldM ro ⟨hp, l, q⟩ true 1 p = some (.i .i64 ((z.getD i 0 : Nat) : Int)) ∧ ldA ro hp true 1 p = some (.i .i64 ((z.getD i 0 : Nat) : Int)) := by
  obtain ⟨p, h1, h2⟩ := at_rowK hr (i := i) (by rw [nts_len]; exact hi)
  refine ⟨p, h1, fun {hp l q} k => ?_⟩
  have := h2 (l := l) (q := q) k
  rw [nts_get] at this
  exact this
theorem costN {n : Int} (hp : costP n c) : ∃ k : Nat, n = (k : Int) ∧ 1 ≤ k ∧ k ≤ 6 ∧ c.length = 2 ^ k ∧ c.length ≤ 64 := by
  obtain ⟨⟨h1, h2⟩, h3, -⟩ := hp
  refine ⟨n.toNat, by omega, by omega, by omega, by omega, ?_⟩
  have := pow6 (k := n.toNat) (by omega)
  omega
theorem grp_all (N : Nat) : grp N [] = List.range N := by
  unfold grp
  simp
/-- all groups -/
theorem all45 {k : Nat} (hk : k ≤ 6) : ∃ out H, callX F1 ro 45 [.i .i64 (k : Int), .nsl] h = some (out, H, h.length, h.length) ∧ Keep h H ∧ IsRow ro H out (nts (List.range (2 ^ k))) := by
  obtain ⟨out, H, h1, h2, h3⟩ := groups45 (ro := ro) (h := h) (v := .nsl) (N := 2 ^ k) (Ps := []) hk rfl (.inl ⟨rfl, rfl⟩) (by simp)
  rw [grp_all] at h3
  exact ⟨out, H, h1, h2, h3⟩
theorem check16 {n : Int} (ha : IsRow ro h a c) (hl : c.length ≤ 9223372036854775807) : callX F1 ro 16 [.i .i64 n, a] h = some (tupT (chkT n c), h, h.length, h.length) := by
  refine g16_ok (meansX_ok F1 ro) rfl ?_
  unfold g16
  simp only [meansX_call, cp0 (cost44 (n := n) ha hl), bindP_some, asB_b]
  by_cases hc : costP n c
  · obtain ⟨k, rfl, hk1, hk6, hlen, h64⟩ := costN hc
    have hw : withinP c 1000000 := hc.2.2.2
    simp only [dT hc, Bool.not_true, forceB_eq, cond_false]
    obtain ⟨out, H1, q1, kp1, hrow⟩ := all45 (ro := ro) (h := h) hk6
    rw [← hlen] at hrow
    simp only [cM q1 (Nat.le_refl _) (Nat.le_refl _), bindP_some, len_row hrow, nts_len, List.length_range, bindO_some, asI_i, meansX_loop]
    have key : ∃ r, loopX (fun s : Int × Mm => g16_b0 (meansX F1 ro) ro (k : Int) a out ((c.length : Nat) : Int) s.1 s.2) (0, ⟨H1, h.length, h.length⟩) = some r ∧ ∃ H, Keep h H ∧ ((r = .inl ⟨H, h.length, h.length⟩ ∧ bad c = none) ∨ ∃ x y : Nat, r = .inr ((x : Int), (y : Int), 0, ⟨H, h.length, h.length⟩) ∧ bad c = some (x, y)) := by
      refine loop_exit c.length (fun i s => ∃ H, s = ((i : Int), (⟨H, h.length, h.length⟩ : Mm)) ∧ Keep H1 H ∧ ∀ j, j < i → badS c c.length j = none) _ ?_ ?_ c.length 0 _ (by omega) ⟨H1, rfl, Keep.refl _, fun j hj => by omega⟩
      · rintro i s hi ⟨H, rfl, kp, hno⟩
        obtain ⟨p, p1, p2⟩ := at_nts hrow (i := i) (by rw [List.length_range]; exact hi)
        have p3 := (p2 (l := h.length) (q := h.length) kp).1
        have e : (List.range c.length).getD i 0 = i := by simp [List.getD, hi]
        rw [e] at p3
        have kh := kp1.trans kp
        obtain ⟨t1, Ha, a1, ka, ia⟩ := above46 (ro := ro) (h := H) (N := c.length) (x := i)
        obtain ⟨t2, Hb, b1, kb, ib⟩ := breaks47 (h := Ha) hlen hk6 (row_by ha (kh.trans ka)) rfl hw hi
        obtain ⟨u, Hc, c1, kc, ic⟩ := tests2 (l := h.length) (p := h.length) (ia.by kb) ib
        obtain ⟨o2, Hd, d1, kd, rd⟩ := groups45 (ro := ro) (h := Hc) hk6 hlen ic (by simp)
        have kA := kh.trans ka
        have kB := kA.trans kb
        have kC := kB.trans kc
        have kD := kC.trans kd
        have hG : grp c.length [fun g => decide (i < g), brk c i] = badG c c.length i := rfl
        rw [hG] at rd
        simp only [g16_b0, forceB_eq, ltI_eq, lt_yes hi, cond_true, p1, p3, bindO_some, asI_i, meansX_call, cM a1 kh.1 kh.1, bindP_some, cM b1 kA.1 kA.1, c1, cM d1 kC.1 kC.1, len_row rd, nts_len]
        by_cases hb : 0 < (badG c c.length i).length
        · right
          obtain ⟨p', p1', p2'⟩ := at_nts rd (i := 0) hb
          have e0 : ((0 : Nat) : Int) = 0 := rfl
          rw [e0] at p1'
          have p3' := (p2' (l := h.length) (q := h.length) (Keep.refl Hd)).1
          simp only [dT (show (0 : Int) < ((badG c c.length i).length : Int) by omega), cond_true, p1', p3', bindO_some, asI_i]
          refine ⟨_, rfl, Hd, kD, .inr ⟨i, _, rfl, ?_⟩⟩
          refine firstS_at (Nat.zero_le _) (by omega) (fun j' _ hj => hno j' hj) ?_
          unfold badS
          rw [List.head?_eq_getElem?, List.getElem?_eq_getElem hb]
          simp [List.getD, hb]
        · left
          simp only [dF (show ¬ (0 : Int) < ((badG c c.length i).length : Int) by omega), cond_false, forceI_eq, wr_next (show i ≤ 1000000 by omega)]
          refine ⟨_, rfl, Hd, rfl, ((kp.trans ka).trans (kb.trans (kc.trans kd))), fun j hj => ?_⟩
          by_cases hji : j < i
          · exact hno j hji
          · obtain rfl : j = i := by omega
            unfold badS
            rw [List.eq_nil_of_length_eq_zero (by omega : (badG c c.length j).length = 0)]
            rfl
      · rintro s ⟨H, rfl, kp, hno⟩
        simp only [g16_b0, forceB_eq, ltI_eq, lt_no, cond_false]
        exact ⟨_, rfl, H, kp1.trans kp, .inl ⟨rfl, firstS_none.2 fun j _ hj => hno j (by omega)⟩⟩
    obtain ⟨r, e1, H, kp, hr⟩ := key
    rw [e1]
    rcases hr with ⟨rfl, hb⟩ | ⟨x, y, rfl, hb⟩
    · simp only [bindO_some, tupA, chkT, if_pos hc, hb]
      exact fin_keep kp rfl
    · simp only [bindO_some, tupA, chkT, if_pos hc, hb]
      exact fin_keep kp rfl
  · simp only [dF hc, Bool.not_false, forceB_eq, cond_true, tupA, chkT, if_neg hc]
    exact fin_pure rfl
theorem broken49 {n : Int} (hc : costP n c) (ha : IsRow ro h a c) : callX F1 ro 49 [a] h = some (match bad c with | none => .tup [.i .i64 0, .i .i64 0, .b false] | some (x, y) => .tup [.i .i64 x, .i .i64 y, .b true], h, h.length, h.length) := by
  obtain ⟨k, rfl, hk1, hk6, hlen, h64⟩ := costN hc
  have hw : withinP c 1000000 := hc.2.2.2
  refine g49_ok (meansX_ok F1 ro) rfl ?_
  unfold g49
  simp only [meansX_loop]
  let enc : Nat × Nat → Unit ⊕ (Int × Int × Bool) := fun p => .inr ((p.1 : Int), (p.2 : Int), true)
  have inner : ∀ i, i < c.length → loopX (fun s : Int => g49_b1 (meansX F1 ro) ro a (i : Int) ⟨h, h.length, h.length⟩ s) (((i + 1 : Nat) : Int)) = some (((badS c c.length i).map enc).getD (.inl ())) := by
    intro i hi
    have hst := loop_st (b := fun s : Int => g49_b1 (meansX F1 ro) ro a (i : Int) ⟨h, h.length, h.length⟩ s) (fun j => (j : Int)) c.length (fun j => if brk c i j = true then some (enc (i, j)) else none) (.inl ()) ?_ ?_ (c.length - (i + 1)) (i + 1) (by omega)
    · rw [hst, ← badS_first c hi, first_head (brk c i) (fun j => enc (i, j)) c.length (i + 1) (by omega), first_head (brk c i) (fun j => (i, j)) c.length (i + 1) (by omega), Option.map_map]
      rfl
    · simp only [g49_b1, len_row ha, bindO_some, asI_i, forceB_eq, ltI_eq, lt_no, cond_false]
    · intro g hg
      have ko : i ||| g < c.length := by rw [hlen] at hi hg ⊢; exact Nat.or_lt_two_pow hi hg
      have ka : i &&& g < c.length := by rw [hlen] at hi ⊢; exact Nat.lt_of_le_of_lt Nat.and_le_left hi
      obtain ⟨p1, u1, -, u2⟩ := at_row (m := ⟨h, h.length, h.length⟩) rfl ha hi
      obtain ⟨p2, v1, -, v2⟩ := at_row (m := ⟨h, h.length, h.length⟩) rfl ha hg
      obtain ⟨p3, w1, -, w2⟩ := at_row (m := ⟨h, h.length, h.length⟩) rfl ha ko
      obtain ⟨p4, y1, -, y2⟩ := at_row (m := ⟨h, h.length, h.length⟩) rfl ha ka
      have b1 := hw i (by omega); have b2 := hw g (by omega); have b3 := hw (i ||| g) (by omega); have b4 := hw (i &&& g) (by omega)
      simp only [g49_b1, len_row ha, bindO_some, asI_i, forceB_eq, ltI_eq, lt_yes hg, cond_true, u1, u2, v1, v2, forceI_eq, or64 (show i < 9223372036854775808 by omega) (show g < 9223372036854775808 by omega), and64 (show i < 9223372036854775808 by omega) (show g < 9223372036854775808 by omega), w1, w2, y1, y2]
      rw [wr_id' (by omega) (by omega), wr_id' (by omega) (by omega)]
      by_cases hb : c.getD i 0 + c.getD g 0 < c.getD (i ||| g) 0 + c.getD (i &&& g) 0
      · simp only [dT hb, cond_true, if_pos (show brk c i g = true from dT hb)]
        rfl
      · simp only [dF hb, cond_false, if_neg (show ¬ brk c i g = true from fun hh => hb (of_decide_eq_true hh)), wr_next (show g ≤ 1000000 by omega)]
  have hst := loop_st (b := fun s : Int => g49_b0 (meansX F1 ro) ro a ⟨h, h.length, h.length⟩ s) (fun j => (j : Int)) c.length (fun j => (badS c c.length j).map enc) (.inl ()) ?_ ?_ c.length 0 (by omega)
  · have e0 : ((0 : Nat) : Int) = 0 := rfl
    rw [e0] at hst
    rw [hst]
    have hm : firstS (fun j => (badS c c.length j).map enc) c.length 0 = (bad c).map enc := by
      cases hb : bad c with
      | none =>
        refine firstS_none.2 fun j h1 h2 => ?_
        have := firstS_none.1 hb j h1 h2
        rw [this]; rfl
      | some p =>
        obtain ⟨j, h1, h2, h3, h4⟩ := firstS_some hb
        refine firstS_at h1 h2 (fun j' h5 h6 => by rw [h4 j' h5 h6]; rfl) ?_
        rw [h3]; rfl
    rw [hm]
    cases hb : bad c with
    | none =>
      simp only [Option.map_none, Option.getD_none, bindO_some, tupA]
      exact fin_pure rfl
    | some p =>
      obtain ⟨x, y⟩ := p
      simp only [Option.map_some, Option.getD_some, bindO_some, tupA, enc]
      exact fin_pure rfl
  · simp only [g49_b0, len_row ha, bindO_some, asI_i, forceB_eq, ltI_eq, lt_no, cond_false]
  · intro i hi
    simp only [g49_b0, len_row ha, bindO_some, asI_i, forceB_eq, ltI_eq, lt_yes hi, cond_true, forceI_eq, wr_next (show i ≤ 1000000 by omega), meansX_loop, inner i hi]
    cases badS c c.length i <;> rfl
theorem refCheck17 {n : Int} (ha : IsRow ro h a c) (hl : c.length ≤ 9223372036854775807) : callX F1 ro 17 [.i .i64 n, a] h = some (tupT (chkT n c), h, h.length, h.length) := by
  refine g17_ok (meansX_ok F1 ro) rfl ?_
  unfold g17
  simp only [meansX_call, cp0 (cost48 (n := n) ha hl), bindP_some, asB_b]
  by_cases hc : costP n c
  · simp only [dT hc, Bool.not_true, forceB_eq, cond_false, cp0 (broken49 hc ha), bindP_some, chkT, if_pos hc]
    cases hb : bad c with
    | none => simp only [ext0, ext1, ext2, bindO_some, asI_i, asB_b, Bool.not_false, cond_true, tupA]; exact fin_pure rfl
    | some p => simp only [ext0, ext1, ext2, bindO_some, asI_i, asB_b, Bool.not_true, cond_false, tupA]; exact fin_pure rfl
  · simp only [dF hc, Bool.not_false, forceB_eq, cond_true, tupA, chkT, if_neg hc]
    exact fin_pure rfl
end
end Go.Proofs.Ythdglempcfknhaa.T

/- Blocks of numbers that a function makes and writes; copies. -/
open Go.Vm
set_option linter.unusedVariables false
namespace Go.Proofs.Ythdglempcfknhaa.T
open Go

abbrev ints (z : List Int) : List AVal := z.map (AVal.i .i64)
/-- a block of numbers -/
abbrev HI (hp : Heap) (b : Nat) (z : List Int) : Prop := Holds hp b (ints z)
theorem rep_ints (n : Nat) : rep [AVal.i .i64 0] n = ints (List.replicate n 0) := by
  induction n with
  | zero => rfl
  | succ n ih => simp [rep, ih, List.replicate_succ]
section
variable {ro : List ABlk} {h hp : Heap} {b k n : Nat} {z : List Int} {v : AVal}
theorem HI.row (a : HI hp b z) {m : Nat} {cap : Cap} (hm : m = z.length) : IsRow ro hp (.sl ⟨false, b, 0⟩ m cap) z := by
  subst hm
  obtain ⟨blk, h1, h2, h3⟩ := a
  refine .inr ⟨_, _, blk, rfl, rdB_heap h1 0, by rw [h2]; simp, fun j hj => ?_⟩
  rw [Nat.zero_add, h3 j (by simpa using hj), map_getD hj]
theorem mkI (hn : n ≤ 1000) {l p : Nat} : stepM ro ⟨hp, l, p⟩ (.mk 3 1 8 [.i .i64 0] (.c (.i .i64 (n : Int))) (.c (.i .i64 (n : Int)))) = some (.sl ⟨false, hp.length, 0⟩ n (.known n), ⟨hp ++ [some (newBlk 3 (.i .i64 0) n)], l, p⟩) ∧ HI (hp ++ [some (newBlk 3 (.i .i64 0) n)]) hp.length (List.replicate n 0) := by
  refine ⟨mk_ok hn (by omega), ?_⟩
  unfold newBlk
  rw [rep_ints]
  exact Holds.new _ _ _
theorem HI.wr {x : Int} (a : HI hp b z) (hk : k < z.length) (hL : h.length ≤ b) (kp : Keep h hp) : ∃ hp', writesM ro [] [(⟨false, b, 0 + k⟩, AVal.cells (.i .i64 x))] ⟨hp, h.length, h.length⟩ = some ⟨hp', h.length, h.length⟩ ∧ HI hp' b (z.set k x) ∧ hp'.length = hp.length ∧ (∀ i, i ≠ b → hp'[i]? = hp[i]?) ∧ Keep h hp' := by
  have a0 := a
  obtain ⟨blk, h1, h2, h3⟩ := a
  rw [List.length_map] at h2 h3
  have e0 : 0 + k = k := by omega
  refine ⟨hp.set b (some { blk with c := blk.c.set k (.i .i64 x) }), ?_, ⟨_, lget_set h1 _, by simpa using h2, fun j hj => ?_⟩, by simp, fun i hi => List.getElem?_set_ne (Ne.symm hi), kp.set hL _⟩
  · rw [e0]
    have := wr_heap (ro := ro) (l := h.length) (p := h.length) (off := k) (v := .i .i64 x) h1 (by omega) rfl rfl
    rw [Nat.min_eq_left hL] at this
    exact this
  · show (blk.c.set k (.i .i64 x)).get j = _
    rw [get_set]
    simp only [List.length_map, List.length_set] at hj
    rw [map_getD (by simpa using hj)]
    by_cases e : k = j
    · subst e; simp [List.getD, hj]
    · rw [if_neg e, h3 j hj, map_getD hj]
      simp [List.getD, List.getElem?_set_ne e]
theorem ix_new {m : Nat} {cap : Cap} (hk : k < m) : evP .e (.ixS 1 (.c (.sl ⟨false, b, 0⟩ m cap)) (.c (.i .i64 (k : Int)))) = some (.p (some ⟨false, b, 0 + k⟩)) := ixS_eq hk
/-- a block that holds numbers is kept -/
theorem HI.by {hp' : Heap} (a : HI hp b z) (k : Keep hp hp') : HI hp' b z := Holds.by a k
end
end Go.Proofs.Ythdglempcfknhaa.T

/- Sum; the law ShareChecks. -/
open Go.Vm
set_option linter.unusedVariables false
namespace Go.Proofs.Ythdglempcfknhaa.T
open Go

def sumL (a b : List Int) : List Int := (List.range a.length).map fun i => a.getD i 0 + b.getD i 0
theorem sumL_len (a b : List Int) : (sumL a b).length = a.length := by simp [sumL]
theorem sumL_get {a b : List Int} {i : Nat} (hi : i < a.length) : (sumL a b).getD i 0 = a.getD i 0 + b.getD i 0 := range_get hi
def sumE (n : Int) (a b : List Int) : Int := if costP n a ∧ costP n b then (if withinP (sumL a b) 1000000 then 0 else 4) else 2
def sumR (n : Int) (a b : List Int) : List Int := if costP n a ∧ costP n b then (if withinP (sumL a b) 1000000 then sumL a b else []) else []
theorem ext_getD {a b : List Int} (hl : a.length = b.length) (h : ∀ i, i < a.length → a.getD i 0 = b.getD i 0) : a = b := by
  refine List.ext_getElem hl fun i h1 h2 => ?_
  have := h i h1
  simpa [List.getD, h1, h2] using this
theorem set_get {z : List Int} {k j : Nat} {x : Int} (hk : k < z.length) : (z.set k x).getD j 0 = if k = j then x else z.getD j 0 := by
  by_cases e : k = j
  · subst e; simp [List.getD, hk]
  · rw [if_neg e]; simp [List.getD, List.getElem?_set_ne e]
section
variable {ro : List ABlk} {h : Heap} {va vb : AVal} {a b : List Int}
theorem cp2 {F : Tab} {ro : List ABlk} {H : Heap} {l p : Nat} {f : Nat} {a : List AVal} {v : AVal} (e : callX F ro f a H = some (v, H, H.length, H.length)) (hl : l ≤ H.length) (hp : p ≤ H.length) : callM (callX F ro) ⟨H, l, p⟩ f a = some (v, ⟨H, l, p⟩) := callM_pure e hl hp
theorem sum18 {n : Int} (ha : IsRow ro h va a) (hla : a.length ≤ 9223372036854775807) (hb : IsRow ro h vb b) (hlb : b.length ≤ 9223372036854775807) :
    ∃ v H, callX F1 ro 18 [.i .i64 n, va, vb] h = some (.tup [v, .i .i64 (sumE n a b)], H, h.length, h.length) ∧ Keep h H ∧ IsRow ro H v (sumR n a b) := by
  by_cases hca : costP n a
  rotate_left
  · refine ⟨.nsl, h, g18_ok (meansX_ok F1 ro) rfl ?_, Keep.refl h, .inl ⟨rfl, ?_⟩⟩
    · unfold g18
      simp only [meansX_call, cp0 (cost44 (n := n) ha hla), bindP_some, asB_b, dF hca, Bool.not_false, forceB_eq, cond_true, bindO_some, tupA, sumE, if_neg (show ¬ (costP n a ∧ costP n b) from fun hh => hca hh.1)]
      exact fin_pure rfl
    · rw [sumR, if_neg (fun hh => hca hh.1)]
  by_cases hcb : costP n b
  rotate_left
  · refine ⟨.nsl, h, g18_ok (meansX_ok F1 ro) rfl ?_, Keep.refl h, .inl ⟨rfl, ?_⟩⟩
    · unfold g18
      simp only [meansX_call, cp0 (cost44 (n := n) ha hla), cp0 (cost44 (n := n) hb hlb), bindP_some, asB_b, dT hca, dF hcb, Bool.not_false, Bool.not_true, forceB_eq, cond_true, cond_false, bindO_some, tupA, sumE, if_neg (show ¬ (costP n a ∧ costP n b) from fun hh => hcb hh.2)]
      exact fin_pure rfl
    · rw [sumR, if_neg (fun hh => hcb hh.2)]
  have hcab : costP n a ∧ costP n b := ⟨hca, hcb⟩
  obtain ⟨k, rfl, -, -, hla2, h64⟩ := costN hca
  obtain ⟨k2, hk2, -, -, hlb2, -⟩ := costN hcb
  obtain rfl : k = k2 := by omega
  have hlen : b.length = a.length := by rw [hla2, hlb2]
  have hwa : withinP a 1000000 := hca.2.2.2
  have hwb : withinP b 1000000 := hcb.2.2.2
  obtain ⟨m1, m2⟩ := mkI (ro := ro) (hp := h) (n := a.length) (by omega) (l := h.length) (p := h.length)
  obtain ⟨H1, e1⟩ : ∃ H1, H1 = h ++ [some (newBlk 3 (.i .i64 0) a.length)] := ⟨_, rfl⟩
  rw [← e1] at m1 m2
  have k1 : Keep h H1 := by rw [e1]; exact Keep.app _
  have key : ∃ r, loopX (fun s : Int × Mm => g18_b1 (meansX F1 ro) ro va vb (.sl ⟨false, h.length, 0⟩ a.length (.known a.length)) (a.length : Int) s.1 s.2) (0, ⟨H1, h.length, h.length⟩) = some r ∧ ∃ H, Keep h H ∧ ((r = .inl ⟨H, h.length, h.length⟩ ∧ withinP (sumL a b) 1000000 ∧ HI H h.length (sumL a b)) ∨ (r = .inr (.nsl, 4, ⟨H, h.length, h.length⟩) ∧ ¬ withinP (sumL a b) 1000000)) := by
    refine loop_exit a.length (fun i s => ∃ H z, s = ((i : Int), (⟨H, h.length, h.length⟩ : Mm)) ∧ Keep h H ∧ HI H h.length z ∧ z.length = a.length ∧ ∀ j, j < i → z.getD j 0 = (sumL a b).getD j 0 ∧ -1000000 ≤ (sumL a b).getD j 0 ∧ (sumL a b).getD j 0 ≤ 1000000) _ ?_ ?_ a.length 0 _ (by omega) ⟨H1, _, rfl, k1, m2, by simp, fun j hj => by omega⟩
    · rintro i s hi ⟨H, z, rfl, kp, hz, hzl, hall⟩
      obtain ⟨p, p1, p2⟩ := at_rowK ha hi
      obtain ⟨q, q1, q2⟩ := at_rowK hb (i := i) (by omega)
      have p3 := (p2 (l := h.length) (q := h.length) kp).2
      have q3 := (q2 (l := h.length) (q := h.length) kp).2
      have b1 := hwa i hi; have b2 := hwb i (by omega)
      obtain ⟨H', w1, w2, w3, w4, w5⟩ := HI.wr (ro := ro) (k := i) (x := a.getD i 0 + b.getD i 0) hz (by omega) (Nat.le_refl _) kp
      have rd := Holds.one (ro := ro) (l := h.length) (p := h.length) (k := i) w2 (by simp; omega)
      rw [map_getD (by simp; omega), set_get (by omega), if_pos rfl] at rd
      simp only [g18_b1, forceB_eq, ltI_eq, lt_yes hi, cond_true, p1, p3, bindO_some, asI_i, q1, q3, forceI_eq]
      rw [wr_id' (x := a.getD i 0 + b.getD i 0) (by omega) (by omega)]
      simp only [ix_new (b := h.length) (cap := .known a.length) hi, bindO_some, asP_p, w1, rd, asI_i, meansX_call, cp2 (within50 (x := a.getD i 0 + b.getD i 0) (L := 1000000) (by omega) (by omega)) w5.1 w5.1, bindP_some, asB_b]
      by_cases hin : -1000000 ≤ a.getD i 0 + b.getD i 0 ∧ a.getD i 0 + b.getD i 0 ≤ 1000000
      · left
        simp only [dT hin, Bool.not_true, cond_false, wr_next (show i ≤ 1000000 by omega)]
        refine ⟨_, rfl, H', _, rfl, w5, w2, by simpa using hzl, fun j hj => ?_⟩
        rw [set_get (by omega)]
        by_cases hij : i = j
        · subst hij
          rw [if_pos rfl, sumL_get hi]
          exact ⟨rfl, hin⟩
        · rw [if_neg hij]; exact hall j (by omega)
      · right
        simp only [dF hin, Bool.not_false, cond_true]
        refine ⟨_, rfl, H', w5, .inr ⟨rfl, fun hw => hin ?_⟩⟩
        have := hw i (by rw [sumL_len]; exact hi)
        rwa [sumL_get hi] at this
    · rintro s ⟨H, z, rfl, kp, hz, hzl, hall⟩
      simp only [g18_b1, forceB_eq, ltI_eq, lt_no, cond_false]
      have e : z = sumL a b := ext_getD (by rw [sumL_len]; exact hzl) fun i hi => (hall i (by omega)).1
      refine ⟨_, rfl, H, kp, .inl ⟨rfl, fun j hj => (hall j (by rwa [sumL_len] at hj)).2, by rw [← e]; exact hz⟩⟩
  obtain ⟨r, e2, H, kp, hr⟩ := key
  have run : ∀ m res, bindO (some r) (fun o_1 => match o_1 with
      | (.inl m_8) => finM h.length (tupA [.sl ⟨false, h.length, 0⟩ a.length (.known a.length), (.i .i64 0)]) m_8
      | (.inr (v6, x7, m_9)) => finM m (tupA [v6, (.i .i64 x7)]) m_9) = some res → m = h.length → callX F1 ro 18 [.i .i64 (k : Int), va, vb] h = some res := fun m res hres hm => by
    subst hm
    refine g18_ok (meansX_ok F1 ro) rfl ?_
    unfold g18
    simp only [meansX_call, cp0 (cost44 (n := (k : Int)) ha hla), cp0 (cost44 (n := (k : Int)) hb hlb), bindP_some, asB_b, dT hca, dT hcb, Bool.not_true, forceB_eq, cond_false, bindO_some, len_row ha, asI_i, m1, len_row (HI.row (ro := ro) m2 (m := a.length) (cap := .known a.length) (by simp)), List.length_replicate, meansX_loop]
    rw [e2]
    exact hres
  rcases hr with ⟨rfl, h1, h2⟩ | ⟨rfl, h1⟩
  · obtain ⟨H', f1, f2, f3⟩ := fin_rowW (ro := ro) (v := .sl ⟨false, h.length, 0⟩ a.length (.known a.length)) (w := .tup [.sl ⟨false, h.length, 0⟩ a.length (.known a.length), .i .i64 0]) kp (HI.row h2 (by rw [sumL_len])) (by simp [AVal.bel, bels])
    refine ⟨_, H', run _ _ ?_ rfl, f2, by rw [sumR, if_pos hcab, if_pos h1]; exact f3⟩
    rw [sumE, if_pos hcab, if_pos h1]
    exact f1
  · obtain ⟨H', f1, f2, f3⟩ := fin_rowW (ro := ro) (v := .nsl) (w := .tup [.nsl, .i .i64 4]) kp (.inl ⟨rfl, rfl⟩) (by simp [AVal.bel, bels])
    refine ⟨_, H', run _ _ ?_ rfl, f2, by rw [sumR, if_pos hcab, if_neg h1]; exact f3⟩
    rw [sumE, if_pos hcab, if_neg h1]
    exact f1
end
end Go.Proofs.Ythdglempcfknhaa.T

/- The reference of Sum; the law ShareChecks. -/
open Go.Vm
set_option linter.unusedVariables false
namespace Go.Proofs.Ythdglempcfknhaa.T
open Go

section
variable {ro : List ABlk} {h : Heap} {va vb : AVal} {a b : List Int}
/-- lists of lists as variadic arguments -/
theorem mats1 {H : Heap} {l p : Nat} {v : AVal} {z : List Int} (a : IsRow ro H v z) : ∃ u H', stepM ro ⟨H, l, p⟩ (.bsl 22 1 [AVal.nsl] 1 [((0, 1), .c v)]) = some (u, ⟨H', l, p⟩) ∧ Keep H H' ∧ IsMat ro H' u [z] := by
  have hc := (row_cells a).1
  refine ⟨.sl ⟨false, H.length, 0⟩ 1 (.known 1), H ++ [some (blkOf 22 [v])], ?_, Keep.app _, .inr ⟨⟨false, H.length, 0⟩, .known 1, blkOf 22 [v], rfl, rdB_heap (lget_last _ _) 0, by simp [blkOf], fun j hj => ?_⟩⟩
  · simp [stepM, stepK, st_bsl, rep, fillA, opd, hc, splice, newB, St.mm]
  · obtain rfl : j = 0 := by simp at hj; omega
    rw [Nat.zero_add, get_blk]
    exact row_by a (Keep.app _)
/-- alive, wherever -/
theorem alv {H : Heap} {l p : Nat} (hl : l ≤ H.length) (hp : p ≤ H.length) : callM (callX F1 ro) ⟨H, l, p⟩ 15 [] = some (.b true, ⟨H, l, p⟩) := cp2 alive_pure hl hp
theorem bindP_of {β : Type} {o : Option (AVal × Mm)} {v : AVal} {m : Mm} {f : AVal → Mm → Option β} (h : o = some (v, m)) : bindP o f = f v m := by rw [h]; rfl
theorem bindO_of {α β : Type} {o : Option α} {v : α} {f : α → Option β} (h : o = some v) : bindO o f = f v := by rw [h]; rfl
theorem pS {β : Type} (v : AVal) (m : Mm) (f : AVal → Mm → Option β) : bindP (some (v, m)) f = f v m := bindP_of (Eq.trans rfl rfl)
theorem oS {α β : Type} (v : α) (f : α → Option β) : bindO (some v) f = f v := bindO_of (Eq.trans rfl rfl)
theorem cT {α : Type} (a b : α) : cond true a b = a := by rw [cond_true]
theorem cF {α : Type} (a b : α) : cond false a b = b := by rw [cond_false]
theorem bS {β : Type} (b : Bool) (f : Bool → Option β) : asB (.b b) f = f b := (asB_b b f).trans (Eq.trans rfl rfl)
theorem x0 (a : AVal) (l : List AVal) : evP .e (.ext 0 (.c (.tup (a :: l)))) = some a := (ext0 a l).trans (Eq.trans rfl rfl)
theorem x1 (a b : AVal) (l : List AVal) : evP .e (.ext 1 (.c (.tup (a :: b :: l)))) = some b := (ext1 a b l).trans (Eq.trans rfl rfl)
theorem x2 (a b c : AVal) (l : List AVal) : evP .e (.ext 2 (.c (.tup (a :: b :: c :: l)))) = some c := (ext2 a b c l).trans (Eq.trans rfl rfl)
theorem tA (v : AVal) : tupA [v] = v := Eq.trans rfl rfl
theorem nT : (!true) = false := Eq.trans rfl rfl
theorem nF : (!false) = true := Eq.trans rfl rfl
theorem fB {α : Type} (n : Bool) (f : Bool → α) : forceB n f = f n := (forceB_eq n f).trans (Eq.trans rfl rfl)
theorem mC (F : Tab) (ro : List ABlk) : (meansX F ro).call = callX F ro := (meansX_call F ro).trans (Eq.trans rfl rfl)
theorem exC {ro : List ABlk} {k : Nat} {l : List AVal} {h : Heap} {n m : Nat} {H : Heap} (e : callX F1 ro k l h = some (.b true, H, n, m)) : ∃ h' lw lp, callX F1 ro k l h = some (.b true, h', lw, lp) := ⟨_, _, _, e⟩
theorem eqI_self (x : Int) : eqI x x = true := by rw [eqI_eq]; simp
end
end Go.Proofs.Ythdglempcfknhaa.T

/- Fair and Proves; the law ShareFair. -/
open Go.Vm
set_option linter.unusedVariables false
namespace Go.Proofs.Ythdglempcfknhaa.T
open Go

theorem errS_cost {n : Int} {c : List Int} (h : errS n c = 0) : costP n c := by
  by_cases hc : costP n c
  · exact hc
  · rw [errS, if_neg hc] at h; omega
theorem errS_bad {n : Int} {c : List Int} (h : errS n c = 0) : bad c = none := by
  have hc := errS_cost h
  rw [errS, if_pos hc] at h
  cases hb : bad c with
  | none => rfl
  | some p => rw [hb] at h; simp at h
section
variable {ro : List ABlk} {h : Heap} {va vb : AVal} {c s : List Int}
theorem last_cast {N : Nat} (h1 : 1 ≤ N) (h2 : N ≤ 1000000) : Go.Vm.wr .i64 (((N : Nat) : Int) - 1) = ((N - 1 : Nat) : Int) := by
  rw [wr_id' (by omega) (by omega)]; omega
end
end Go.Proofs.Ythdglempcfknhaa.T

/- Submodular costs: the groups of the least cost. -/
open Go.Vm
set_option linter.unusedVariables false
namespace Go.Proofs.Ythdglempcfknhaa.T
open Go

def Sub (c : List Int) : Prop := ∀ a b, a < c.length → b < c.length → cs c (a ||| b) + cs c (a &&& b) ≤ cs c a + cs c b
theorem bad_none {c : List Int} : bad c = none ↔ ∀ a b, a < b → b < c.length → brk c a b = false := by
  unfold bad
  rw [firstS_none]
  constructor
  · intro h a b hab hb
    have h1 := h a (Nat.zero_le _) (by omega)
    unfold badS badG at h1
    rw [Option.map_eq_none_iff, List.head?_eq_none_iff] at h1
    cases hh : brk c a b
    · rfl
    · have : b ∈ grp c.length [fun g => decide (a < g), brk c a] := by
        unfold grp
        rw [List.mem_filter]
        exact ⟨List.mem_range.2 hb, by simp [hab, hh]⟩
      rw [h1] at this; cases this
  · intro h j _ hj
    unfold badS badG
    rw [Option.map_eq_none_iff, List.head?_eq_none_iff]
    unfold grp
    rw [List.filter_eq_nil_iff]
    intro g hg
    have hg := List.mem_range.1 hg
    simp only [List.all_cons, List.all_nil, Bool.and_true, Bool.and_eq_true, decide_eq_true_eq, not_and]
    intro h1
    simp [h j g h1 hg]
theorem sub_iff {c : List Int} : bad c = none ↔ Sub c := by
  rw [bad_none]
  constructor
  · intro h a b ha hb
    rcases Nat.lt_trichotomy a b with h1 | h1 | h1
    · have := of_decide_eq_false (h a b h1 hb); omega
    · subst h1
      rw [Nat.or_self, Nat.and_self]; omega
    · have := of_decide_eq_false (h b a h1 ha)
      rw [Nat.or_comm a b, Nat.and_comm a b]; omega
  · intro h a b hab hb
    exact decide_eq_false (by have := h a b (by omega) hb; omega)
def minC (c : List Int) : List Nat → Int
  | [] => 0
  | [g] => cs c g
  | g :: k :: l => if cs c g < minC c (k :: l) then cs c g else minC c (k :: l)
def low (c : List Int) : Int := minC c (List.range c.length)
def tied (c : List Int) : List Nat := grp c.length [fun g => cs c g == low c]
def small (c : List Int) : Nat := (tied c).getD 0 0
section
variable {c : List Int} {k : Nat}
theorem getD_mem {l : List Nat} {i : Nat} (h : i < l.length) : l.getD i 0 ∈ l := by
  have : l.getD i 0 = l[i] := by simp [List.getD, h]
  rw [this]; exact List.getElem_mem h
end
section
variable {ro : List ABlk} {h : Heap} {va vb : AVal} {c s : List Int}
theorem sub39 {n : Int} (ha : IsRow ro h va c) (hl : c.length ≤ 9223372036854775807) : callX F1 ro 39 [.i .i64 n, va] h = some (.b (decide (errS n c = 0)), h, h.length, h.length) := by
  refine g39_ok (meansX_ok F1 ro) rfl ?_
  unfold g39
  simp only [meansX_call, cp0 (refCheck17 (n := n) ha hl), bindP_some, tupT, ext0, ext1, ext2, bindO_some, asI_i, forceB_eq, eqI_eq]
  unfold chkT errS
  by_cases hc : costP n c
  · rw [if_pos hc, if_pos hc]
    cases hb : bad c with
    | none => simp only [show ((10 : Int) == 10) = true from rfl, decide_true, tupA]; exact fin_pure rfl
    | some p => simp only [show ((0 : Int) == 10) = false from rfl, show decide ((5 : Int) = 0) = false from rfl, tupA]; exact fin_pure rfl
  · rw [if_neg hc, if_neg hc]
    simp only [show ((2 : Int) == 10) = false from rfl, show decide ((2 : Int) = 0) = false from rfl, tupA]; exact fin_pure rfl
end
end Go.Proofs.Ythdglempcfknhaa.T

/- The law ShareLattice. -/
open Go.Vm
set_option linter.unusedVariables false
namespace Go.Proofs.Ythdglempcfknhaa.T
open Go

section
variable {ro : List ABlk} {h : Heap} {va vb : AVal} {c s : List Int}
theorem neqF {x y : Int} (e : x = y) : (!eqI x y) = false := by subst e; rw [eqI_self]; rfl
theorem eqF {x y : Int} (e : x ≠ y) : eqI x y = false := by rw [eqI_eq]; exact beq_eq_false_iff_ne.2 e
theorem neqT {x y : Int} (e : x ≠ y) : (!eqI x y) = true := by rw [eqF e]; rfl
theorem aS {β : Type} (k : IntKind) (x : Int) (f : Int → Option β) : asI k (.i k x) f = f x := asI_i k x f
theorem iS {α : Type} (n : Int) (f : Int → α) : forceI n f = f n := (forceI_eq n f).trans (Eq.trans rfl rfl)
theorem kT {β : Type} (f : Option β) : chk true f = f := (chk_true f).trans (Eq.trans rfl rfl)
end
end Go.Proofs.Ythdglempcfknhaa.T

/- Cut; the law ShareCuts. -/
open Go.Vm
set_option linter.unusedVariables false
namespace Go.Proofs.Ythdglempcfknhaa.T
open Go

def hedP (n : Int) (z : List Int) : Prop := z.length = 3 ∧ (0 ≤ z.getD 0 0 ∧ z.getD 0 0 < n) ∧ (0 ≤ z.getD 1 0 ∧ z.getD 1 0 < n) ∧ z.getD 0 0 ≠ z.getD 1 0 ∧ 0 ≤ z.getD 2 0 ∧ z.getD 2 0 ≤ 1000
instance (n : Int) (z : List Int) : Decidable (hedP n z) := inferInstanceAs (Decidable (z.length = 3 ∧ (0 ≤ z.getD 0 0 ∧ z.getD 0 0 < n) ∧ (0 ≤ z.getD 1 0 ∧ z.getD 1 0 < n) ∧ z.getD 0 0 ≠ z.getD 1 0 ∧ 0 ≤ z.getD 2 0 ∧ z.getD 2 0 ≤ 1000))
def hedsP (n : Int) (x : List (List Int)) : Prop := ∀ i, i < x.length → hedP n (nthR x i)
instance (n : Int) (x : List (List Int)) : Decidable (hedsP n x) := inferInstanceAs (Decidable (∀ i, i < x.length → hedP n (nthR x i)))
def cutE (n : Int) (x : List (List Int)) : Int := if 1 ≤ n ∧ n ≤ 6 then (if 20 < x.length then 3 else if hedsP n x then 0 else 2) else 2
/-- does a hedge part a group from the others? -/
def apart (z : List Int) (g : Nat) : Bool := !(g.testBit (z.getD 0 0).toNat == g.testBit (z.getD 1 0).toNat)
def cutS (x : List (List Int)) (g : Nat) : Nat → Int
  | 0 => 0
  | i + 1 => cutS x g i + cond (apart (nthR x i) g) ((nthR x i).getD 2 0) 0
theorem cutS_succ (x : List (List Int)) (g i : Nat) : cutS x g (i + 1) = cutS x g i + cond (apart (nthR x i) g) ((nthR x i).getD 2 0) 0 := rfl
def cutL (N : Nat) (x : List (List Int)) : List Int := (List.range N).map fun g => cutS x g x.length
def cutR (n : Int) (x : List (List Int)) : List Int := if cutE n x = 0 then cutL (2 ^ n.toNat) x else []
theorem cutE_ok {n : Int} {x : List (List Int)} : cutE n x = 0 ↔ (1 ≤ n ∧ n ≤ 6) ∧ x.length ≤ 20 ∧ hedsP n x := by
  unfold cutE
  constructor
  · intro h
    split at h
    · rename_i h1
      split at h
      · omega
      · split at h
        · rename_i h3; exact ⟨h1, by omega, h3⟩
        · omega
    · omega
  · rintro ⟨h1, h2, h3⟩
    rw [if_pos h1, if_neg (by omega), if_pos h3]
theorem cutS_bd {n : Int} {x : List (List Int)} (hx : hedsP n x) (g : Nat) : ∀ i, i ≤ x.length → 0 ≤ cutS x g i ∧ cutS x g i ≤ 1000 * (i : Int)
  | 0, _ => by simp [cutS]
  | i + 1, hi => by
    obtain ⟨h1, h2⟩ := cutS_bd hx g i (by omega)
    obtain ⟨-, -, -, -, h3, h4⟩ := hx i (by omega)
    rw [cutS_succ]
    cases apart (nthR x i) g
    · simp only [cond_false]; omega
    · simp only [cond_true]; omega
section
variable {ro : List ABlk} {h : Heap} {va vb : AVal} {x : List (List Int)} {z : List Int}
theorem gard91 {n m : Int} : callX F1 ro 91 [.i .i64 n, .i .i64 m] h = some (.b (decide (0 ≤ m ∧ m < n)), h, h.length, h.length) := by
  refine g91_ok (meansX_ok F1 ro) rfl ?_
  unfold g91
  simp only [forceB_eq, ltI_eq]
  by_cases h1 : 0 ≤ m
  · simp only [dF (show ¬ m < 0 by omega), Bool.not_false, cond_true, bindO_some, tupA]
    have e : decide (m < n) = decide (0 ≤ m ∧ m < n) := decide_eq_decide.2 ⟨fun h2 => ⟨h1, h2⟩, fun h2 => h2.2⟩
    rw [e]; exact fin_pure rfl
  · simp only [dT (show m < 0 by omega), Bool.not_true, cond_false, bindO_some, dF (show ¬ (0 ≤ m ∧ m < n) from fun hh => h1 hh.1), tupA]; exact fin_pure rfl
theorem three (ha : IsRow ro h va z) (h3 : z.length = 3) : ∃ p0 p1 p2, evP .e (.ixS 1 (.c va) (.c (.i .i64 0))) = some p0 ∧ evP .e (.ixS 1 (.c va) (.c (.i .i64 1))) = some p1 ∧ evP .e (.ixS 1 (.c va) (.c (.i .i64 2))) = some p2 ∧
    ∀ {hp : Heap} {l q : Nat}, Keep h hp → (ldM ro ⟨hp, l, q⟩ true 1 p0 = some (.i .i64 (z.getD 0 0)) ∧ ldA ro hp true 1 p0 = some (.i .i64 (z.getD 0 0))) ∧ (ldM ro ⟨hp, l, q⟩ true 1 p1 = some (.i .i64 (z.getD 1 0)) ∧ ldA ro hp true 1 p1 = some (.i .i64 (z.getD 1 0))) ∧ (ldM ro ⟨hp, l, q⟩ true 1 p2 = some (.i .i64 (z.getD 2 0)) ∧ ldA ro hp true 1 p2 = some (.i .i64 (z.getD 2 0))) := by
  obtain ⟨p0, a1, a2⟩ := at_rowK ha (i := 0) (by omega)
  obtain ⟨p1, b1, b2⟩ := at_rowK ha (i := 1) (by omega)
  obtain ⟨p2, c1, c2⟩ := at_rowK ha (i := 2) (by omega)
  exact ⟨p0, p1, p2, a1, b1, c1, fun k => ⟨a2 k, b2 k, c2 k⟩⟩
theorem hedge85 {n : Int} (ha : IsRow ro h va z) (hl : z.length ≤ 9223372036854775807) : callX F1 ro 85 [.i .i64 n, va] h = some (.b (decide (hedP n z)), h, h.length, h.length) := by
  refine g85_ok (meansX_ok F1 ro) rfl ?_
  unfold g85
  simp only [len_row ha, bindO_some, asI_i, forceB_eq]
  by_cases h3 : z.length = 3
  rotate_left
  · simp only [neqT (show ((z.length : Nat) : Int) ≠ 3 by omega), cond_true, bindO_some, dF (show ¬ hedP n z from fun hh => h3 hh.1), tupA]; exact fin_pure rfl
  obtain ⟨p0, p1, p2, a1, b1, c1, rd⟩ := three ha h3
  obtain ⟨⟨a2, a3⟩, ⟨b2, b3⟩, ⟨c2, c3⟩⟩ := rd (l := h.length) (q := h.length) (Keep.refl h)
  simp only [neqF (show ((z.length : Nat) : Int) = 3 by omega), cond_false, a1, a2, bindO_some, asI_i, meansX_call, cp0 gard91, bindP_some, asB_b]
  by_cases h4 : 0 ≤ z.getD 0 0 ∧ z.getD 0 0 < n
  rotate_left
  · simp only [dF h4, Bool.not_false, cond_true, bindO_some, dF (show ¬ hedP n z from fun hh => h4 hh.2.1), tupA]; exact fin_pure rfl
  simp only [dT h4, Bool.not_true, cond_false, bindO_some, b1, b2, asI_i, cp0 gard91, bindP_some, asB_b]
  by_cases h5 : 0 ≤ z.getD 1 0 ∧ z.getD 1 0 < n
  rotate_left
  · simp only [dF h5, Bool.not_false, cond_true, bindO_some, dF (show ¬ hedP n z from fun hh => h5 hh.2.2.1), tupA]; exact fin_pure rfl
  simp only [dT h5, Bool.not_true, cond_false, bindO_some, a1, a3, b1, b3, c1, c3, asI_i, ltI_eq]
  by_cases h6 : z.getD 0 0 = z.getD 1 0
  · simp only [neqF h6, cond_false, bindO_some, dF (show ¬ hedP n z from fun hh => hh.2.2.2.1 h6), tupA]; exact fin_pure rfl
  simp only [neqT h6, cond_true, bindO_some]
  by_cases h7 : z.getD 2 0 < 0
  · simp only [dT h7, Bool.not_true, cond_false, bindO_some, dF (show ¬ hedP n z from fun hh => by have := hh.2.2.2.2.1; omega), tupA]; exact fin_pure rfl
  simp only [dF h7, Bool.not_false, cond_true, bindO_some, c1, c3, asI_i]
  by_cases h8 : 1000 < z.getD 2 0
  · simp only [dT h8, Bool.not_true, dF (show ¬ hedP n z from fun hh => by have := hh.2.2.2.2.2; omega), tupA]; exact fin_pure rfl
  · simp only [dF h8, Bool.not_false, dT (show hedP n z from ⟨h3, h4, h5, h6, by omega, by omega⟩), tupA]; exact fin_pure rfl
def addAt (z : List Int) (l : List Nat) (y : Int) : Nat → List Int
  | 0 => z
  | j + 1 => (addAt z l y j).set (l.getD j 0) ((addAt z l y j).getD (l.getD j 0) 0 + y)
theorem addAt_len (z : List Int) (l : List Nat) (y : Int) : ∀ j, (addAt z l y j).length = z.length
  | 0 => rfl
  | j + 1 => by unfold addAt; rw [List.length_set, addAt_len z l y j]
theorem take_nat {l : List Nat} {j : Nat} (hj : j < l.length) : l.take (j + 1) = l.take j ++ [l.getD j 0] := by
  rw [List.take_add_one, List.getElem?_eq_getElem hj]; simp [List.getD, hj]
theorem not_before {l : List Nat} (hn : l.Nodup) {j : Nat} (hj : j < l.length) : l.getD j 0 ∉ l.take j := by
  intro hh
  have hnd := hn
  rw [← List.take_append_drop j l, List.nodup_append] at hnd
  have hd : l.getD j 0 ∈ l.drop j := by
    rw [List.mem_drop_iff_getElem]
    exact ⟨0, by omega, by simp [List.getD, hj]⟩
  exact hnd.2.2 _ hh _ hd rfl
theorem addAt_get {z : List Int} {l : List Nat} (hn : l.Nodup) (hin : ∀ g ∈ l, g < z.length) (y : Int) : ∀ j, j ≤ l.length → ∀ g, (addAt z l y j).getD g 0 = z.getD g 0 + (if g ∈ l.take j then y else 0)
  | 0, _, g => by simp [addAt]
  | j + 1, hj, g => by
    have ih := addAt_get hn hin y j (by omega)
    have hlt : l.getD j 0 < (addAt z l y j).length := by rw [addAt_len]; exact hin _ (getD_mem (by omega))
    unfold addAt
    rw [set_get hlt, take_nat (by omega)]
    have hnot := not_before hn (j := j) (by omega)
    by_cases e : l.getD j 0 = g
    · subst e
      rw [if_pos rfl, ih, if_neg hnot, if_pos (by simp)]; omega
    · rw [if_neg e, ih]
      by_cases hm : g ∈ l.take j
      · rw [if_pos hm, if_pos (by simp [hm])]
      · rw [if_neg hm, if_neg (by simp only [List.mem_append, List.mem_singleton, not_or]; exact ⟨hm, fun h2 => e h2.symm⟩)]
theorem grp_nodup (N : Nat) (Ps : List (Nat → Bool)) : (grp N Ps).Nodup := List.Pairwise.filter _ List.nodup_range
theorem mem_grp1 {N : Nat} {P : Nat → Bool} {g : Nat} : g ∈ grp N [P] ↔ g < N ∧ P g = true := by
  unfold grp
  rw [List.mem_filter, List.mem_range]
  simp
theorem cut37 {n : Int} (ha : IsMat ro h va x) (hl : x.length ≤ 9223372036854775807) (hll : ∀ i, i < x.length → (nthR x i).length ≤ 9223372036854775807) : ∃ v H, callX F1 ro 37 [.i .i64 n, va] h = some (.tup [v, .i .i64 (cutE n x)], H, h.length, h.length) ∧ Keep h H ∧ IsRow ro H v (cutR n x) := by
  by_cases h1 : 1 ≤ n ∧ n ≤ 6
  rotate_left
  · have e : cutE n x = 2 := by rw [cutE, if_neg h1]
    refine ⟨.nsl, h, g37_ok (meansX_ok F1 ro) rfl ?_, Keep.refl h, .inl ⟨rfl, by rw [cutR, e, if_neg (by omega)]⟩⟩
    unfold g37
    simp only [meansX_call, cp0 count84, bindP_some, asB_b, dF h1, Bool.not_false, forceB_eq, cond_true, e, tupA]
    exact fin_pure rfl
  by_cases h2 : 20 < x.length
  · have e : cutE n x = 3 := by rw [cutE, if_pos h1, if_pos h2]
    refine ⟨.nsl, h, g37_ok (meansX_ok F1 ro) rfl ?_, Keep.refl h, .inl ⟨rfl, by rw [cutR, e, if_neg (by omega)]⟩⟩
    unfold g37
    simp only [meansX_call, cp0 count84, bindP_some, asB_b, dT h1, Bool.not_true, forceB_eq, cond_false, len_mat ha, bindO_some, asI_i, ltI_eq, dT (show (20 : Int) < (x.length : Int) by omega), cond_true, e, tupA]
    exact fin_pure rfl
  obtain ⟨e1, e2⟩ := shl_n h1.1 h1.2
  obtain ⟨k, rfl⟩ : ∃ k : Nat, n = (k : Int) := ⟨n.toNat, by omega⟩
  have hk6 : k ≤ 6 := by omega
  obtain ⟨N, hN⟩ : ∃ N, N = 2 ^ k := ⟨_, rfl⟩
  have e2' : shlV .i64 1 (k : Int) = ((N : Nat) : Int) := by rw [hN]; exact e2
  have h64 : N ≤ 64 := by rw [hN]; exact pow6 hk6
  rw [ltI_eq] at e1
  obtain ⟨m1, m2⟩ := mkI (ro := ro) (hp := h) (n := N) (by omega) (l := h.length) (p := h.length)
  obtain ⟨H1, eH⟩ : ∃ H1, H1 = h ++ [some (newBlk 3 (.i .i64 0) N)] := ⟨_, rfl⟩
  rw [← eH] at m1 m2
  have k1 : Keep h H1 := by rw [eH]; exact Keep.app _
  have key : ∃ r, loopX (fun s : Int × Mm => g37_b0 (meansX F1 ro) ro (k : Int) (.sl ⟨false, h.length, 0⟩ N (.known N)) va (x.length : Int) s.1 s.2) (0, ⟨H1, h.length, h.length⟩) = some r ∧ ∃ H, Keep h H ∧ ((r = .inl ⟨H, h.length, h.length⟩ ∧ hedsP (k : Int) x ∧ HI H h.length (cutL N x)) ∨ (r = .inr (.nsl, 2, ⟨H, h.length, h.length⟩) ∧ ¬ hedsP (k : Int) x)) := by
    refine loop_exit x.length (fun i s => ∃ H z, s = ((i : Int), (⟨H, h.length, h.length⟩ : Mm)) ∧ Keep h H ∧ HI H h.length z ∧ z.length = N ∧ (∀ j, j < i → hedP (k : Int) (nthR x j)) ∧ ∀ g, g < N → z.getD g 0 = cutS x g i) _ ?_ ?_ x.length 0 _ (by omega) ⟨H1, _, rfl, k1, m2, by simp, fun j hj => by omega, fun g hg => by simp [cutS, List.getD, hg]⟩
    · rintro i s hi ⟨H, z, rfl, kp, hz, hzl, hall, hzg⟩
      obtain ⟨p, u, p1, p2, ru⟩ := at_matK ha hi
      have p3 := (p2 (l := h.length) (q := h.length) kp).1
      have ruH := row_by ru kp
      have c85 := hedge85 (n := (k : Int)) ruH (hll i hi)
      simp only [g37_b0, forceB_eq, ltI_eq, lt_yes hi, cond_true, p1, p3, bindO_some, meansX_call, cp2 c85 kp.1 kp.1, bindP_some, asB_b]
      by_cases hh : hedP (k : Int) (x.getD i [])
      rotate_left
      · right
        simp only [dF hh, Bool.not_false, cond_true]
        exact ⟨_, rfl, H, kp, .inr ⟨rfl, fun h3 => hh (h3 i hi)⟩⟩
      left
      obtain ⟨q3, q4, q5, q6, q7, q8⟩ := hh
      obtain ⟨p0, pp1, pp2, a1, b1, c1, rd⟩ := three ruH q3
      obtain ⟨⟨a2, a3⟩, ⟨b2, b3⟩, -⟩ := rd (l := H.length) (q := H.length) (Keep.refl H)
      obtain ⟨X, hX⟩ : ∃ X : Nat, (x.getD i []).getD 0 0 = (X : Int) := ⟨((x.getD i []).getD 0 0).toNat, by omega⟩
      obtain ⟨Y, hY⟩ : ∃ Y : Nat, (x.getD i []).getD 1 0 = (Y : Int) := ⟨((x.getD i []).getD 1 0).toNat, by omega⟩
      obtain ⟨t1, Ha, u1, ka, ia⟩ := parts86 (ro := ro) (h := H) (N := N) (x := X) (y := Y) h64 (by omega) (by omega)
      obtain ⟨w, Hb, w1, kb, ib⟩ := tests1 (l := H.length) (p := H.length) ia
      obtain ⟨o2, Hc, y1, kc, rc, rnew⟩ := groups45N (ro := ro) (h := Hb) hk6 hN ib (by simp)
      have kA := ka
      have kB := kA.trans kb
      have kC := kB.trans kc
      have khC := kp.trans kC
      have hap : grp N [fun g => !(g.testBit X == g.testBit Y)] = grp N [apart (x.getD i [])] := by
        unfold apart
        rw [hX, hY]; rfl
      rw [hap] at rc
      have hLen : (grp N [apart (x.getD i [])]).length ≤ 1000 := by
        have := List.length_filter_le (fun g => ([apart (x.getD i [])] : List (Nat → Bool)).all fun P => P g) (List.range N)
        rw [List.length_range] at this
        have e : (grp N [apart (x.getD i [])]).length = ((List.range N).filter fun g => ([apart (x.getD i [])] : List (Nat → Bool)).all fun P => P g).length := rfl
        omega
      have hgt : ∀ {j : Nat}, j < (grp N [apart (x.getD i [])]).length → (grp N [apart (x.getD i [])]).getD j 0 < N := fun hj => (mem_grp1.1 (getD_mem hj)).1
      have inner := loop_gen (b := fun t : Int × Mm => g37_b1 (meansX F1 ro) ro (k : Int) (.sl ⟨false, h.length, 0⟩ N (.known N)) u va (x.length : Int) (i : Int) o2 ((grp N [apart (x.getD i [])]).length : Int) t.1 t.2) (grp N [apart (x.getD i [])]).length
        (fun j t => ∃ H', t = ((j : Int), (⟨H', h.length, h.length⟩ : Mm)) ∧ Keep h H' ∧ Hc.length ≤ H'.length ∧ (∀ b, b ≠ h.length → b < Hc.length → H'[b]? = Hc[b]?) ∧ HI H' h.length (addAt z (grp N [apart (x.getD i [])]) ((x.getD i []).getD 2 0) j))
        (fun r => ∃ H', r = (⟨H', h.length, h.length⟩ : Mm) ∧ Keep h H' ∧ HI H' h.length (addAt z (grp N [apart (x.getD i [])]) ((x.getD i []).getD 2 0) (grp N [apart (x.getD i [])]).length)) ?_ ?_ (grp N [apart (x.getD i [])]).length 0 (0, ⟨Hc, h.length, h.length⟩) (by omega) ⟨Hc, rfl, khC, Nat.le_refl _, fun b _ _ => rfl, hz.by kC⟩
      · obtain ⟨r, r1, H', rfl, kp', hz'⟩ := inner
        simp only [dT (show hedP (k : Int) (x.getD i []) from ⟨q3, q4, q5, q6, q7, q8⟩), Bool.not_true, cond_false, Mm.base, a1, a2, b1, b2, hX, hY, bindO_some, asI_i, cM u1 (Nat.le_refl _) (Nat.le_refl _), bindP_some, w1, cM y1 kB.1 kB.1, len_row rc, nts_len, Mm.join, Nat.min_eq_left kp.1, meansX_loop, r1, forceI_eq, wr_next (show i ≤ 1000000 by omega)]
        refine ⟨_, rfl, H', _, rfl, kp', hz', by rw [addAt_len]; exact hzl, fun j hj => ?_, fun g hg => ?_⟩
        · by_cases hji : j = i
          · subst hji; exact ⟨q3, q4, q5, q6, q7, q8⟩
          · exact hall j (by omega)
        · rw [addAt_get (grp_nodup _ _) (fun g hg => by rw [hzl]; exact (mem_grp1.1 hg).1) _ _ (Nat.le_refl _), List.take_length, hzg g hg, cutS_succ]
          by_cases hm : apart (x.getD i []) g = true
          · rw [if_pos (mem_grp1.2 ⟨hg, hm⟩), hm, cond_true]
          · have hm' : apart (x.getD i []) g = false := by simpa using hm
            rw [if_neg (fun h3 => hm (mem_grp1.1 h3).2), hm', cond_false]
      · rintro j t hj ⟨H', rfl, kp', hle, hoth, hz'⟩
        obtain ⟨g, hg⟩ : ∃ g, g = (grp N [apart (x.getD i [])]).getD j 0 := ⟨_, rfl⟩
        have hgN : g < N := by rw [hg]; exact hgt hj
        have hrc' : IsRow ro H' o2 (nts (grp N [apart (x.getD i [])])) := rnew.row rc fun b hb hb2 => hoth b (by have := hz.lt; have := kB.1; omega) hb2
        obtain ⟨d1, d2, d3⟩ := at_nts hrc' hj
        have d4 := (d3 (l := h.length) (q := h.length) (Keep.refl H')).1
        rw [← hg] at d4
        have ru' : IsRow ro H' u (x.getD i []) := row_by ru kp'
        obtain ⟨f0, f1, f2, f3, f4, f5, frd⟩ := three ru' q3
        have f6 := (frd (l := h.length) (q := h.length) (Keep.refl H')).2.2.2
        have hlen' : (addAt z (grp N [apart (x.getD i [])]) ((x.getD i []).getD 2 0) j).length = N := by rw [addAt_len]; exact hzl
        have hrd := Holds.oneA (ro := ro) (k := g) hz' (by rw [List.length_map, hlen']; exact hgN)
        rw [map_getD (by rw [hlen']; exact hgN)] at hrd
        have hval : (addAt z (grp N [apart (x.getD i [])]) ((x.getD i []).getD 2 0) j).getD g 0 = z.getD g 0 := by
          rw [addAt_get (grp_nodup _ _) (fun g hg => by rw [hzl]; exact (mem_grp1.1 hg).1) _ _ (by omega)]
          rw [if_neg, Int.add_zero]
          rw [hg]
          exact not_before (grp_nodup _ _) hj
        have hb0 : 0 ≤ z.getD g 0 ∧ z.getD g 0 ≤ 20000 := by
          rw [hzg g hgN]
          have hx' : ∀ i', i' ≤ i → 0 ≤ cutS x g i' ∧ cutS x g i' ≤ 1000 * (i' : Int) := by
            intro i' hi'
            induction i' with
            | zero => simp [cutS]
            | succ m ih =>
              obtain ⟨h5, h6⟩ := ih (by omega)
              obtain ⟨-, -, -, -, h7, h8⟩ := hall m (by omega)
              rw [cutS_succ]
              cases apart (nthR x m) g
              · simp only [cond_false]; omega
              · simp only [cond_true]; omega
          have := hx' i (Nat.le_refl _)
          omega
        obtain ⟨H2, w1', w2', w3', w4', w5'⟩ := HI.wr (ro := ro) (k := g) (x := (addAt z (grp N [apart (x.getD i [])]) ((x.getD i []).getD 2 0) j).getD g 0 + (x.getD i []).getD 2 0) hz' (by rw [hlen']; exact hgN) (Nat.le_refl _) kp'
        have hix : evP .e (.ixS 1 (.c (.sl ⟨false, h.length, 0⟩ N (.known N))) (.c (.i .i64 (g : Int)))) = some (.p (some ⟨false, h.length, 0 + g⟩)) := ix_new hgN
        simp only [g37_b1, forceB_eq, ltI_eq, lt_yes hj, cond_true, d2, d4, bindO_some, asI_i, hix, hrd, f5, f6, forceI_eq]
        rw [wr_id' (by omega) (by omega)]
        simp only [asP_p, bindO_some, w1', wr_next (show j ≤ 1000000 by omega)]
        refine ⟨_, rfl, H2, rfl, w5', by omega, fun b hb hb2 => by rw [w4' b hb]; exact hoth b hb hb2, ?_⟩
        rw [hg] at w2'
        exact w2'
      · rintro t ⟨H', rfl, kp', hle, hoth, hz'⟩
        simp only [g37_b1, forceB_eq, ltI_eq, lt_no, cond_false]
        exact ⟨_, rfl, H', rfl, kp', hz'⟩
    · rintro s ⟨H, z, rfl, kp, hz, hzl, hall, hzg⟩
      simp only [g37_b0, forceB_eq, ltI_eq, lt_no, cond_false]
      have e : z = cutL N x := ext_getD (by rw [hzl]; simp [cutL]) fun g hg => by
        rw [hzg g (by omega)]
        unfold cutL
        rw [range_get (by omega)]
      exact ⟨_, rfl, H, kp, .inl ⟨rfl, hall, by rw [← e]; exact hz⟩⟩
  obtain ⟨r, e3, H, kp, hr⟩ := key
  have run : ∀ res, bindO (some r) (fun o_1 => match o_1 with
      | (.inl m_13) => finM h.length (tupA [.sl ⟨false, h.length, 0⟩ N (.known N), (.i .i64 0)]) m_13
      | (.inr (v4, x5, m_14)) => finM h.length (tupA [v4, (.i .i64 x5)]) m_14) = some res → callX F1 ro 37 [.i .i64 (k : Int), va] h = some res := fun res hres => by
    refine g37_ok (meansX_ok F1 ro) rfl ?_
    unfold g37
    simp only [meansX_call, cp0 count84, bindP_some, asB_b, dT h1, Bool.not_true, forceB_eq, cond_false, len_mat ha, bindO_some, asI_i, ltI_eq, dF (show ¬ (20 : Int) < (x.length : Int) by omega), e1, chk_true, forceI_eq, e2', m1, meansX_loop]
    rw [e3]
    exact hres
  rcases hr with ⟨rfl, g1, g2⟩ | ⟨rfl, g1⟩
  · have e : cutE (k : Int) x = 0 := cutE_ok.2 ⟨h1, by omega, g1⟩
    obtain ⟨H', f1, f2, f3⟩ := fin_rowW (ro := ro) (v := .sl ⟨false, h.length, 0⟩ N (.known N)) (w := .tup [.sl ⟨false, h.length, 0⟩ N (.known N), .i .i64 0]) kp (HI.row g2 (by simp [cutL])) (by simp [AVal.bel, bels])
    refine ⟨.sl ⟨false, h.length, 0⟩ N (.known N), H', run _ ?_, f2, by rw [cutR, if_pos e, show 2 ^ (k : Int).toNat = N by rw [hN]; simp]; exact f3⟩
    rw [e]
    exact f1
  · have e : cutE (k : Int) x = 2 := by rw [cutE, if_pos h1, if_neg h2, if_neg g1]
    obtain ⟨H', f1, f2, f3⟩ := fin_rowW (ro := ro) (v := .nsl) (w := .tup [.nsl, .i .i64 2]) kp (.inl ⟨rfl, rfl⟩) (by simp [AVal.bel, bels])
    refine ⟨_, H', run _ ?_, f2, by rw [cutR, e, if_neg (by omega)]; exact f3⟩
    rw [e]
    exact f1
end
end Go.Proofs.Ythdglempcfknhaa.T

/- The reference of Cut; the law ShareCuts. -/
open Go.Vm
set_option linter.unusedVariables false
namespace Go.Proofs.Ythdglempcfknhaa.T
open Go

section
variable {ro : List ABlk} {h : Heap} {va vb : AVal} {x : List (List Int)} {z : List Int}
end
end Go.Proofs.Ythdglempcfknhaa.T

/- Cuts are submodular; the law ShareHedges. -/
open Go.Vm
set_option linter.unusedVariables false
namespace Go.Proofs.Ythdglempcfknhaa.T
open Go

section
variable {x : List (List Int)} {N k : Nat}
theorem cutL_len (N : Nat) (x : List (List Int)) : (cutL N x).length = N := by simp [cutL]
theorem cutL_get {g : Nat} (hg : g < N) : (cutL N x).getD g 0 = cutS x g x.length := by unfold cutL; exact range_get hg
theorem cutS_zero (x : List (List Int)) : ∀ i, cutS x 0 i = 0
  | 0 => rfl
  | i + 1 => by rw [cutS_succ, cutS_zero x i]; simp [apart]
theorem flip_bit {g X : Nat} (hN : N = 2 ^ k) (hg : g < N) (hX : X < k) : (N - 1 - g).testBit X = !g.testBit X := by
  subst hN
  rw [show 2 ^ k - 1 - g = 2 ^ k - (g + 1) by omega, Nat.testBit_two_pow_sub_succ hg, decide_eq_true hX, Bool.true_and]
theorem toNat_lt {y : Int} {k : Nat} (h : 0 ≤ y ∧ y < (k : Int)) : y.toNat < k := by omega
theorem cutS_flip (hx : hedsP (k : Int) x) (hN : N = 2 ^ k) {g : Nat} (hg : g < N) : ∀ i, i ≤ x.length → cutS x (N - 1 - g) i = cutS x g i
  | 0, _ => rfl
  | i + 1, hi => by
    obtain ⟨-, h1, h2, -⟩ := hx i (by omega)
    rw [cutS_succ, cutS_succ, cutS_flip hx hN hg i (by omega)]
    have : apart (nthR x i) (N - 1 - g) = apart (nthR x i) g := by
      unfold apart
      rw [flip_bit hN hg (toNat_lt h1), flip_bit hN hg (toNat_lt h2)]
      cases g.testBit ((nthR x i).getD 0 0).toNat <;> cases g.testBit ((nthR x i).getD 1 0).toNat <;> rfl
    rw [this]
theorem cutS_sub {n : Int} (hx : hedsP n x) (a b : Nat) : ∀ i, i ≤ x.length → cutS x (a ||| b) i + cutS x (a &&& b) i ≤ cutS x a i + cutS x b i
  | 0, _ => by simp [cutS]
  | i + 1, hi => by
    have ih := cutS_sub hx a b i (by omega)
    obtain ⟨-, -, -, -, h3, h4⟩ := hx i (by omega)
    simp only [cutS_succ]
    obtain ⟨w, hw⟩ : ∃ w, w = (nthR x i).getD 2 0 := ⟨_, rfl⟩
    rw [← hw] at h3 h4 ⊢
    have : (cond (apart (nthR x i) (a ||| b)) w 0) + (cond (apart (nthR x i) (a &&& b)) w 0) ≤ (cond (apart (nthR x i) a) w 0) + (cond (apart (nthR x i) b) w 0) := by
      unfold apart
      rw [Nat.testBit_or, Nat.testBit_or, Nat.testBit_and, Nat.testBit_and]
      cases a.testBit ((nthR x i).getD 0 0).toNat <;> cases a.testBit ((nthR x i).getD 1 0).toNat <;> cases b.testBit ((nthR x i).getD 0 0).toNat <;> cases b.testBit ((nthR x i).getD 1 0).toNat <;> simp <;> omega
    omega
theorem cut_cost (h1 : 1 ≤ k) (h6 : k ≤ 6) (hx : hedsP (k : Int) x) (h20 : x.length ≤ 20) (hN : N = 2 ^ k) : costP (k : Int) (cutL N x) := by
  have hpos : 0 < N := by rw [hN]; exact Nat.two_pow_pos k
  refine ⟨by omega, by rw [cutL_len, hN]; simp, by rw [cutL_get hpos, cutS_zero], fun j hj => ?_⟩
  rw [cutL_len] at hj
  rw [cutL_get hj]
  have := cutS_bd hx j x.length (Nat.le_refl _)
  omega
theorem cut_sub (hx : hedsP (k : Int) x) (hN : N = 2 ^ k) : Sub (cutL N x) := by
  intro a b ha hb
  rw [cutL_len] at ha hb
  have ko : a ||| b < N := by rw [hN] at ha hb ⊢; exact Nat.or_lt_two_pow ha hb
  have ka : a &&& b < N := Nat.lt_of_le_of_lt Nat.and_le_left ha
  unfold cs
  rw [cutL_get ha, cutL_get hb, cutL_get ko, cutL_get ka]
  exact cutS_sub hx a b x.length (Nat.le_refl _)
end
theorem chk_sub {n : Int} {c : List Int} (hc : costP n c) (hs : Sub c) : chkT n c = (0, 0, 10) := by
  rw [chkT, if_pos hc, sub_iff.2 hs]
theorem sum_sub {n : Int} {a b : List Int} (ha : costP n a) (hb : costP n b) (sa : Sub a) (sb : Sub b) : Sub (sumL a b) := by
  intro g k hg hk
  rw [sumL_len] at hg hk
  obtain ⟨m, rfl, -, -, hlen, -⟩ := costN ha
  obtain ⟨m', hm, -, -, hlen', -⟩ := costN hb
  obtain rfl : m = m' := by omega
  have ko : g ||| k < a.length := by rw [hlen] at hg hk ⊢; exact Nat.or_lt_two_pow hg hk
  have ka : g &&& k < a.length := Nat.lt_of_le_of_lt Nat.and_le_left hg
  have h1 := sa g k hg hk
  have h2 := sb g k (by omega) (by omega)
  unfold cs at h1 h2 ⊢
  rw [sumL_get hg, sumL_get hk, sumL_get ko, sumL_get ka]
  omega
theorem sum_cost {n : Int} {a b : List Int} (ha : costP n a) (hb : costP n b) (hw : withinP (sumL a b) 1000000) : costP n (sumL a b) := by
  obtain ⟨h1, h2, h3, -⟩ := ha
  have hpos : 0 < a.length := by have := Nat.two_pow_pos n.toNat; omega
  exact ⟨h1, by rw [sumL_len]; exact h2, by rw [sumL_get hpos, h3, hb.2.2.1]; rfl, hw⟩
section
variable {ro : List ABlk} {h : Heap} {va vb : AVal} {x : List (List Int)} {c : List Int}
theorem law13 {n : Int} (ha : IsMat ro h va x) (hfit : Fits x) (hb : IsRow ro h vb c) (hlb : c.length ≤ 9223372036854775807) : callX F1 ro 13 [.i .i64 n, va, vb] h = some (.b true, h, h.length, h.length) := by
  have hl := hfit.1
  have hll : ∀ i, i < x.length → (nthR x i).length ≤ 9223372036854775807 := fun i hi => (hfit.2 _ (by
    have : nthR x i = x[i] := by simp [nthR, List.getD, hi]
    rw [this]; exact List.getElem_mem hi)).1
  have hf := few_ok ha hl
  refine g13_ok (meansX_ok F1 ro) rfl ?_
  unfold g13
  simp only [len_mat ha, oS, aS, ltI_eq, fB, mC]
  by_cases h40 : (40 : Int) < (x.length : Int)
  · simp only [dT h40, cT, oS, alv (Nat.le_refl _) (Nat.le_refl _), pS, bS, tA]
    exact fin_pure rfl
  simp only [dF h40, cF, cp0 hf, pS, bS]
  by_cases h100 : few x
  rotate_left
  · simp only [dF h100, nF, oS, cT, alv (Nat.le_refl _) (Nat.le_refl _), pS, bS, tA]
    exact fin_pure rfl
  obtain ⟨u, H1, s1, k1, r1⟩ := mats1 (l := h.length) (p := h.length) hb
  have hf1 := few_ok r1 (by simp)
  simp only [dT h100, nT, oS, cF, s1, pS, cp2 hf1 k1.1 k1.1, bS]
  by_cases h101 : few [c]
  rotate_left
  · simp only [dF h101, nF, oS, cT, alv k1.1 k1.1, pS, bS, tA]
    exact fin_keep k1 rfl
  obtain ⟨v, H, c1, kp, rv⟩ := cut37 (n := n) (mat_by ha k1) hl hll
  have k2 := k1.trans kp
  simp only [dT h101, nT, oS, cF, cM c1 k1.1 k1.1, pS, x0, x1, aS]
  by_cases he : cutE n x = 0
  rotate_left
  · have hr : cutR n x = [] := by rw [cutR, if_neg he]
    rw [hr] at rv
    simp only [neqT he, cT, len_row rv, oS, aS, List.length_nil, show eqI ((0 : Nat) : Int) 0 = true from rfl, alv k2.1 k2.1, pS, bS, tA]
    exact fin_keep k2 rfl
  obtain ⟨h1, h20, hx⟩ := cutE_ok.1 he
  obtain ⟨k, rfl⟩ : ∃ k : Nat, n = (k : Int) := ⟨n.toNat, by omega⟩
  obtain ⟨N, hN⟩ : ∃ N, N = 2 ^ k := ⟨_, rfl⟩
  have hr : cutR (k : Int) x = cutL N x := by rw [cutR, if_pos he, hN]; simp
  rw [hr] at rv
  have hpos : 0 < N := by rw [hN]; exact Nat.two_pow_pos k
  have h64 : N ≤ 64 := by rw [hN]; exact pow6 (by omega)
  obtain ⟨e1, e2⟩ := shl_n h1.1 h1.2
  have e2' : shlV .i64 1 (k : Int) = ((N : Nat) : Int) := by rw [hN]; exact e2
  rw [ltI_eq] at e1
  have hcost := cut_cost (N := N) (by omega) (by omega) hx h20 hN
  have hsub := cut_sub (N := N) hx hN
  have c16 := check16 (n := (k : Int)) rv (by rw [cutL_len]; omega)
  rw [chk_sub hcost hsub] at c16
  have hlenv : evP .e (.len false (.c v)) = some (.i .i64 (N : Int)) := by have := len_row rv; rwa [cutL_len] at this
  have loop := loop_if (b := fun s : Int => g13_b5 (meansX F1 ro) ro (k : Int) vb v ((N - 1 : Nat) : Int) ⟨H, h.length, h.length⟩ s) (fun i => (i : Int)) N (fun _ => True) (.inl ()) (.inr false) ?_ ?_ ?_
  rotate_left
  · simp only [g13_b5, hlenv, bindO_some, asI_i, forceB_eq, ltI_eq, lt_no, cond_false]
  · intro g hg _
    obtain ⟨p, p1, p2⟩ := at_rowK rv (i := g) (by rw [cutL_len]; exact hg)
    obtain ⟨q, q1, q2⟩ := at_rowK rv (i := N - 1 - g) (by rw [cutL_len]; omega)
    have p3 := (p2 (l := h.length) (q := h.length) (Keep.refl H)).2
    have q3 := (q2 (l := h.length) (q := h.length) (Keep.refl H)).2
    rw [cutL_get hg] at p3
    rw [cutL_get (by omega), cutS_flip hx hN hg _ (Nat.le_refl _)] at q3
    have bd := cutS_bd hx g x.length (Nat.le_refl _)
    have hw : Go.Vm.wr .i64 (((N - 1 : Nat) : Int) - (g : Int)) = ((N - 1 - g : Nat) : Int) := by rw [wr_id' (by omega) (by omega)]; omega
    simp only [g13_b5, hlenv, bindO_some, asI_i, forceB_eq, ltI_eq, lt_yes hg, cond_true, p1, p3, forceI_eq, hw, q1, q3, eqI_self, Bool.not_true, cond_false, dF (show ¬ cutS x g x.length < 0 by omega), wr_next (show g ≤ 1000000 by omega)]
  · intro i hi hp; exact absurd trivial hp
  rw [if_pos (fun _ _ => trivial)] at loop
  have e00 : ((0 : Nat) : Int) = 0 := rfl
  rw [e00] at loop
  obtain ⟨p, p1, p2⟩ := at_rowK rv (i := N - 1) (by rw [cutL_len]; omega)
  have p3 := (p2 (l := h.length) (q := h.length) (Keep.refl H)).1
  have htop : (cutL N x).getD (N - 1) 0 = 0 := by
    rw [cutL_get (by omega)]
    have := cutS_flip hx hN (g := 0) hpos x.length (Nat.le_refl _)
    rw [Nat.sub_zero] at this
    rw [this, cutS_zero]
  rw [htop] at p3
  have hbk := row_by hb k2
  simp only [neqF he, cF, dF (show ¬ (k : Int) < 1 by omega), dF (show ¬ (6 : Int) < (k : Int) by omega), oS, cp2 c16 k2.1 k2.1, pS, tupT, x0, x1, x2, aS, show (!eqI (10 : Int) 10) = false from rfl, hlenv, e1, kT, iS, e2', eqI_self, nT, last_cast hpos (by omega), meansX_loop, loop, p1, p3, show (!eqI (0 : Int) 0) = false from rfl, cp2 (sub39 (n := (k : Int)) hbk hlb) k2.1 k2.1, bS]
  by_cases hs : errS (k : Int) c = 0
  rotate_left
  · simp only [dF hs, nF, oS, cT, p1, p3, aS, eqI_self, alv k2.1 k2.1, pS, bS, tA]
    exact fin_keep k2 rfl
  have hcc := errS_cost hs
  have hcs := sub_iff.1 (errS_bad hs)
  obtain ⟨w, H3, c18, k3, rw3⟩ := sum18 (n := (k : Int)) rv (by rw [cutL_len]; omega) hbk hlb
  have k4 := k2.trans k3
  simp only [dT hs, nT, oS, cF, cM c18 k2.1 k2.1, pS, x0, x1, aS]
  by_cases hw : withinP (sumL (cutL N x) c) 1000000
  · have eE : sumE (k : Int) (cutL N x) c = 0 := by rw [sumE, if_pos ⟨hcost, hcc⟩, if_pos hw]
    have eR : sumR (k : Int) (cutL N x) c = sumL (cutL N x) c := by rw [sumR, if_pos ⟨hcost, hcc⟩, if_pos hw]
    rw [eR] at rw3
    have c16b := check16 (n := (k : Int)) rw3 (by rw [sumL_len, cutL_len]; omega)
    rw [chk_sub (sum_cost hcost hcc hw) (sum_sub hcost hcc hsub hcs)] at c16b
    simp only [neqF eE, cF, cp2 c16b k4.1 k4.1, pS, tupT, x0, x1, x2, oS, aS, eqI_self, cT, alv k4.1 k4.1, bS, tA]
    exact fin_keep k4 rfl
  · have eE : sumE (k : Int) (cutL N x) c = 4 := by rw [sumE, if_pos ⟨hcost, hcc⟩, if_neg hw]
    have eR : sumR (k : Int) (cutL N x) c = [] := by rw [sumR, if_pos ⟨hcost, hcc⟩, if_neg hw]
    rw [eR] at rw3
    simp only [eE, show (!eqI (4 : Int) 0) = true from rfl, cT, eqI_self, len_row rw3, oS, aS, List.length_nil, show eqI ((0 : Nat) : Int) 0 = true from rfl, alv k4.1 k4.1, pS, bS, tA]
    exact fin_keep k4 rfl
end
end Go.Proofs.Ythdglempcfknhaa.T

/- Contracts of the functions: what each of them answers. -/
import Derived.Test.YtnalgdobglfndaaVmFO
import Derived.Test.YtnalgdobglfndaaVmGt
import Derived.Test.YtnalgdobglfndaaVmAE
import Derived.Test.YtnalgdobglfndaaVmAF
import Derived.Test.YtnalgdobglfndaaRows
import Derived.WalkKit
import Derived.ProofKit
import Derived.OpenShut
import Derived.Carry
import Derived.Deep.Matrix
import Derived.Deep.Slices
/- From the small machine to the statement: lists of numbers and lists of such lists, in memory that is only read. -/
open Go.Vm
set_option linter.unusedVariables false
namespace Go.Proofs.Ytnalgdobglfndaa.T
open Go Go.RowKit Go.Deep Go.WideShapes Go.ChangeShapes

/-- what every list of lists is -/
def Fits (rows : List (List Int)) : Prop := rows.length ≤ 9223372036854775807 ∧ ∀ z ∈ rows, z.length ≤ 9223372036854775807 ∧ ∀ n ∈ z, inI64 n
abbrev F1 : Tab := ⟨F, known0 16 (.b true)⟩
def IsRowK (k : IntKind) (ro : List ABlk) (h : Heap) (v : AVal) (z : List Int) : Prop :=
  (v = .nsl ∧ z = []) ∨ ∃ q cap blk, v = .sl q z.length cap ∧ rdB ro h q = some blk ∧ q.off + z.length ≤ blk.n ∧ ∀ j, j < z.length → blk.c.get (q.off + j) = .i k (z.getD j 0)

/-- what is read in the world of a list of lists: the value, the rows -/
structure OpenM (W : World) (v0 : Value) (rows : List (List Int)) : Prop where
  o : (v0 = .slice none 0 0 ∧ rows = []) ∨ ∃ (a : Addr) (cap : Nat) (A : Nat → Option Addr) (L C : Nat → Nat) (Z : Nat → List Int), v0 = .slice (some a) rows.length cap ∧
    rows.length ≤ cap ∧ rows = (List.range rows.length).map (fun r => (Z r).take (L r)) ∧
    ∀ r, r < cap → a.block < W.heap.size ∧ W.cell? (a.add r) = some (.slice (A r) (L r) (C r)) ∧ L r ≤ C r ∧ (Z r).length = C r ∧ (A r = none → C r = 0) ∧
      ∀ x, A r = some x → ∀ c, c < C r → x.block < W.heap.size ∧ W.cell? (x.add c) = some (.int .i64 ((Z r).getD c 0))
  fits : Fits rows


/-- what is read in the world of a list of numbers -/
structure OpenK (k : IntKind) (W : World) (v0 : Value) (z : List Int) : Prop where
  o : (v0 = .slice none 0 0 ∧ z = []) ∨ ∃ (a : Addr) (cap : Nat) (Z : List Int), v0 = .slice (some a) z.length cap ∧ z.length ≤ cap ∧ Z.length = cap ∧ z = Z.take z.length ∧ ∀ i, i < cap → a.block < W.heap.size ∧ W.cell? (a.add i) = some (.int k (Z.getD i 0))
  len_le : z.length ≤ 9223372036854775807
  z : ∀ n ∈ z, (Lit.int k n).wf = true

theorem cells23 : Try.prog.cellsOf 23 = 1 := by kernel_rfl
theorem cells3 : Try.prog.cellsOf 3 = 1 := by kernel_rfl
theorem laidOut : laidOutB Try.prog = true := by kernel_rfl
theorem own : ownKnob Try.prog.godebug = none := by kernel_rfl

section
variable {H : Type} {enc : TypeId × Value → H} {W : World} {v0 : Value} {d : DataW H} {p : List MemPlace}
theorem opened_ints (hs : ∃ a len cap, v0 = .slice a len cap) (h : DataW.Trod enc Try.prog W 0 (fun _ => true) true 23 v0 d p) : ∃ z, OpenK .i64 W v0 z := by
  obtain ⟨a0, len, cap, rfl⟩ := hs
  obtain ⟨fuel, hf⟩ := h
  have hml : maxLen = 9223372036854775807 := rfl
  rcases open_ints Try.underlying23 Try.underlying3 cells3 hf with ⟨hcs0, hx⟩ | ⟨a, len', cap', zs, hcs0, _, hl, hm, hz, hx, hcell, hw⟩
  · simp [Value.cells] at hcs0
    obtain ⟨rfl, rfl, rfl⟩ := hcs0
    exact ⟨[], .inl ⟨rfl, rfl⟩, by simp, by simp⟩
  · simp [Value.cells] at hcs0
    obtain ⟨rfl, rfl, rfl⟩ := hcs0
    simp only [if_true] at hz
    have hlen : (zs.take len).length = len := by simp; omega
    refine ⟨zs.take len, .inr ⟨a, cap, zs, by rw [hlen], by omega, by omega, by rw [hlen], fun i hi => ?_⟩, by omega, fun n hn => hw n (List.mem_of_mem_take hn)⟩
    have h1 := hcell i (by omega)
    exact ⟨World.block_lt_of_cell? _ _ h1 |> fun h => by simpa [addr_block] using h, h1⟩
end

/-- the reading of a list of lists -/
theorem opened_mat {H : Type} {enc : TypeId × Value → H} {W : World} {v0 : Value} {d : DataW H} {p : List MemPlace} (hs : ∃ a len cap, v0 = .slice a len cap) (h : DataW.Trod enc Try.prog W 0 (fun _ => true) true 22 v0 d p) : ∃ rows, OpenM W v0 rows := by
  obtain ⟨a0, len, cap, rfl⟩ := hs
  obtain ⟨fuel, hf⟩ := h
  rcases open_int_rows Try.underlying22 Try.underlying23 Try.underlying3 cells23 cells3 hf with ⟨hcs0, hx⟩ | ⟨a, len', cap', A, L, C, Z, hcs0, _, hl, hm, hx, hrows⟩
  · simp [Value.cells] at hcs0
    obtain ⟨rfl, rfl, rfl⟩ := hcs0
    exact ⟨[], .inl ⟨rfl, rfl⟩, by simp [Fits]⟩
  · simp [Value.cells] at hcs0
    obtain ⟨rfl, rfl, rfl⟩ := hcs0
    have hml : maxLen = 9223372036854775807 := rfl
    refine ⟨(List.range len).map fun r => (Z r).take (L r), .inr ⟨a, cap, A, L, C, Z, by simp, by simpa using hl, by simp, fun r hr => ?_⟩, ?_⟩
    · obtain ⟨h1, h2, h3, h4, h5, h6, h7⟩ := hrows r hr
      refine ⟨World.block_lt_of_cell? _ _ h1 |> fun h => by simpa [addr_block] using h, h1, h2, h4, h6, fun x hx c hc => ?_⟩
      obtain ⟨-, h8⟩ := h7 x hx
      have := World.block_lt_of_cell? _ _ (h8 c hc)
      exact ⟨by simpa [addr_block] using this, h8 c hc⟩
    · refine ⟨by simp; omega, fun z hz => ?_⟩
      obtain ⟨r, hr, rfl⟩ := List.mem_map.1 hz
      have hr := List.mem_range.1 hr
      obtain ⟨h1, h2, h3, h4, h5, h6, h7⟩ := hrows r (by omega)
      refine ⟨by simp; omega, fun n hn => wf_i64 (h5 n (List.mem_of_mem_take hn))⟩

/-- of an argument: read-only memory for it -/
theorem ro_mat {W : World} {v0 : Value} {rows : List (List Int)} (h : OpenM W v0 rows) (pre : List ABlk) (prl : Rl) (hp : pre.length = prl.length) : ∃ (ro : List ABlk) (rl : Rl) (v : AVal), ro.length = rl.length ∧ (∀ x y h, IsMat (pre ++ ro ++ x) h v rows ∧ VR (prl ++ rl ++ y) [] v v0) ∧
    ∀ (i : Nat) (b : ABlk), ro[i]? = some b → ∃ x, rl[i]? = some x ∧ ∀ j, j < b.n → x.block < W.heap.size ∧ ∃ v', W.cell? (x.add j) = some v' ∧ ∀ y, VR (prl ++ rl ++ y) [] (b.c.get j) v' := by
  rcases h.o with ⟨rfl, rfl⟩ | ⟨a, cap, A, L, C, Z, rfl, hcap, hrows, hcell⟩
  · exact ⟨[], [], .nsl, rfl, fun x y h => ⟨.inl ⟨rfl, rfl⟩, .nsl⟩, fun i b hb => by simp at hb⟩
  · have hro : ∀ (x : List ABlk) (r : Nat), r < cap → (pre ++ roMat pre.length cap A L C Z ++ x)[pre.length + 1 + r]? = some ⟨0, cond (A r).isSome (C r) 0, Tr.mk ((Z r).map (AVal.i .i64)), none⟩ := fun x r hr => by
      rw [List.append_assoc, List.getElem?_append_right (by omega), show pre.length + 1 + r - pre.length = r + 1 by omega]
      simp [roMat, hr, List.getElem?_append_left]
    have hro0 : ∀ (x : List ABlk), (pre ++ roMat pre.length cap A L C Z ++ x)[pre.length]? = some ⟨0, cap, Tr.mk ((List.range cap).map (roCell pre.length A L C)), none⟩ := fun x => by
      rw [List.append_assoc, List.getElem?_append_right (by omega)]
      simp [roMat]
    have hrl : ∀ (y : Rl) (r : Nat), r < cap → (prl ++ rlMat a cap A ++ y)[pre.length + 1 + r]? = some ((A r).getD a) := fun y r hr => by
      rw [List.append_assoc, List.getElem?_append_right (by omega), show pre.length + 1 + r - prl.length = r + 1 by omega]
      simp [rlMat, hr, List.getElem?_append_left]
    have hrl0 : ∀ (y : Rl), (prl ++ rlMat a cap A ++ y)[pre.length]? = some a := fun y => by
      rw [List.append_assoc, List.getElem?_append_right (by omega), show pre.length - prl.length = 0 by omega]
      simp [rlMat]
    have hvr : ∀ (y : Rl) (r : Nat), r < cap → VR (prl ++ rlMat a cap A ++ y) [] (roCell pre.length A L C r) (.slice (A r) (L r) (C r)) := fun y r hr => by
      obtain ⟨-, -, h1, h2, h3, -⟩ := hcell r hr
      unfold roCell
      cases hA : A r with
      | none =>
        have := h3 hA
        have h0 : L r = 0 := by omega
        rw [this, h0]
        exact .nsl
      | some x =>
        refine .slk _ _ _ _ ?_
        have := hrl y r hr
        rw [hA] at this
        show (((prl ++ rlMat a cap A ++ y)[pre.length + 1 + r]?).map fun x => x.add 0) = some x
        rw [this]; simp [Addr.add]
    refine ⟨roMat pre.length cap A L C Z, rlMat a cap A, .sl ⟨true, pre.length, 0⟩ rows.length (.known cap), by simp [roMat, rlMat], fun x y h => ⟨.inr ⟨_, _, ⟨0, cap, Tr.mk ((List.range cap).map (roCell pre.length A L C)), none⟩, rfl, ?_, ?_, ?_⟩, ?_⟩, ?_⟩
    · simp only [rdB, cond_true, lget_eq]; exact hro0 x
    · simpa using hcap
    · intro r hr
      have hr' : r < cap := by omega
      obtain ⟨-, -, h1, h2, h3, h4⟩ := hcell r hr'
      have hg : (Tr.mk ((List.range cap).map (roCell pre.length A L C))).get (0 + r) = roCell pre.length A L C r := by
        rw [get_mk]; simp [List.getD, hr']
      have hrow : rows.getD r [] = (Z r).take (L r) := by
        rw [List.getD_eq_getElem?_getD]
        conv => lhs; rw [hrows]
        simp [hr]
      simp only [hg, hrow]
      unfold roCell
      cases hA : A r with
      | none =>
        have := h3 hA
        have h0 : L r = 0 := by omega
        exact .inl ⟨rfl, by simp [h0]⟩
      | some y =>
        refine .inr ⟨⟨true, pre.length + 1 + r, 0⟩, .known (C r), ⟨0, cond (A r).isSome (C r) 0, Tr.mk ((Z r).map (AVal.i .i64)), none⟩, ?_, ?_, ?_, ?_⟩
        · simp; omega
        · simp only [rdB, cond_true, lget_eq]; exact hro x r hr'
        · simp [hA]; omega
        · intro j hj
          simp only [List.length_take] at hj
          rw [get_mk]
          have hj2 : j < (Z r).length := by omega
          have hj3 : j < L r := by omega
          simp [List.getD, hj2, hj3]
    · refine .slk _ _ _ _ ?_
      show (((prl ++ rlMat a cap A ++ y)[pre.length]?).map fun x => x.add 0) = some a
      rw [hrl0 y]; simp [Addr.add]
    · intro i b hb
      cases i with
      | zero =>
        simp [roMat] at hb
        subst hb
        refine ⟨a, by simp [rlMat], fun j hj => ?_⟩
        obtain ⟨h0, h1, -⟩ := hcell j hj
        refine ⟨h0, _, h1, fun y => ?_⟩
        have hg : (Tr.mk ((List.range cap).map (roCell pre.length A L C))).get j = roCell pre.length A L C j := by
          rw [get_mk]; simp [List.getD, show j < cap from hj]
        simp only [hg]
        exact hvr y j hj
      | succ r =>
        simp only [roMat, List.getElem?_cons_succ, List.getElem?_map, Option.map_eq_some_iff] at hb
        obtain ⟨r', hr', rfl⟩ := hb
        obtain ⟨hlt, he⟩ := List.getElem?_eq_some_iff.1 hr'
        simp only [List.length_range] at hlt
        simp only [List.getElem_range] at he
        subst he
        refine ⟨(A r).getD a, by simp [rlMat, hlt], fun j hj => ?_⟩
        obtain ⟨-, -, h1, h2, h3, h4⟩ := hcell r hlt
        cases hA : A r with
        | none => simp [hA] at hj
        | some x =>
          simp only [hA, Option.isSome_some, cond_true] at hj
          obtain ⟨h5, h6⟩ := h4 x hA j hj
          refine ⟨h5, _, h6, fun y => ?_⟩
          have hg : (Tr.mk ((Z r).map (AVal.i .i64))).get j = .i .i64 ((Z r).getD j 0) := by
            rw [get_mk]; simp [List.getD, show j < (Z r).length by omega]
          simp only [hg]
          exact .i _ _


theorem ro_flat {k : IntKind} {W : World} {v0 : Value} {z : List Int} (h : OpenK k W v0 z) (pre : List ABlk) (prl : Rl) (hp : pre.length = prl.length) : ∃ (ro : List ABlk) (rl : Rl) (v : AVal), ro.length = rl.length ∧
    (∀ x y h, IsRowK k (pre ++ ro ++ x) h v z ∧ VR (prl ++ rl ++ y) [] v v0) ∧
    ∀ (i : Nat) (b : ABlk), ro[i]? = some b → ∃ x, rl[i]? = some x ∧ ∀ j, j < b.n → x.block < W.heap.size ∧ ∃ v', W.cell? (x.add j) = some v' ∧ ∀ y, VR y [] (b.c.get j) v' := by
  rcases h.o with ⟨rfl, rfl⟩ | ⟨a, cap, Z, rfl, hcap, hlen, hz, hcell⟩
  · exact ⟨[], [], .nsl, rfl, fun x y h => ⟨.inl ⟨rfl, rfl⟩, .nsl⟩, fun i b hb => by simp at hb⟩
  · have hget : ∀ j, j < cap → (Tr.mk (Z.map (AVal.i k))).get j = .i k (Z.getD j 0) := fun j hj => by
      rw [get_mk]; simp [List.getD, show j < Z.length by omega]
    refine ⟨[⟨0, cap, Tr.mk (Z.map (AVal.i k)), none⟩], [a], .sl ⟨true, pre.length, 0⟩ z.length (.known cap), rfl, fun x y h => ⟨.inr ⟨⟨true, pre.length, 0⟩, .known cap, ⟨0, cap, Tr.mk (Z.map (AVal.i k)), none⟩, rfl, ?_, ?_, fun j hj => ?_⟩, ?_⟩, fun i b hb => ?_⟩
    · simp only [rdB, cond_true, lget_eq, List.append_assoc]
      rw [List.getElem?_append_right (Nat.le_refl _)]; simp
    · simpa using hcap
    · have e := hget j (by omega)
      have e2 : Z.getD j 0 = z.getD j 0 := by
        rw [hz, List.getD_eq_getElem?_getD, List.getD_eq_getElem?_getD, List.getElem?_take_of_lt hj]
      rw [e2] at e
      simpa using e
    · refine .slk _ _ _ _ ?_
      show (((prl ++ [a] ++ y)[pre.length]?).map fun x => x.add 0) = some a
      rw [List.append_assoc, List.getElem?_append_right (by omega), hp]; simp [Addr.add]
    · cases i with
      | zero =>
        simp at hb
        subst hb
        refine ⟨a, rfl, fun j hj => ?_⟩
        obtain ⟨h1, h2⟩ := hcell j hj
        refine ⟨h1, _, h2, fun y => ?_⟩
        have := hget j hj
        simp only [this]
        exact .i _ _
      | succ i => simp at hb

theorem env_ok {W : World} {ro : List ABlk} {rl : Rl} (h : ∀ (i : Nat) (b : ABlk), ro[i]? = some b → ∃ x, rl[i]? = some x ∧ ∀ j, j < b.n → x.block < W.heap.size ∧ ∃ v', W.cell? (x.add j) = some v' ∧ VR rl [] (b.c.get j) v') :
    (Env.mk Try.prog W.heap.size W ro rl).Ok := ⟨fun i b hb => h i b hb, Nat.le_refl _⟩
/-- what lies in the read-only blocks; more may come behind -/
def RoP (W : World) (ro : List ABlk) (rl : Rl) : Prop := ∀ (i : Nat) (b : ABlk), ro[i]? = some b → ∃ x, rl[i]? = some x ∧ ∀ j, j < b.n → x.block < W.heap.size ∧ ∃ v', W.cell? (x.add j) = some v' ∧ ∀ y, VR (rl ++ y) [] (b.c.get j) v'
theorem RoP.nil (W : World) : RoP W [] [] := fun i b hb => by simp at hb
theorem RoP.env {W : World} {ro : List ABlk} {rl : Rl} (h : RoP W ro rl) : (Env.mk Try.prog W.heap.size W ro rl).Ok := env_ok fun i b hb => by
  obtain ⟨y, h1, h2⟩ := h i b hb
  refine ⟨y, h1, fun j hj => ?_⟩
  obtain ⟨h3, v', h4, h5⟩ := h2 j hj
  exact ⟨h3, v', h4, by have := h5 []; simpa using this⟩
theorem RoP.snoc {W : World} {ro ro' : List ABlk} {rl rl' : Rl} (hl : ro.length = rl.length) (h : RoP W ro rl)
    (h' : ∀ (i : Nat) (b : ABlk), ro'[i]? = some b → ∃ x, rl'[i]? = some x ∧ ∀ j, j < b.n → x.block < W.heap.size ∧ ∃ v', W.cell? (x.add j) = some v' ∧ ∀ y, VR y [] (b.c.get j) v') : RoP W (ro ++ ro') (rl ++ rl') := by
  intro i b hb
  rcases Nat.lt_or_ge i ro.length with hi | hi
  · rw [List.getElem?_append_left hi] at hb
    obtain ⟨x, h1, h2⟩ := h i b hb
    refine ⟨x, by rw [List.getElem?_append_left (by omega)]; exact h1, fun j hj => ?_⟩
    obtain ⟨h3, v', h4, h5⟩ := h2 j hj
    exact ⟨h3, v', h4, fun y => by rw [List.append_assoc]; exact h5 _⟩
  · rw [List.getElem?_append_right hi] at hb
    obtain ⟨x, h1, h2⟩ := h' _ b hb
    refine ⟨x, by rw [List.getElem?_append_right (by omega), ← hl]; exact h1, fun j hj => ?_⟩
    obtain ⟨h3, v', h4, h5⟩ := h2 j hj
    exact ⟨h3, v', h4, fun y => h5 _⟩

/-- the call of the model: true, and below nothing has turned -/
theorem call_of {W : World} {ro : List ABlk} {rl : Rl} (hE : (Env.mk Try.prog W.heap.size W ro rl).Ok) {K : Nat} {vs : List AVal} {args : Array Value}
    (hv : LR rl [] vs args) {h' : Heap} {lw lp : Nat} (hc : callX F1 ro K vs [] = some (.b true, h', lw, lp)) : Calls Try.prog K args W fun e W' => e = .returned (.bool true) ∧ Below W.heap.size W W' := by
  have hm : (Env.mk Try.prog W.heap.size W ro rl).P.follows .mixedOrders = true := Try.checked.mixed
  have hO : CallOk (Env.mk Try.prog W.heap.size W ro rl) (known0 16 (.b true)) := known0_of hE hm fok alive0 rfl
  obtain ⟨-, h2⟩ := callX_sound hE hm (F := F1) fok hO K vs [] _ _ _ _ hc
  refine Calls.mono (h2 [] W args ⟨Below.refl _ _, rfl, by simp, fun i b r K hl => by simp [Live] at hl, fun i j b b' r K K' hl => by simp [Live] at hl⟩ hv) fun e w' hq => ?_
  obtain ⟨v', rfl, m', hvr, T⟩ := hq
  exact ⟨by rw [hvr.inv_b], T.hr.below⟩
theorem alive_pure {ro : List ABlk} {h : Heap} : callX F1 ro 16 [] h = some (.b true, h, h.length, h.length) := callX_ov rfl
end Go.Proofs.Ytnalgdobglfndaa.T

/- Blocks that a function makes for itself; loops whose state is known. -/
open Go.Vm
set_option linter.unusedVariables false
namespace Go.Proofs.Ytnalgdobglfndaa.T
open Go

/-- a block of the heap that holds these values -/
def Holds (hp : Heap) (b : Nat) (vs : List AVal) : Prop := ∃ blk : ABlk, lget hp b = some (some blk) ∧ blk.n = vs.length ∧ ∀ j, j < vs.length → blk.c.get j = vs.getD j und
/-- what was there is still there -/
def Keep (h hp : Heap) : Prop := h.length ≤ hp.length ∧ ∀ i, i < h.length → hp[i]? = h[i]?

section
variable {ro : List ABlk} {h hp hp' : Heap} {b k e n l p : Nat} {vs : List AVal}
theorem Keep.refl (h : Heap) : Keep h h := ⟨Nat.le_refl _, fun _ _ => rfl⟩
theorem Keep.trans {h1 : Heap} (a : Keep h h1) (c : Keep h1 hp) : Keep h hp := ⟨Nat.le_trans a.1 c.1, fun i hi => by rw [c.2 i (by have := a.1; omega), a.2 i hi]⟩
theorem Keep.app (x : Heap) : Keep h (h ++ x) := ⟨by simp, fun i hi => List.getElem?_append_left hi⟩
theorem Keep.set (a : Keep h hp) (hb : h.length ≤ b) (x : Option ABlk) : Keep h (hp.set b x) := ⟨by simpa using a.1, fun i hi => by rw [List.getElem?_set_ne (by omega)]; exact a.2 i hi⟩
theorem Keep.eq (a : Keep h hp) : hp.take h.length = h := by
  refine List.ext_getElem? fun i => ?_
  rcases Nat.lt_or_ge i h.length with hi | hi
  · rw [List.getElem?_take_of_lt hi, a.2 i hi]
  · rw [List.getElem?_eq_none (by simp; omega), List.getElem?_eq_none hi]
theorem fin_keep {v : AVal} (a : Keep h hp) (hv : v.bel h.length = true) : finM h.length v ⟨hp, h.length, h.length⟩ = some (v, h, h.length, h.length) := by
  rw [fin_take hv, a.eq]
theorem Holds.lt (a : Holds hp b vs) : b < hp.length := by obtain ⟨blk, h1, -⟩ := a; exact lget_lt h1
theorem Holds.new (hp : Heap) (e : Nat) (vs : List AVal) : Holds (hp ++ [some (blkOf e vs)]) hp.length vs := ⟨_, lget_last _ _, rfl, fun j _ => get_blk e vs j⟩
theorem Holds.keep (a : Holds hp b vs) (hk : hp'[b]? = hp[b]?) : Holds hp' b vs := by
  obtain ⟨blk, h1, h2⟩ := a
  exact ⟨blk, by rw [lget_of hk]; exact h1, h2⟩
theorem Holds.ext (a : Holds hp b vs) (x : Heap) : Holds (hp ++ x) b vs := a.keep (List.getElem?_append_left a.lt)
theorem Holds.by (a : Holds hp b vs) (k : Keep hp hp') : Holds hp' b vs := a.keep (k.2 b a.lt)
theorem Holds.one (a : Holds hp b vs) (hk : k < vs.length) : ldM ro ⟨hp, l, p⟩ true 1 (.p (some ⟨false, b, 0 + k⟩)) = some (vs.getD k und) := by
  obtain ⟨blk, h1, h2, h3⟩ := a
  rw [ld_heap rfl h1 (by omega), ← h3 k hk, Nat.zero_add]
theorem Holds.oneA (a : Holds hp b vs) (hk : k < vs.length) : ldA ro hp true 1 (.p (some ⟨false, b, 0 + k⟩)) = some (vs.getD k und) := by
  obtain ⟨blk, h1, h2, h3⟩ := a
  rw [lda_heap h1 (by omega), ← h3 k hk, Nat.zero_add]
theorem row_list {t : Tr} : ∀ (vs : List AVal) (i : Nat), (∀ j, j < vs.length → t.get (i + j) = vs.getD j und) → t.row i vs.length = vs
  | [], i, _ => rfl
  | v :: vs, i, h => by
    simp only [List.length_cons, Tr.row]
    rw [show t.get i = v by simpa using h 0 (by simp), row_list vs (i + 1) fun j hj => by have := h (j + 1) (by simp; omega); rw [show i + 1 + j = i + (j + 1) by omega, this]; simp]
theorem Holds.rd (a : Holds hp b vs) (hn : n = vs.length) : Go.Vm.rd ro hp false n ⟨false, b, 0⟩ = some (.agg vs) := by
  subst hn
  obtain ⟨blk, h1, h2, h3⟩ := a
  have hc : Nat.ble (0 + vs.length) blk.n = true := by rw [Nat.ble_eq]; omega
  simp only [Go.Vm.rd, rdB_heap h1, cond_false, hc, cond_true]
  rw [row_list vs 0 fun j hj => by rw [Nat.zero_add]; exact h3 j hj]
theorem Holds.all (a : Holds hp b vs) (hn : n = vs.length) : ldM ro ⟨hp, l, p⟩ false n (.p (some ⟨false, b, 0⟩)) = some (.agg vs) := by
  simp only [ldM, a.rd hn]
theorem spliceGet (t : Tr) : ∀ (vs : List AVal) (i j : Nat), (t.splice i vs).get j = if i ≤ j ∧ j < i + vs.length then vs.getD (j - i) und else t.get j
  | [], i, j => by simp [Tr.splice]; intro h1 h2; omega
  | v :: vs, i, j => by
    rw [Tr.splice, spliceGet (t.set i v) vs (i + 1) j, get_set]
    by_cases e : i = j
    · subst e
      rw [if_neg (by omega), if_pos rfl, if_pos (by simp)]; simp
    · by_cases h2 : i ≤ j ∧ j < i + (v :: vs).length
      · have h3 : i + 1 ≤ j ∧ j < i + 1 + vs.length := by simp at h2; omega
        rw [if_pos h2, if_pos h3]
        obtain ⟨q, rfl⟩ : ∃ q, j = i + 1 + q := ⟨j - (i + 1), by omega⟩
        rw [show i + 1 + q - i = q + 1 by omega, show i + 1 + q - (i + 1) = q by omega]
        simp
      · have h3 : ¬ (i + 1 ≤ j ∧ j < i + 1 + vs.length) := by simp at h2; omega
        rw [if_neg h2, if_neg h3, if_neg e]
theorem wrH_all {blk : ABlk} (hb : lget hp b = some (some blk)) (hn : vs.length ≤ blk.n) (ho : ones vs = true) : wrH hp ⟨false, b, 0⟩ vs = some (hp.set b (some { blk with c := blk.c.splice 0 vs })) := by
  have : (Nat.ble (0 + vs.length) blk.n && ones vs) = true := by rw [ho, Bool.and_true, Nat.ble_eq]; omega
  simp only [wrH, cond_false, hb, this, cond_true, lset_eq]
/-- a block is written whole -/
theorem Holds.st {vs' : List AVal} {v : AVal} (a : Holds hp b vs) (hv : v.cells = vs') (hn : n = vs'.length) (hl : vs'.length = vs.length) (ho : ones vs' = true) (hL : h.length ≤ b) (kp : Keep h hp) :
    ∃ hp', stepM ro ⟨hp, h.length, h.length⟩ (.st n (.c (.p (some ⟨false, b, 0⟩))) (.c v)) = some (und, ⟨hp', h.length, h.length⟩) ∧ Holds hp' b vs' ∧ hp'.length = hp.length ∧ (∀ i, i ≠ b → hp'[i]? = hp[i]?) ∧ Keep h hp' := by
  obtain ⟨blk, h1, h2, h3⟩ := a
  subst hv hn
  have hw := wrH_all h1 (vs := v.cells) (by omega) ho
  refine ⟨hp.set b (some { blk with c := blk.c.splice 0 v.cells }), ?_, ⟨_, lget_set h1 _, by simpa using (h2.trans hl.symm), fun j hj => ?_⟩, by simp, fun i hi => List.getElem?_set_ne (Ne.symm hi), kp.set hL _⟩
  · have hbq : Nat.beq v.cells.length v.cells.length = true := Nat.beq_refl _
    have e : (cond (nonp v.cells) h.length h.length) = h.length := by cases nonp v.cells <;> rfl
    simp only [stepM, stepK, opd, st_st, hbq, cond_true, hw, St.mm, Nat.min_eq_left hL, e]
  · show (blk.c.splice 0 v.cells).get j = _
    rw [spliceGet, if_pos (by omega)]; simp
end

theorem ext0 (a : AVal) (l : List AVal) : evP .e (.ext 0 (.c (.tup (a :: l)))) = some a := rfl
theorem ext1 (a b : AVal) (l : List AVal) : evP .e (.ext 1 (.c (.tup (a :: b :: l)))) = some b := rfl
theorem ext2 (a b c : AVal) (l : List AVal) : evP .e (.ext 2 (.c (.tup (a :: b :: c :: l)))) = some c := rfl
section
variable {ro : List ABlk} {h : Heap} {v : AVal}
theorem row_by {hp : Heap} {z : List Int} (a : IsRow ro h v z) (k : Keep h hp) : IsRow ro hp v z := by
  rw [take_eq k.1 k.2]; exact a.ext _
end

/-- one cell of a block is written -/
theorem Holds.set {ro : List ABlk} {h hp : Heap} {b k : Nat} {vs : List AVal} {v : AVal} (a : Holds hp b vs) (hk : k < vs.length) (hv : v.one = true) (hc : v.cells = [v]) (hn : nonp [v] = true) (hL : h.length ≤ b) (kp : Keep h hp) :
    ∃ hp', stepM ro ⟨hp, h.length, h.length⟩ (.st 1 (.c (.p (some ⟨false, b, 0 + k * 1⟩))) (.c v)) = some (und, ⟨hp', h.length, h.length⟩) ∧ Holds hp' b (vs.set k v) ∧ hp'.length = hp.length ∧ (∀ i, i ≠ b → hp'[i]? = hp[i]?) ∧ Keep h hp' := by
  obtain ⟨blk, h1, h2, h3⟩ := a
  have e : 0 + k * 1 = k := by omega
  refine ⟨hp.set b (some { blk with c := blk.c.set k v }), ?_, ⟨_, lget_set h1 _, by simpa using h2, fun j hj => ?_⟩, by simp, fun i hi => List.getElem?_set_ne (Ne.symm hi), kp.set hL _⟩
  · rw [e, st_heap h1 (by omega) hv hc hn, Nat.min_eq_left hL]
  · show (blk.c.set k v).get j = _
    rw [get_set]
    simp only [List.length_set] at hj
    by_cases e : k = j
    · subst e; simp [List.getD, hj]
    · rw [if_neg e, h3 j hj]
      simp [List.getD, List.getElem?_set_ne e]


/-- a loop whose state is known for each round -/
theorem loop_st {S R : Type} {b : S → Option (S ⊕ R)} (st : Nat → S) (n : Nat) (step : Nat → Option R) (r0 : R) (hout : b (st n) = some (.inr r0)) (hin : ∀ i, i < n → b (st i) = some (match step i with | some r => .inr r | none => .inl (st (i + 1)))) :
    ∀ (k i : Nat), i + k = n → loopX b (st i) = some ((firstS step k i).getD r0)
  | 0, i, hi => by
    simp only [Nat.add_zero] at hi
    subst hi
    exact loopX_out hout
  | k + 1, i, hi => by
    have h1 := hin i (by omega)
    unfold firstS
    cases hs : step i with
    | some r => rw [hs] at h1; exact loopX_out h1
    | none =>
      rw [hs] at h1
      exact loopX_on h1 (loop_st st n step r0 hout hin k (i + 1) (by omega))
/-- one that runs to its end -/
theorem loop_run {S R : Type} {b : S → Option (S ⊕ R)} (st : Nat → S) (n : Nat) {r0 : R} (hout : b (st n) = some (.inr r0)) (hin : ∀ i, i < n → b (st i) = some (.inl (st (i + 1)))) : loopX b (st 0) = some r0 := by
  have := loop_st st n (fun _ => none) r0 hout hin n 0 (by omega)
  rw [firstS_none.2 fun _ _ _ => rfl] at this
  exact this
/-- one that looks for something -/
theorem loop_if {S R : Type} {b : S → Option (S ⊕ R)} (st : Nat → S) (n : Nat) (P : Nat → Prop) [DecidablePred P] (r0 r1 : R) (hout : b (st n) = some (.inr r0)) (hin : ∀ i, i < n → P i → b (st i) = some (.inl (st (i + 1)))) (hno : ∀ i, i < n → ¬ P i → b (st i) = some (.inr r1)) :
    loopX b (st 0) = some (if (∀ i, i < n → P i) then r0 else r1) := by
  have := loop_st st n (fun i => if P i then none else some r1) r0 hout (fun i hi => by
    by_cases hp : P i
    · rw [if_pos hp]; exact hin i hi hp
    · rw [if_neg hp]; exact hno i hi hp) n 0 (by omega)
  rw [this]
  by_cases hall : ∀ i, i < n → P i
  · rw [if_pos hall, firstS_none.2 fun j _ h2 => by rw [if_pos (hall j (by omega))]]; rfl
  · rw [if_neg hall]
    cases hf : firstS (fun i => if P i then none else some r1) n 0 with
    | none =>
      refine absurd (fun i hi => ?_) hall
      have := firstS_none.1 hf i (by omega) (by omega)
      simpa using this
    | some r =>
      obtain ⟨j, -, -, h3, -⟩ := firstS_some hf
      by_cases hc : P j
      · rw [if_pos hc] at h3; cases h3
      · rw [if_neg hc] at h3; cases h3; rfl

theorem dT {p : Prop} [Decidable p] (h : p) : decide p = true := decide_eq_true h
theorem dF {p : Prop} [Decidable p] (h : ¬ p) : decide p = false := decide_eq_false h
theorem row_bel {ro : List ABlk} {h : Heap} {v : AVal} {z : List Int} (a : IsRow ro h v z) : v.bel h.length = true := by
  rcases a with ⟨rfl, -⟩ | ⟨q, cap, blk, rfl, hb, -⟩
  · rfl
  · simpa [AVal.bel] using rdB_lt hb
theorem mat_by {ro : List ABlk} {h hp : Heap} {v : AVal} {z : List (List Int)} (a : IsMat ro h v z) (k : Keep h hp) : IsMat ro hp v z := by
  rw [take_eq k.1 k.2]; exact a.ext _
theorem at_rowK {ro : List ABlk} {h : Heap} {v : AVal} {z : List Int} (hr : IsRow ro h v z) {i : Nat} (hi : i < z.length) : ∃ p, evP .e (.ixS 1 (.c v) (.c (.i .i64 (i : Int)))) = some p ∧ ∀ {hp : Heap} {l q : Nat}, Keep h hp → ldM ro ⟨hp, l, q⟩ true 1 p = some (.i .i64 (z.getD i 0)) ∧ ldA ro hp true 1 p = some (.i .i64 (z.getD i 0)) := by
  obtain ⟨p, h1, -⟩ := at_row (m := ⟨h, 0, 0⟩) rfl hr hi
  refine ⟨p, h1, fun {hp l q} k => ?_⟩
  obtain ⟨p', g1, g2, g3⟩ := at_row (m := ⟨hp, l, q⟩) rfl (row_by hr k) hi
  rw [h1] at g1; cases g1
  exact ⟨g2, g3⟩
theorem at_matK {ro : List ABlk} {h : Heap} {v : AVal} {x : List (List Int)} (hr : IsMat ro h v x) {i : Nat} (hi : i < x.length) : ∃ p u, evP .e (.ixS 1 (.c v) (.c (.i .i64 (i : Int)))) = some p ∧ (∀ {hp : Heap} {l q : Nat}, Keep h hp → ldM ro ⟨hp, l, q⟩ true 1 p = some u ∧ ldA ro hp true 1 p = some u) ∧ IsRow ro h u (x.getD i []) := by
  rcases hr with ⟨rfl, rfl⟩ | ⟨q, cap, blk, rfl, hb, hn, hc⟩
  · simp at hi
  · refine ⟨_, _, ixS_eq hi, fun {hp l q'} k => ?_, hc i hi⟩
    have hb' : rdB ro hp q = some blk := by rw [take_eq k.1 k.2]; exact rdB_ext _ hb
    have h1 := rd_one (i := i) hb' (by omega)
    refine ⟨h1, ?_⟩
    have := rdB_lt hb'
    simp only [ldA, this, cond_true, h1]
abbrev nthR (x : List (List Int)) (i : Nat) : List Int := x.getD i []
theorem cp {F : Tab} {ro : List ABlk} {h : Heap} {f : Nat} {a : List AVal} {v : AVal} {l p : Nat} (e : callX F ro f a h = some (v, h, h.length, h.length)) (hl : l ≤ h.length) (hp : p ≤ h.length) : callM (callX F ro) ⟨h, l, p⟩ f a = some (v, ⟨h, l, p⟩) :=
  callM_pure e hl hp
theorem cp0 {F : Tab} {ro : List ABlk} {h : Heap} {f : Nat} {a : List AVal} {v : AVal} (e : callX F ro f a h = some (v, h, h.length, h.length)) : callM (callX F ro) ⟨h, h.length, h.length⟩ f a = some (v, ⟨h, h.length, h.length⟩) :=
  callM_pure e (Nat.le_refl _) (Nat.le_refl _)

/- the laws' own: few, same -/
def few (x : List (List Int)) (z : List Int) : Prop := (∀ i, i < x.length → i < 250 ∧ (nthR x i).length ≤ 40) ∧ z.length ≤ 1100
instance (x : List (List Int)) (z : List Int) : Decidable (few x z) := inferInstanceAs (Decidable ((∀ i, i < x.length → i < 250 ∧ (nthR x i).length ≤ 40) ∧ z.length ≤ 1100))
theorem few.len {x : List (List Int)} {z : List Int} (h : few x z) : x.length ≤ 250 := by
  by_cases h1 : x.length = 0
  · omega
  · have := (h.1 (x.length - 1) (by omega)).1
    omega
theorem few_ok {ro : List ABlk} {h : Heap} {a b : AVal} {x : List (List Int)} {z : List Int} (ha : IsMat ro h a x) (hb : IsRow ro h b z) (hx : x.length ≤ 9223372036854775807) : callX F1 ro 15 [a, b] h = some (.b (decide (few x z)), h, h.length, h.length) := by
  refine g15_ok (meansX_ok F1 ro) rfl ?_
  unfold g15
  simp only [meansX_loop]
  have hloop := loop_if (b := fun s => g15_b0 (meansX F1 ro) ro a b ⟨h, h.length, h.length⟩ s) (fun i => (i : Int)) x.length (fun i => i < 250 ∧ (nthR x i).length ≤ 40) (.inl ()) (.inr false) ?_ ?_ ?_
  · have e0 : ((0 : Nat) : Int) = 0 := rfl
    rw [e0] at hloop
    rw [hloop]
    by_cases hf : ∀ i, i < x.length → i < 250 ∧ (nthR x i).length ≤ 40
    · rw [if_pos hf]
      simp only [bindO_some, len_row hb, asI_i, forceB_eq, ltI_eq, tupA]
      have e : decide (few x z) = !decide ((1100 : Int) < (z.length : Int)) := by
        rw [← decide_not]; exact decide_eq_decide.2 ⟨fun hh => by have := hh.2; omega, fun hh => ⟨hf, by omega⟩⟩
      rw [e]
      exact fin_pure rfl
    · rw [if_neg hf]
      have e : decide (few x z) = false := by simp only [decide_eq_false_iff_not]; exact fun hh => hf hh.1
      simp only [bindO_some, e, tupA]
      exact fin_pure rfl
  · simp only [g15_b0, len_mat ha, bindO_some, asI_i, forceB_eq, ltI_eq]
    simp
  · intro i hi hp
    obtain ⟨p, u, h1, h2, h3, h4⟩ := at_mat (m := ⟨h, h.length, h.length⟩) rfl ha hi
    have e := lt_yes hi
    have e2 : (!decide ((i : Int) < 250)) = false := by have := hp.1; simp; omega
    have h5 : (x.getD i []).length ≤ 40 := hp.2
    have e3 : decide ((40 : Int) < ((x.getD i []).length : Int)) = false := dF (by omega)
    simp only [g15_b0, len_mat ha, bindO_some, asI_i, forceB_eq, ltI_eq, e, cond_true, e2, cond_false, h1, h2, len_row h4, e3, forceI_eq]
    rw [wr_id' (by omega) (by omega)]
    rfl
  · intro i hi hp
    obtain ⟨p, u, h1, h2, h3, h4⟩ := at_mat (m := ⟨h, h.length, h.length⟩) rfl ha hi
    have e := lt_yes hi
    by_cases h250 : i < 250
    · have e2 : (!decide ((i : Int) < 250)) = false := by simp; omega
      have e3 : decide ((40 : Int) < ((x.getD i []).length : Int)) = true := by
        have : ¬ (x.getD i []).length ≤ 40 := fun hh => hp ⟨h250, hh⟩
        exact dT (by omega)
      simp only [g15_b0, len_mat ha, bindO_some, asI_i, forceB_eq, ltI_eq, e, cond_true, e2, cond_false, h1, h2, len_row h4, e3]
    · have e2 : (!decide ((i : Int) < 250)) = true := by simp; omega
      simp only [g15_b0, len_mat ha, bindO_some, asI_i, forceB_eq, ltI_eq, e, cond_true, e2]

theorem same_ok {ro : List ABlk} {h : Heap} {a b : AVal} {x y : List Int} (ha : IsRow ro h a x) (hb : IsRow ro h b y) (hx : x.length ≤ 1000000) :
    callX F1 ro 20 [a, b] h = some (.b (decide (x = y)), h, h.length, h.length) := by
  refine g20_ok (meansX_ok F1 ro) rfl ?_
  unfold g20
  simp only [len_row ha, len_row hb, bindO_some, asI_i, forceB_eq, eqI_eq, meansX_loop]
  by_cases hl : x.length = y.length
  · have e : ((x.length : Int) == (y.length : Int)) = true := by simp [hl]
    simp only [e, Bool.not_true, cond_false]
    have hloop := loop_if (b := fun s => g20_b0 (meansX F1 ro) ro a b ⟨h, h.length, h.length⟩ s) (fun i => (i : Int)) x.length (fun i => x.getD i 0 = y.getD i 0) (.inl ()) (.inr false) ?_ ?_ ?_
    · have e0 : ((0 : Nat) : Int) = 0 := rfl
      rw [e0] at hloop
      rw [hloop]
      by_cases hxy : x = y
      · rw [if_pos (fun i _ => by rw [hxy])]
        simp only [bindO_some, hxy, decide_true, tupA]
        exact fin_pure rfl
      · rw [if_neg (fun hall => hxy (List.ext_getElem hl fun i h1 h2 => by have := hall i h1; simpa [List.getD, h1, h2] using this))]
        simp only [bindO_some, hxy, decide_false, tupA]
        exact fin_pure rfl
    · simp only [g20_b0, len_row ha, bindO_some, asI_i, forceB_eq, ltI_eq]
      simp
    · intro i hi hp
      obtain ⟨p, h1, h2, h3⟩ := at_row (m := ⟨h, h.length, h.length⟩) rfl ha hi
      obtain ⟨p', h1', h2', h3'⟩ := at_row (m := ⟨h, h.length, h.length⟩) rfl hb (by omega : i < y.length)
      have e := lt_yes hi
      have e2 : (!(x.getD i 0 == y.getD i 0)) = false := by rw [hp]; simp
      simp only [g20_b0, len_row ha, bindO_some, asI_i, forceB_eq, ltI_eq, e, cond_true, h1, h3, h1', h3', eqI_eq, e2, cond_false, forceI_eq]
      rw [wr_id' (by omega) (by omega)]
      rfl
    · intro i hi hp
      obtain ⟨p, h1, h2, h3⟩ := at_row (m := ⟨h, h.length, h.length⟩) rfl ha hi
      obtain ⟨p', h1', h2', h3'⟩ := at_row (m := ⟨h, h.length, h.length⟩) rfl hb (by omega : i < y.length)
      have e := lt_yes hi
      have e2 : (!(x.getD i 0 == y.getD i 0)) = true := by simpa using hp
      simp only [g20_b0, len_row ha, bindO_some, asI_i, forceB_eq, ltI_eq, e, cond_true, h1, h3, h1', h3', eqI_eq, e2]
  · have e : ((x.length : Int) == (y.length : Int)) = false := by simp; omega
    have hxy : ¬ (x = y) := fun e => hl (by rw [e])
    simp only [e, Bool.not_false, cond_true, hxy, decide_false, tupA]
    exact fin_pure rfl
end Go.Proofs.Ytnalgdobglfndaa.T

/- What a record is: the program's checks and the reference's. -/
open Go.Vm
set_option linter.unusedVariables false
namespace Go.Proofs.Ytnalgdobglfndaa.T
open Go

def bitP (x : Int) : Prop := x = 0 ∨ x = 1
instance (x : Int) : Decidable (bitP x) := inferInstanceAs (Decidable (_ ∨ _))
def bitsP (z : List Int) : Prop := ∀ j, j < z.length → bitP (z.getD j 0)
instance (z : List Int) : Decidable (bitsP z) := inferInstanceAs (Decidable (∀ j, j < z.length → bitP (z.getD j 0)))
/-- a row of so many numbers 0 or 1 -/
def rowP (z : List Int) (n : Int) : Prop := bitsP z ∧ (z.length : Int) = n
instance (z : List Int) (n : Int) : Decidable (rowP z n) := inferInstanceAs (Decidable (_ ∧ _))
def matP (x : List (List Int)) (k n : Int) : Prop := (∀ i, i < x.length → rowP (nthR x i) n) ∧ (x.length : Int) = k
instance (x : List (List Int)) (k n : Int) : Decidable (matP x k n) := inferInstanceAs (Decidable (_ ∧ _))

section
variable {ro : List ABlk} {h : Heap} {a b : AVal} {x : List (List Int)} {z : List Int}

/-- how long the rows and the list are: no more than an int can count -/
def LenOk (x : List (List Int)) : Prop := x.length ≤ 9223372036854775807 ∧ ∀ i, i < x.length → (nthR x i).length ≤ 9223372036854775807
end
end Go.Proofs.Ytnalgdobglfndaa.T

/- Ratios in lowest terms; what foretellers say; how many bits a number has. -/
open Go.Vm
set_option linter.unusedVariables false
namespace Go.Proofs.Ytnalgdobglfndaa.T
open Go

def saidP (k n : Int) (x : List (List Int)) : Prop := 1 ≤ k ∧ k ≤ 10 ∧ 1 ≤ n ∧ n ≤ 20 ∧ matP x k n
instance (k n : Int) (x : List (List Int)) : Decidable (saidP k n x) := inferInstanceAs (Decidable (_ ∧ _))

section
variable {ro : List ABlk} {h hp : Heap} {a b : AVal} {x : List (List Int)} {z : List Int}

/- bits -/
end
end Go.Proofs.Ytnalgdobglfndaa.T

/- How often foretellers are wrong: by bits, and one by one. -/
open Go.Vm
set_option linter.unusedVariables false
namespace Go.Proofs.Ytnalgdobglfndaa.T
open Go

section
variable {ro : List ABlk} {h hp : Heap} {a b v : AVal} {x : List (List Int)} {z : List Int}

end
end Go.Proofs.Ytnalgdobglfndaa.T

/- Regret: the program's and the reference's. -/
open Go.Vm
set_option linter.unusedVariables false
namespace Go.Proofs.Ytnalgdobglfndaa.T
open Go

section
variable {ro : List ABlk} {h hp : Heap} {a b v : AVal} {x : List (List Int)} {z : List Int}

theorem holds_row {hp : Heap} {q n : Nat} {vs : List AVal} {z : List Int} (a : Holds hp q vs) (hz : vs = z.map (AVal.i .i64)) (hn : z.length = n) {cap : Cap} : IsRow ro hp (.sl ⟨false, q, 0⟩ n cap) z := by
  subst hz; subst hn
  obtain ⟨blk, h1, h2, h3⟩ := a
  refine .inr ⟨_, cap, blk, rfl, rdB_heap h1 0, by simpa using (Nat.le_of_eq h2.symm), fun j hj => ?_⟩
  rw [show (0 + j) = j by omega, h3 j (by simpa using hj), map_getD hj]

theorem Fits.lens {x : List (List Int)} (hf : Fits x) : LenOk x := ⟨hf.1, fun i hi => by
  have : nthR x i ∈ x := by
    have : nthR x i = x[i] := by simp [nthR, List.getD, hi]
    rw [this]; exact List.getElem_mem hi
  exact (hf.2 _ this).1⟩
end
end Go.Proofs.Ytnalgdobglfndaa.T

/- What points are: the program's checks and the reference's. -/
open Go.Vm
set_option linter.unusedVariables false
namespace Go.Proofs.Ytnalgdobglfndaa.T
open Go

def coordP (z : List Int) : Prop := ∀ j, j < z.length → -100 ≤ z.getD j 0 ∧ z.getD j 0 ≤ 100
instance (z : List Int) : Decidable (coordP z) := inferInstanceAs (Decidable (∀ j, j < z.length → -100 ≤ z.getD j 0 ∧ z.getD j 0 ≤ 100))
def pointP (z : List Int) : Prop := 1 ≤ z.length ∧ z.length ≤ 6 ∧ coordP z
instance (z : List Int) : Decidable (pointP z) := inferInstanceAs (Decidable (_ ∧ _))
def signP (n : Int) : Prop := n = 1 ∨ n = -1
instance (n : Int) : Decidable (signP n) := inferInstanceAs (Decidable (_ ∨ _))
def ptP (x : List (List Int)) (z : List Int) (i : Nat) : Prop := (nthR x i).length = (nthR x 0).length ∧ pointP (nthR x i) ∧ signP (z.getD i 0)
instance (x : List (List Int)) (z : List Int) (i : Nat) : Decidable (ptP x z i) := inferInstanceAs (Decidable (_ ∧ _))
def ptsP (x : List (List Int)) (z : List Int) : Prop := 0 < x.length ∧ z.length = x.length ∧ ∀ i, i < x.length → ptP x z i
instance (x : List (List Int)) (z : List Int) : Decidable (ptsP x z) := inferInstanceAs (Decidable (_ ∧ _ ∧ ∀ i, i < x.length → ptP x z i))
/-- the errors of points and signs -/
def ptE (x : List (List Int)) (z : List Int) : Int := if 50 < x.length then 3 else if ptsP x z then 0 else 2

section
variable {ro : List ABlk} {h : Heap} {a b : AVal} {x : List (List Int)} {z : List Int}

theorem isPoint_ok (hb : IsRow ro h b z) : callX F1 ro 74 [b] h = some (.b (decide (pointP z)), h, h.length, h.length) := by
  refine g74_ok (meansX_ok F1 ro) rfl ?_
  unfold g74
  simp only [len_row hb, bindO_some, asI_i, forceB_eq, ltI_eq, meansX_loop]
  by_cases h1 : z.length < 1
  · simp only [dT (show (z.length : Int) < 1 by omega), cond_true, bindO_some, dF (show ¬ pointP z from fun hh => by have := hh.1; omega), tupA]; exact fin_pure rfl
  by_cases h2 : 6 < z.length
  · simp only [dF (show ¬ (z.length : Int) < 1 by omega), dT (show (6 : Int) < (z.length : Int) by omega), cond_true, cond_false, bindO_some, dF (show ¬ pointP z from fun hh => by have := hh.2.1; omega), tupA]; exact fin_pure rfl
  simp only [dF (show ¬ (z.length : Int) < 1 by omega), dF (show ¬ (6 : Int) < (z.length : Int) by omega), cond_false, bindO_some]
  have hloop := loop_if (b := fun s => g74_b1 (meansX F1 ro) ro b z.length ⟨h, h.length, h.length⟩ s) (fun i => (i : Int)) z.length (fun i => -100 ≤ z.getD i 0 ∧ z.getD i 0 ≤ 100) (.inl ()) (.inr false) ?_ ?_ ?_
  · have e0 : ((0 : Nat) : Int) = 0 := rfl
    rw [e0] at hloop
    rw [hloop]
    by_cases hf : coordP z
    · rw [if_pos (show ∀ i, i < z.length → -100 ≤ z.getD i 0 ∧ z.getD i 0 ≤ 100 from hf)]
      simp only [bindO_some, dT (show pointP z from ⟨by omega, by omega, hf⟩), tupA]; exact fin_pure rfl
    · rw [if_neg (show ¬ ∀ i, i < z.length → -100 ≤ z.getD i 0 ∧ z.getD i 0 ≤ 100 from hf)]
      simp only [bindO_some, dF (show ¬ pointP z from fun hh => hf hh.2.2), tupA]; exact fin_pure rfl
  · simp only [g74_b1, forceB_eq, ltI_eq, lt_no, cond_false]
  · intro i hi hp
    obtain ⟨p, h1, h2, h3⟩ := at_row (m := ⟨h, h.length, h.length⟩) rfl hb hi
    simp only [g74_b1, forceB_eq, ltI_eq, lt_yes hi, cond_true, h1, h2, bindO_some, asI_i, dF (show ¬ z.getD i 0 < -100 by omega), dF (show ¬ 100 < z.getD i 0 by omega), cond_false, forceI_eq]
    rw [wr_next (by omega)]
  · intro i hi hp
    obtain ⟨p, h1, h2, h3⟩ := at_row (m := ⟨h, h.length, h.length⟩) rfl hb hi
    by_cases h4 : z.getD i 0 < -100
    · simp only [g74_b1, forceB_eq, ltI_eq, lt_yes hi, cond_true, h1, h2, bindO_some, asI_i, dT h4]
    · have h5 : 100 < z.getD i 0 := by omega
      simp only [g74_b1, forceB_eq, ltI_eq, lt_yes hi, cond_true, h1, h2, bindO_some, asI_i, dF h4, dT h5, cond_false]

theorem sign_c {R : Type} {n : Int} (A B : Option R) : (bindO (cond (!(n == 1)) (some (!(n == -1))) (some false)) fun c => cond c A B) = if signP n then B else A := by
  by_cases h1 : n = 1
  · subst h1; rw [if_pos (show signP 1 from .inl rfl)]; rfl
  · by_cases h2 : n = -1
    · subst h2; rw [if_pos (show signP (-1) from .inr rfl)]; rfl
    · rw [if_neg (fun hh => by rcases hh with hh | hh <;> contradiction)]
      have e1 : (n == 1) = false := by simpa using h1
      have e2 : (n == -1) = false := by simpa using h2
      rw [e1, e2]; rfl

theorem checkPoints_ok (ha : IsMat ro h a x) (hl : LenOk x) (hb : IsRow ro h b z) : callX F1 ro 56 [a, b] h = some (.i .i64 (ptE x z), h, h.length, h.length) := by
  refine g56_ok (meansX_ok F1 ro) rfl ?_
  unfold g56
  simp only [len_mat ha, len_row hb, bindO_some, asI_i, forceB_eq, ltI_eq, eqI_eq, meansX_loop]
  by_cases h1 : 50 < x.length
  · simp only [dT (show (50 : Int) < (x.length : Int) by omega), cond_true, ptE, if_pos h1, tupA]; exact fin_pure rfl
  simp only [dF (show ¬ (50 : Int) < (x.length : Int) by omega), cond_false, ptE, if_neg h1]
  by_cases h2 : x.length = 0
  · have e : ((x.length : Int) == 0) = true := by rw [h2]; rfl
    simp only [e, cond_true, bindO_some, if_neg (show ¬ ptsP x z from fun hh => by have := hh.1; omega), tupA]; exact fin_pure rfl
  have e : ((x.length : Int) == 0) = false := by rw [beq_eq_false_iff_ne]; omega
  by_cases h3 : z.length = x.length
  case neg =>
    have e3 : (!((z.length : Int) == (x.length : Int))) = true := by
      have : ¬ (z.length : Int) = x.length := by omega
      simpa using this
    simp only [e, e3, cond_true, cond_false, bindO_some, if_neg (show ¬ ptsP x z from fun hh => h3 hh.2.1), tupA]; exact fin_pure rfl
  have e3 : (!((z.length : Int) == (x.length : Int))) = false := by rw [h3]; simp
  simp only [e, e3, cond_false, bindO_some]
  obtain ⟨p0, u0, g1, g2, g3, g4⟩ := at_mat (m := ⟨h, h.length, h.length⟩) rfl ha (show 0 < x.length by omega)
  have e0 : ((0 : Nat) : Int) = 0 := rfl
  rw [e0] at g1
  have hloop := loop_if (b := fun s : Int × Mm => g56_b1 (meansX F1 ro) ro a b x.length s.1 s.2) (fun i => ((i : Int), (⟨h, h.length, h.length⟩ : Mm))) x.length (ptP x z) (.inl ⟨h, h.length, h.length⟩) (.inr (2, ⟨h, h.length, h.length⟩)) ?_ ?_ ?_
  · rw [e0] at hloop
    rw [hloop]
    by_cases hf : ∀ i, i < x.length → ptP x z i
    · rw [if_pos hf]
      simp only [bindO_some, if_pos (show ptsP x z from ⟨by omega, h3, hf⟩), tupA]; exact fin_pure rfl
    · rw [if_neg hf]
      simp only [bindO_some, if_neg (show ¬ ptsP x z from fun hh => hf hh.2.2), tupA]; exact fin_pure rfl
  · simp only [g56_b1, forceB_eq, ltI_eq, lt_no, cond_false]
  all_goals
    intro i hi hp
    obtain ⟨p, u, h1', h2', h3', h4'⟩ := at_mat (m := ⟨h, h.length, h.length⟩) rfl ha hi
    obtain ⟨q, k1, k2, k3⟩ := at_row (m := ⟨h, h.length, h.length⟩) rfl hb (show i < z.length by omega)
    simp only [g56_b1, forceB_eq, ltI_eq, lt_yes hi, cond_true, h1', h2', bindO_some, len_row h4', asI_i, g1, g2, len_row g4, eqI_eq]
    by_cases c1 : (nthR x i).length = (nthR x 0).length
    · have e4 : (!(((x.getD i []).length : Int) == ((x.getD 0 []).length : Int))) = false := by
        rw [show (x.getD i []).length = (x.getD 0 []).length from c1]; simp
      simp only [e4, cond_false, meansX_call, cp0 (isPoint_ok h4'), bindP_some, asB_b]
      by_cases c2 : pointP (nthR x i)
      · simp only [dT (show pointP (x.getD i []) from c2), Bool.not_true, bindO_some, cond_false, k1, k2, asI_i, sign_c]
        by_cases c3 : signP (z.getD i 0)
        · first
          | exact absurd ⟨c1, c2, c3⟩ hp
          | (rw [if_pos c3]; simp only [forceI_eq]; rw [wr_next (by omega)])
        · first
          | exact absurd hp.2.2 c3
          | rw [if_neg c3]
      · first
        | exact absurd hp.2.1 c2
        | simp only [dF (show ¬ pointP (x.getD i []) from c2), Bool.not_false, bindO_some, cond_true]
    · first
      | exact absurd hp.1 c1
      | (have e4 : (!(((x.getD i []).length : Int) == ((x.getD 0 []).length : Int))) = true := by
          have : ¬ ((x.getD i []).length : Int) = ((x.getD 0 []).length : Int) := fun hh => c1 (by have hh := Int.ofNat.inj hh; exact hh)
          simpa using this
         simp only [e4, cond_true, bindO_some])

theorem Points_ok (ha : IsMat ro h a x) (hl : LenOk x) (hb : IsRow ro h b z) : callX F1 ro 43 [a, b] h = some (.i .i64 (ptE x z), h, h.length, h.length) := by
  refine g43_ok (meansX_ok F1 ro) rfl ?_
  unfold g43
  simp only [len_mat ha, len_row hb, bindO_some, asI_i, forceB_eq, ltI_eq, eqI_eq, meansX_loop]
  by_cases h1 : 50 < x.length
  · simp only [dT (show (50 : Int) < (x.length : Int) by omega), cond_true, ptE, if_pos h1, tupA]; exact fin_pure rfl
  simp only [dF (show ¬ (50 : Int) < (x.length : Int) by omega), cond_false, ptE, if_neg h1]
  by_cases h2 : x.length = 0
  · have e : ((x.length : Int) == 0) = true := by rw [h2]; rfl
    simp only [e, cond_true, if_neg (show ¬ ptsP x z from fun hh => by have := hh.1; omega), tupA]; exact fin_pure rfl
  have e : ((x.length : Int) == 0) = false := by rw [beq_eq_false_iff_ne]; omega
  obtain ⟨p0, u0, g1, g2, g3, g4⟩ := at_mat (m := ⟨h, h.length, h.length⟩) rfl ha (show 0 < x.length by omega)
  have e0 : ((0 : Nat) : Int) = 0 := rfl
  rw [e0] at g1
  simp only [e, cond_false, g1, g2, bindO_some, len_row g4, asI_i]
  by_cases d1 : (nthR x 0).length < 1
  · have hno : ¬ ptsP x z := fun hh => by have := (hh.2.2 0 (by omega)).2.1.1; omega
    simp only [dT (show ((x.getD 0 []).length : Int) < 1 from by have : (x.getD 0 []).length < 1 := d1; omega), cond_true, bindO_some, if_neg hno, tupA]; exact fin_pure rfl
  by_cases d2 : 6 < (nthR x 0).length
  · have hno : ¬ ptsP x z := fun hh => by have := (hh.2.2 0 (by omega)).2.1.2.1; omega
    simp only [dF (show ¬ ((x.getD 0 []).length : Int) < 1 from by have : ¬ (x.getD 0 []).length < 1 := d1; omega), dT (show (6 : Int) < ((x.getD 0 []).length : Int) from by have : 6 < (x.getD 0 []).length := d2; omega), cond_false, cond_true, bindO_some, if_neg hno, tupA]; exact fin_pure rfl
  simp only [dF (show ¬ ((x.getD 0 []).length : Int) < 1 from by have : ¬ (x.getD 0 []).length < 1 := d1; omega), dF (show ¬ (6 : Int) < ((x.getD 0 []).length : Int) from by have : ¬ 6 < (x.getD 0 []).length := d2; omega), cond_false, bindO_some]
  have hloop := loop_if (b := fun s : Int => g43_b1 (meansX F1 ro) ro a b (x.getD 0 []).length ⟨h, h.length, h.length⟩ s) (fun i => (i : Int)) x.length (fun i => (nthR x i).length = (nthR x 0).length ∧ coordP (nthR x i)) (.inl ()) (.inr 2) ?_ ?_ ?_
  · rw [e0] at hloop
    rw [hloop]
    by_cases hf : ∀ i, i < x.length → (nthR x i).length = (nthR x 0).length ∧ coordP (nthR x i)
    case neg =>
      rw [if_neg hf]
      simp only [bindO_some, if_neg (show ¬ ptsP x z from fun hh => hf fun i hi => ⟨(hh.2.2 i hi).1, (hh.2.2 i hi).2.1.2.2⟩), tupA]; exact fin_pure rfl
    rw [if_pos hf]
    simp only [bindO_some]
    by_cases h3 : z.length = x.length
    case neg =>
      have e3 : (!((z.length : Int) == (x.length : Int))) = true := by
        have : ¬ (z.length : Int) = x.length := by omega
        simpa using this
      simp only [e3, cond_true, if_neg (show ¬ ptsP x z from fun hh => h3 hh.2.1), tupA]; exact fin_pure rfl
    have e3 : (!((z.length : Int) == (x.length : Int))) = false := by rw [h3]; simp
    simp only [e3, cond_false]
    have hloop2 := loop_if (b := fun s : Int => g43_b4 (meansX F1 ro) ro b ⟨h, h.length, h.length⟩ s) (fun i => (i : Int)) z.length (fun i => signP (z.getD i 0)) (.inl ()) (.inr 2) ?_ ?_ ?_
    · rw [e0] at hloop2
      rw [hloop2]
      by_cases hs : ∀ i, i < z.length → signP (z.getD i 0)
      · rw [if_pos hs]
        have hp : ptsP x z := ⟨by omega, h3, fun i hi => ⟨(hf i hi).1, ⟨by rw [(hf i hi).1]; omega, by rw [(hf i hi).1]; omega, (hf i hi).2⟩, hs i (by omega)⟩⟩
        simp only [bindO_some, if_pos hp, tupA]; exact fin_pure rfl
      · rw [if_neg hs]
        simp only [bindO_some, if_neg (show ¬ ptsP x z from fun hh => hs fun i hi => (hh.2.2 i (by omega)).2.2), tupA]; exact fin_pure rfl
    · simp only [g43_b4, len_row hb, bindO_some, asI_i, forceB_eq, ltI_eq, lt_no, cond_false]
    all_goals
      intro i hi hp
      obtain ⟨q, k1, k2, k3⟩ := at_row (m := ⟨h, h.length, h.length⟩) rfl hb hi
      simp only [g43_b4, len_row hb, bindO_some, asI_i, forceB_eq, ltI_eq, lt_yes hi, cond_true, k1, k2, eqI_eq, sign_c]
      first
      | (rw [if_neg hp])
      | (rw [if_pos hp]; simp only [forceI_eq]; rw [wr_next (by omega)])
  · simp only [g43_b1, len_mat ha, bindO_some, asI_i, forceB_eq, ltI_eq, lt_no, cond_false]
  all_goals
    intro i hi hp
    obtain ⟨p, u, h1', h2', h3', h4'⟩ := at_mat (m := ⟨h, h.length, h.length⟩) rfl ha hi
    simp only [g43_b1, len_mat ha, bindO_some, asI_i, forceB_eq, ltI_eq, lt_yes hi, cond_true, h1', h2', len_row h4', eqI_eq, meansX_loop]
    by_cases c1 : (nthR x i).length = (nthR x 0).length
    case neg =>
      first
      | exact absurd hp.1 c1
      | (have e4 : (!(((x.getD i []).length : Int) == ((x.getD 0 []).length : Int))) = true := by
          have : ¬ ((x.getD i []).length : Int) = ((x.getD 0 []).length : Int) := fun hh => c1 (by have hh := Int.ofNat.inj hh; exact hh)
          simpa using this
         simp only [e4, cond_true])
    have c1' : (x.getD i []).length = (x.getD 0 []).length := c1
    have e4 : (!(((x.getD i []).length : Int) == ((x.getD 0 []).length : Int))) = false := by rw [c1']; simp
    have hin := loop_if (b := fun s : Int => g43_b2 (meansX F1 ro) ro a b (x.getD 0 []).length (i : Int) ⟨h, h.length, h.length⟩ s) (fun i => (i : Int)) (x.getD i []).length (fun j => -100 ≤ (x.getD i []).getD j 0 ∧ (x.getD i []).getD j 0 ≤ 100) (.inl ()) (.inr 2) (by
        rw [c1']; simp only [g43_b2, forceB_eq, ltI_eq, lt_no, cond_false]) (fun j hj hp => by
        obtain ⟨q, k1, k2, k3⟩ := at_row (m := ⟨h, h.length, h.length⟩) rfl h4' hj
        have hj' : j < (x.getD 0 []).length := by rw [← c1']; exact hj
        have d2' : (x.getD 0 []).length ≤ 6 := by have : ¬ 6 < (x.getD 0 []).length := d2; omega
        simp only [g43_b2, forceB_eq, ltI_eq, lt_yes hj', cond_true, h1', h2', bindO_some, k1, k2, asI_i, dF (show ¬ (x.getD i []).getD j 0 < -100 by omega), dF (show ¬ 100 < (x.getD i []).getD j 0 by omega), cond_false, forceI_eq]
        rw [wr_next (by omega)]) (fun j hj hp => by
        obtain ⟨q, k1, k2, k3⟩ := at_row (m := ⟨h, h.length, h.length⟩) rfl h4' hj
        have hj' : j < (x.getD 0 []).length := by rw [← c1']; exact hj
        by_cases h4 : (x.getD i []).getD j 0 < -100
        · simp only [g43_b2, forceB_eq, ltI_eq, lt_yes hj', cond_true, h1', h2', bindO_some, k1, k2, asI_i, dT h4]
        · have h5 : 100 < (x.getD i []).getD j 0 := by omega
          simp only [g43_b2, forceB_eq, ltI_eq, lt_yes hj', cond_true, h1', h2', bindO_some, k1, k2, asI_i, dF h4, dT h5, cond_false])
    rw [e0] at hin
    simp only [e4, cond_false, hin]
    by_cases c2 : ∀ j, j < (x.getD i []).length → -100 ≤ (x.getD i []).getD j 0 ∧ (x.getD i []).getD j 0 ≤ 100
    · first
      | exact absurd ⟨c1, c2⟩ hp
      | (rw [if_pos c2]; simp only [bindO_some, forceI_eq]; rw [wr_next (by omega)])
    · first
      | exact absurd hp.2 c2
      | (rw [if_neg c2]; simp only [bindO_some])
end
end Go.Proofs.Ytnalgdobglfndaa.T

/- Perceptron: the program's and the reference's. -/
open Go.Vm
set_option linter.unusedVariables false
namespace Go.Proofs.Ytnalgdobglfndaa.T
open Go

def ints (w : List Int) : List AVal := w.map (AVal.i .i64)
theorem ints_len (w : List Int) : (ints w).length = w.length := by simp [ints]
theorem ints_get {w : List Int} {j : Nat} (hj : j < w.length) : (ints w).getD j und = .i .i64 (w.getD j 0) := map_getD hj
theorem ints_set (w : List Int) (j : Nat) (n : Int) : (ints w).set j (.i .i64 n) = ints (w.set j n) := by simp [ints, List.map_set]

/-- the sum of the coordinates times the weights -/
def dotN (p w : List Int) : Nat → Int
  | 0 => 0
  | k + 1 => wr .i64 (dotN p w k + wr .i64 (p.getD k 0 * w.getD k 0))
/-- the first c weights with the point added -/
def updN (w p : List Int) (s : Int) (c : Nat) : List Int := (List.range w.length).map fun j => if j < c then wr .i64 (w.getD j 0 + wr .i64 (s * p.getD j 0)) else w.getD j 0
theorem updN_len (w p : List Int) (s : Int) (c : Nat) : (updN w p s c).length = w.length := by simp [updN]
theorem updN_get {w p : List Int} {s : Int} {c j : Nat} (hj : j < w.length) : (updN w p s c).getD j 0 = if j < c then wr .i64 (w.getD j 0 + wr .i64 (s * p.getD j 0)) else w.getD j 0 := by simp [updN, List.getD, hj]
theorem updN_zero (w p : List Int) (s : Int) : updN w p s 0 = w := by
  refine List.ext_getElem (by simp [updN]) fun j h1 h2 => ?_
  simp [updN, List.getD, h2]
theorem updN_set {w p : List Int} {s : Int} {c : Nat} (hc : c < w.length) : (updN w p s c).set c (wr .i64 (w.getD c 0 + wr .i64 (s * p.getD c 0))) = updN w p s (c + 1) := by
  refine List.ext_getElem (by simp [updN]) fun j h1 h2 => ?_
  have hj : j < w.length := by simpa [updN] using h2
  rw [List.getElem_set]
  by_cases e : c = j
  · subst e; simp [updN]
  · rw [if_neg e]
    have : (j < c ↔ j < c + 1) := by omega
    simp [updN, this]
/-- is the point at which a round is, on its side? -/
def hitP (x : List (List Int)) (z : List Int) (i : Nat) (w : List Int) : Prop := 0 < wr .i64 (z.getD i 0 * dotN (nthR x i) w w.length)
instance (x : List (List Int)) (z : List Int) (i : Nat) (w : List Int) : Decidable (hitP x z i w) := inferInstanceAs (Decidable (_ < _))
/-- a round: the weights, the mistakes so far -/
def vis (x : List (List Int)) (z : List Int) (w : List Int) : Nat → List Int × Nat
  | 0 => (w, 0)
  | i + 1 => if hitP x z i (vis x z w i).1 then vis x z w i else (updN (vis x z w i).1 (nthR x i) (z.getD i 0) w.length, (vis x z w i).2 + 1)
theorem vis_len (x : List (List Int)) (z w : List Int) : ∀ i, (vis x z w i).1.length = w.length
  | 0 => rfl
  | i + 1 => by
    unfold vis
    split
    · exact vis_len x z w i
    · rw [updN_len]; exact vis_len x z w i
theorem vis_le (x : List (List Int)) (z w : List Int) : ∀ i, (vis x z w i).2 ≤ i
  | 0 => Nat.le_refl _
  | i + 1 => by
    have := vis_le x z w i
    unfold vis
    split
    · omega
    · simp only; omega
/-- the rounds: where they end, the weights and the mistakes -/
def perF (x : List (List Int)) (z : List Int) : Nat → List Int → Nat → Option (List Int × Nat)
  | 0, _, _ => none
  | k + 1, w, m => if (vis x z w x.length).2 = 0 then some ((vis x z w x.length).1, m) else perF x z k (vis x z w x.length).1 (m + (vis x z w x.length).2)
def zeros (n : Nat) : List Int := List.replicate n 0
/-- what Perceptron answers -/
def perR (x : List (List Int)) (z : List Int) (r : Int) : List Int × Int × Int :=
  if ptE x z ≠ 0 then ([], 0, ptE x z) else if r < 1 ∨ 1000 < r then ([], 0, 4) else
  match perF x z r.toNat (zeros (nthR x 0).length) 0 with
  | some (w, m) => (w, (m : Int), 0)
  | none => ([], 0, 10)

section
variable {ro : List ABlk} {h hp : Heap} {a b v : AVal} {x : List (List Int)} {z : List Int}

theorem Holds.wr {b k : Nat} {vs : List AVal} {v : AVal} (a : Holds hp b vs) (hk : k < vs.length) (hv : v.one = true) (hc : v.cells = [v]) (hn : nonp [v] = true) (hL : h.length ≤ b) (kp : Keep h hp) :
    ∃ hp', writesM ro [] [(⟨false, b, 0 + k⟩, AVal.cells v)] ⟨hp, h.length, h.length⟩ = some ⟨hp', h.length, h.length⟩ ∧ Holds hp' b (vs.set k v) ∧ hp'.length = hp.length ∧ (∀ i, i ≠ b → hp'[i]? = hp[i]?) ∧ Keep h hp' := by
  obtain ⟨blk, h1, h2, h3⟩ := a
  refine ⟨hp.set b (some { blk with c := blk.c.set (0 + k) v }), ?_, ⟨_, lget_set h1 _, by simpa using h2, fun j hj => ?_⟩, by simp, fun i hi => List.getElem?_set_ne (Ne.symm hi), kp.set hL _⟩
  · rw [hc, wr_heap h1 (by omega) hv hn, Nat.min_eq_left hL]
  · show (blk.c.set (0 + k) v).get j = _
    rw [get_set]
    simp only [List.length_set] at hj
    by_cases e : 0 + k = j
    · have e' : k = j := by omega
      subst e'; simp [List.getD, hj]
    · rw [if_neg e, h3 j hj]
      simp [List.getD, List.getElem?_set_ne (show k ≠ j by omega)]
theorem getD_self {α : Type} {l : List α} {k : Nat} {v d : α} (h : k < l.length) : (l.set k v).getD k d = v := by simp [List.getD, h]
theorem getD_ne {α : Type} {l : List α} {k j : Nat} {v d : α} (h : k ≠ j) : (l.set k v).getD j d = l.getD j d := by simp [List.getD, List.getElem?_set_ne h]
theorem Holds.wrG {b k l p : Nat} {vs : List AVal} {v : AVal} (a : Holds hp b vs) (hk : k < vs.length) (hv : v.one = true) (hc : v.cells = [v]) (hn : nonp [v] = true) :
    ∃ hp', writesM ro [] [(⟨false, b, 0 + k⟩, AVal.cells v)] ⟨hp, l, p⟩ = some ⟨hp', min l b, p⟩ ∧ Holds hp' b (vs.set k v) ∧ hp'.length = hp.length ∧ (∀ i, i ≠ b → hp'[i]? = hp[i]?) := by
  obtain ⟨blk, h1, h2, h3⟩ := a
  refine ⟨hp.set b (some { blk with c := blk.c.set (0 + k) v }), ?_, ⟨_, lget_set h1 _, by simpa using h2, fun j hj => ?_⟩, by simp, fun i hi => List.getElem?_set_ne (Ne.symm hi)⟩
  · rw [hc, wr_heap h1 (by omega) hv hn]
  · show (blk.c.set (0 + k) v).get j = _
    rw [get_set]
    simp only [List.length_set] at hj
    by_cases e : 0 + k = j
    · have e' : k = j := by omega
      subst e'; rw [getD_self hj, if_pos (by omega)]
    · rw [if_neg e, h3 j hj, getD_ne (by omega)]
theorem fin_out {L : Nat} {v : AVal} {l p : Nat} (hv : v.bel L = false) : finM L v ⟨hp, l, p⟩ = some (v, hp, l, p) := by
  simp [finM, gc, hv]
theorem keep_o {h0 hp' : Heap} {q : Nat} (k : Keep h0 hp) (hq : h0.length ≤ q) (hl : hp'.length = hp.length) (ho : ∀ i, i ≠ q → hp'[i]? = hp[i]?) : Keep h0 hp' :=
  ⟨by rw [hl]; exact k.1, fun j hj => by rw [ho j (by omega)]; exact k.2 j hj⟩
theorem sl_nb {L b n : Nat} {cap : Cap} {l : List AVal} (h : L ≤ b) : (AVal.tup (.sl ⟨false, b, 0⟩ n cap :: l)).bel L = false := by
  simp only [AVal.bel, bels, Bool.false_or]
  have : Nat.blt b L = false := by rw [Bool.eq_false_iff]; simp [Nat.blt_eq]; omega
  simp [this]

/-- the weights as a slice of a block -/
abbrev wSl (q d : Nat) : AVal := .sl ⟨false, q, 0⟩ d (.known d)

theorem product_ok {u : AVal} {p w : List Int} {q d : Nat} (hu : IsRow ro hp u p) (hw : Holds hp q (ints w)) (hd : w.length = d) (hp1 : p.length = d) (hd6 : d ≤ 6) : callX F1 ro 75 [u, wSl q d] hp = some (.i .i64 (dotN p w d), hp, hp.length, hp.length) := by
  refine g75_ok (meansX_ok F1 ro) rfl ?_
  unfold g75
  simp only [len_row hu, bindO_some, asI_i, meansX_loop]
  have hloop := loop_run (b := fun s : Int × Int => g75_b0 (meansX F1 ro) ro u (wSl q d) p.length ⟨hp, hp.length, hp.length⟩ s.1 s.2) (fun i => (dotN p w i, (i : Int))) d (r0 := dotN p w d) ?_ ?_
  · have e0 : ((0 : Nat) : Int) = 0 := rfl
    have e1 : dotN p w 0 = 0 := rfl
    rw [e0, e1] at hloop
    rw [hloop]
    simp only [bindO_some, tupA]
    exact fin_pure rfl
  · simp only [g75_b0, hp1, forceB_eq, ltI_eq, lt_no, cond_false]
  · intro i hi
    obtain ⟨p1, h1, h2, h3⟩ := at_row (m := ⟨hp, hp.length, hp.length⟩) rfl hu (show i < p.length by omega)
    have g4 := ixS_eq (q := ⟨false, q, 0⟩) (cap := .known d) hi
    have g5 := hw.oneA (ro := ro) (k := i) (by rw [ints_len]; omega)
    rw [ints_get (by omega)] at g5
    simp only [g75_b0, hp1, forceB_eq, ltI_eq, lt_yes hi, cond_true, h1, h3, bindO_some, asI_i, g4, g5, forceI_eq]
    rw [wr_next (by omega)]; rfl

/-- one round of the program -/
theorem visit_ok {w : List Int} {q d : Nat} (ha : IsMat ro h a x) (hb : IsRow ro h b z) (hz : z.length = x.length) (hx : x.length ≤ 50) (hrow : ∀ i, i < x.length → (nthR x i).length = d) (hd6 : d ≤ 6) (hw : Holds hp q (ints w)) (hd : w.length = d)
    (kp : Keep h hp) (hq : h.length ≤ q) : ∃ hp' lw, callX F1 ro 57 [a, b, wSl q d] hp = some (.i .i64 (((vis x z w x.length).2 : Nat) : Int), hp', lw, hp.length) ∧ h.length ≤ lw ∧ hp'.length = hp.length ∧ (∀ i, i ≠ q → hp'[i]? = hp[i]?) ∧ Holds hp' q (ints (vis x z w x.length).1) := by
  have hlen := hw.lt
  have hap := mat_by ha kp
  have hbp := row_by hb kp
  obtain ⟨m', hrun, hI⟩ : ∃ r, loopX (fun s : Int × Int × Mm => g57_b0 (meansX F1 ro) ro b (wSl q d) a x.length s.1 s.2.1 s.2.2) (0, 0, (⟨hp, hp.length, hp.length⟩ : Mm)) = some r ∧
      ∃ hp' lw, r = ((((vis x z w x.length).2 : Nat) : Int), ⟨hp', lw, hp.length⟩) ∧ h.length ≤ lw ∧ hp'.length = hp.length ∧ (∀ i, i ≠ q → hp'[i]? = hp[i]?) ∧ Holds hp' q (ints (vis x z w x.length).1) := by
    refine loopX_rule (b := fun s : Int × Int × Mm => g57_b0 (meansX F1 ro) ro b (wSl q d) a x.length s.1 s.2.1 s.2.2)
      (fun s => ∃ (i : Nat) (hp' : Heap) (lw : Nat), i ≤ x.length ∧ s = ((((vis x z w i).2 : Nat) : Int), (i : Int), ⟨hp', lw, hp.length⟩) ∧ h.length ≤ lw ∧ hp'.length = hp.length ∧ (∀ i, i ≠ q → hp'[i]? = hp[i]?) ∧ Holds hp' q (ints (vis x z w i).1))
      (fun r => ∃ hp' lw, r = ((((vis x z w x.length).2 : Nat) : Int), ⟨hp', lw, hp.length⟩) ∧ h.length ≤ lw ∧ hp'.length = hp.length ∧ (∀ i, i ≠ q → hp'[i]? = hp[i]?) ∧ Holds hp' q (ints (vis x z w x.length).1))
      (fun s => x.length - s.2.1.toNat) ?_ _ ⟨0, hp, hp.length, by omega, rfl, kp.1, rfl, fun _ _ => rfl, hw⟩
    rintro s ⟨i, hp1, lw, hi, rfl, hlw, hl1, ho1, hw1⟩
    by_cases hii : i = x.length
    · subst hii
      right
      refine ⟨_, ?_, hp1, lw, rfl, hlw, hl1, ho1, hw1⟩
      simp only [g57_b0, forceB_eq, ltI_eq, lt_no, cond_false]
    left
    have hi' : i < x.length := by omega
    have kp1 : Keep h hp1 := keep_o kp hq hl1 ho1
    have ha1 := mat_by ha kp1
    obtain ⟨p, u, h1, hld, h4⟩ := at_matK ha hi'
    obtain ⟨p2, k1, kld⟩ := at_rowK hb (show i < z.length by omega)
    have hu1 := row_by h4 kp1
    have hvl := vis_len x z w i
    have hvle := vis_le x z w i
    have hrl : (x.getD i []).length = d := hrow i hi'
    have hdot := callN_pure (call := callX F1 ro) (h := hp1) (product_ok (ro := ro) hu1 hw1 (by rw [hvl]; exact hd) hrl hd6) (by
      have e1 := row_bel hu1
      have e2 : (wSl q d).bel hp1.length = true := by simp [AVal.bel, Nat.blt_eq]; omega
      simp [bels, e1, e2]) rfl
    have ld1 := (hld (l := lw) (q := hp.length) kp1).1
    have ld2 := (kld (l := lw) (q := hp.length) kp1).2
    by_cases hc : hitP x z i (vis x z w i).1
    · have e1 : vis x z w (i + 1) = vis x z w i := by
        show (if hitP x z i (vis x z w i).1 then _ else _) = _
        rw [if_pos hc]
      have hc' : 0 < Go.Vm.wr .i64 (z.getD i 0 * dotN (x.getD i []) (vis x z w i).1 d) := by
        have := hc
        unfold hitP at this
        rw [hvl, hd] at this
        exact this
      refine ⟨((((vis x z w i).2 : Nat) : Int), ((i + 1 : Nat) : Int), ⟨hp1, lw, hp.length⟩), ?_, ⟨i + 1, hp1, lw, by omega, by rw [e1], hlw, hl1, ho1, by rw [e1]; exact hw1⟩, ?_⟩
      · simp only [g57_b0, forceB_eq, ltI_eq, lt_yes hi', cond_true, h1, ld1, bindO_some, k1, ld2, asI_i, meansX_call, hdot, forceI_eq, dT hc']
        rw [wr_next (by omega)]
      · simp only [Int.toNat_natCast]; omega
    · have e1 : vis x z w (i + 1) = (updN (vis x z w i).1 (nthR x i) (z.getD i 0) w.length, (vis x z w i).2 + 1) := by
        show (if hitP x z i (vis x z w i).1 then _ else _) = _
        rw [if_neg hc]
      have hc' : ¬ 0 < Go.Vm.wr .i64 (z.getD i 0 * dotN (x.getD i []) (vis x z w i).1 d) := by
        have := hc
        unfold hitP at this
        rw [hvl, hd] at this
        exact this
      -- the weights are changed
      obtain ⟨m2, hrun2, hp2, lw2, rfl, hlw2, hl2, ho2, hw2⟩ : ∃ r, loopX (fun s : Int × Mm => g57_b2 (meansX F1 ro) ro b (wSl q d) (((vis x z w i).2 : Nat) + 1 : Int) (i : Int) a x.length u (d : Int) s.1 s.2) (((0 : Nat) : Int), (⟨hp1, lw, hp.length⟩ : Mm)) = some r ∧
          ∃ hp2 lw2, r = ⟨hp2, lw2, hp.length⟩ ∧ h.length ≤ lw2 ∧ hp2.length = hp1.length ∧ (∀ i, i ≠ q → hp2[i]? = hp1[i]?) ∧ Holds hp2 q (ints (updN (vis x z w i).1 (nthR x i) (z.getD i 0) d)) := by
        obtain ⟨m', g1, g2⟩ := loop_all (b := fun s : Int × Mm => g57_b2 (meansX F1 ro) ro b (wSl q d) (((vis x z w i).2 : Nat) + 1 : Int) (i : Int) a x.length u (d : Int) s.1 s.2) d
          (fun c m => ∃ hp2 lw2, m = ⟨hp2, lw2, hp.length⟩ ∧ h.length ≤ lw2 ∧ hp2.length = hp1.length ∧ (∀ i, i ≠ q → hp2[i]? = hp1[i]?) ∧ Holds hp2 q (ints (updN (vis x z w i).1 (nthR x i) (z.getD i 0) c)))
          (fun c m hcd hI => by
            obtain ⟨hp2, lw2, rfl, hlw2, hl2, ho2, hw2⟩ := hI
            have kp2 : Keep h hp2 := keep_o kp1 hq hl2 ho2
            obtain ⟨p3, f1, fld⟩ := at_rowK h4 (show c < (x.getD i []).length by rw [hrl]; exact hcd)
            have f2 := (fld (l := lw2) (q := hp.length) kp2).1
            have k2 := (kld (l := lw2) (q := hp.length) kp2).2
            have g4 := ixS_eq (q := ⟨false, q, 0⟩) (cap := .known d) hcd
            have hul : c < (updN (vis x z w i).1 (nthR x i) (z.getD i 0) c).length := by rw [updN_len, hvl, hd]; exact hcd
            have g5 := hw2.oneA (ro := ro) (k := c) (by rw [ints_len]; exact hul)
            rw [ints_get hul, updN_get (by rw [hvl, hd]; exact hcd), if_neg (Nat.lt_irrefl c)] at g5
            obtain ⟨hp3, hwr, hw3, hl3, ho3⟩ := hw2.wrG (ro := ro) (l := lw2) (p := hp.length) (k := c) (by rw [ints_len]; exact hul) (v := .i .i64 (Go.Vm.wr .i64 ((vis x z w i).1.getD c 0 + Go.Vm.wr .i64 (z.getD i 0 * (nthR x i).getD c 0)))) rfl rfl rfl
            refine ⟨_, ?_, hp3, min lw2 q, rfl, by omega, by omega, fun j hj => by rw [ho3 j hj]; exact ho2 j hj, ?_⟩
            · simp only [g57_b2, forceB_eq, ltI_eq, lt_yes hcd, cond_true, f1, f2, bindO_some, asI_i, g4, g5, k1, k2, forceI_eq, asP_p]
              have hwr' : writesM ro [] [(⟨false, q, 0 + c⟩, AVal.cells (.i .i64 (Go.Vm.wr .i64 ((vis x z w i).1.getD c 0 + Go.Vm.wr .i64 (z.getD i 0 * (x.getD i []).getD c 0)))))] ⟨hp2, lw2, hp.length⟩ = _ := hwr
              rw [hwr']
              simp only [bindO_some]
              rw [wr_next (by omega)]
            · rw [← updN_set (by rw [hvl, hd]; exact hcd), ← ints_set]
              exact hw3)
          (fun m hI => by
            obtain ⟨hp2, lw2, rfl, -⟩ := hI
            simp only [g57_b2, forceB_eq, ltI_eq, lt_no, cond_false]) d 0 ⟨hp1, lw, hp.length⟩ (by omega) ⟨hp1, lw, rfl, hlw, rfl, fun _ _ => rfl, by rw [updN_zero]; exact hw1⟩
        exact ⟨m', g1, g2⟩
      refine ⟨((((vis x z w i).2 + 1 : Nat) : Int), ((i + 1 : Nat) : Int), ⟨hp2, lw2, hp.length⟩), ?_, ⟨i + 1, hp2, lw2, by omega, by rw [e1], hlw2, by rw [hl2, hl1], fun j hj => by rw [ho2 j hj, ho1 j hj], by rw [e1, hd]; exact hw2⟩, ?_⟩
      · have hlr := len_row h4
        rw [hrl] at hlr
        have hw1' : Go.Vm.wr .i64 ((((vis x z w i).2 : Nat) : Int) + 1) = (((vis x z w i).2 : Nat) : Int) + 1 := wr_id' (by omega) (by omega)
        have e0 : ((0 : Nat) : Int) = 0 := rfl
        rw [e0] at hrun2
        simp only [g57_b0, forceB_eq, ltI_eq, lt_yes hi', cond_true, h1, ld1, bindO_some, k1, ld2, asI_i, meansX_call, hdot, forceI_eq, dF hc', cond_false, hw1', hlr, meansX_loop, hrun2]
        rw [wr_next (by omega)]
        rfl
      · simp only [Int.toNat_natCast]; omega
  obtain ⟨hp', lw, rfl, hlw, hl', ho', hw'⟩ := hI
  refine ⟨hp', lw, g57_ok (meansX_ok F1 ro) rfl ?_, hlw, hl', ho', hw'⟩
  unfold g57
  simp only [len_mat hap, bindO_some, asI_i, meansX_loop, hrun, tupA]
  have := fin_take (h' := hp') (lw := lw) (L := hp.length) (v := .i .i64 (((vis x z w x.length).2 : Nat) : Int)) rfl
  rw [this, ← hl', List.take_length]
end
end Go.Proofs.Ytnalgdobglfndaa.T

/- Perceptron whole; the law that compares both. -/
open Go.Vm
set_option linter.unusedVariables false
namespace Go.Proofs.Ytnalgdobglfndaa.T
open Go

section
variable {ro : List ABlk} {h hp : Heap} {a b v : AVal} {x : List (List Int)} {z : List Int}

/-- a call that answers a list in new memory, and more -/
def RetL (ro : List ABlk) (h : Heap) (f : Nat) (args : List AVal) (z : List Int) (rest : List AVal) : Prop :=
  ∃ v h', callX F1 ro f args h = some (.tup (v :: rest), h', h.length, h.length) ∧ Keep h h' ∧ IsRow ro h' v z ∧ z.length ≤ 1000
theorem holds_ints {q d : Nat} {w : List Int} (a : Holds hp q (ints w)) (hd : w.length = d) : IsRow ro hp (wSl q d) w := holds_row a rfl hd
theorem newInts (h : Heap) (d : Nat) : Holds (h ++ [some (newBlk 3 (.i .i64 0) d)]) h.length (ints (zeros d)) := by
  have e : rep [(AVal.i .i64 0)] d = ints (zeros d) := by
    have : ∀ d, rep [(AVal.i .i64 0)] d = ints (zeros d) := by
      intro d
      induction d with
      | zero => rfl
      | succ d ih => simp only [rep, ih, zeros, ints, List.replicate_succ, List.map_cons]; rfl
    exact this d
  show Holds (h ++ [some (blkOf 3 (rep [(AVal.i .i64 0)] d))]) _ _
  rw [e]
  exact Holds.new h 3 _
theorem pts_facts (hp : ptE x z = 0) : 0 < x.length ∧ x.length ≤ 50 ∧ z.length = x.length ∧ (∀ i, i < x.length → (nthR x i).length = (nthR x 0).length) ∧ 1 ≤ (nthR x 0).length ∧ (nthR x 0).length ≤ 6 := by
  unfold ptE at hp
  split at hp
  · cases hp
  · split at hp
    · rename_i h1 h2
      exact ⟨h2.1, by omega, h2.2.1, fun i hi => (h2.2.2 i hi).1, (h2.2.2 0 h2.1).2.1.1, (h2.2.2 0 h2.1).2.1.2.1⟩
    · cases hp
theorem zeros_len (d : Nat) : (zeros d).length = d := by simp [zeros]
theorem perF_len : ∀ (k : Nat) (w w' : List Int) (m m' : Nat), perF x z k w m = some (w', m') → w'.length = w.length
  | 0, _, _, _, _, h => by cases h
  | k + 1, w, w', m, m', h => by
    unfold perF at h
    split at h
    · cases h; exact vis_len _ _ _ _
    · rw [perF_len k _ _ _ _ h]; exact vis_len _ _ _ _

/-- the rounds of a search that ends with a list in block q -/
theorem rounds_ok {R : Nat} {q d n : Nat} {B : Int × Int × Mm → Option ((Int × Int × Mm) ⊕ (Mm ⊕ (AVal × Int × Int × Mm)))} (hn : n = x.length) (hx : n ≤ 50) (hR : R ≤ 1000)
    (hin : ∀ (i m : Nat) (w : List Int) (hp : Heap), i < R → m ≤ 50 * i → w.length = d → Keep h hp → Holds hp q (ints w) → ∃ hp', Keep h hp' ∧ Holds hp' q (ints (vis x z w n).1) ∧
      B ((m : Int), (i : Int), ⟨hp, h.length, h.length⟩) = some (if (vis x z w n).2 = 0 then .inr (.inr (wSl q d, (m : Int), 0, ⟨hp', h.length, h.length⟩)) else .inl (((m + (vis x z w n).2 : Nat) : Int), ((i + 1 : Nat) : Int), ⟨hp', h.length, h.length⟩)))
    (hout : ∀ (m : Nat) (hp : Heap), B ((m : Int), (R : Int), ⟨hp, h.length, h.length⟩) = some (.inr (.inl ⟨hp, h.length, h.length⟩))) :
    ∀ (k i m : Nat) (w : List Int) (hp : Heap), i + k = R → m ≤ 50 * i → w.length = d → Keep h hp → Holds hp q (ints w) → ∃ hp', Keep h hp' ∧
      loopX B ((m : Int), (i : Int), ⟨hp, h.length, h.length⟩) = some (match perF x z k w m with
        | some (w', m') => .inr (wSl q d, (m' : Int), 0, ⟨hp', h.length, h.length⟩)
        | none => .inl ⟨hp', h.length, h.length⟩) ∧ ∀ w' m', perF x z k w m = some (w', m') → Holds hp' q (ints w')
  | 0, i, m, w, hp, hi, hm, hw, kp, hh => by
    obtain rfl : i = R := by omega
    exact ⟨hp, kp, loopX_out (hout m hp), fun w' m' he => by cases he⟩
  | k + 1, i, m, w, hp, hi, hm, hw, kp, hh => by
    subst hn
    obtain ⟨hp1, k1, h1, hb⟩ := hin i m w hp (by omega) hm hw kp hh
    unfold perF
    by_cases hz : (vis x z w x.length).2 = 0
    · rw [if_pos hz] at hb ⊢
      exact ⟨hp1, k1, loopX_out hb, fun w' m' he => by cases he; exact h1⟩
    · rw [if_neg hz] at hb ⊢
      have hle := vis_le x z w x.length
      obtain ⟨hp2, k2, h2, h3⟩ := rounds_ok rfl hx hR hin hout k (i + 1) (m + (vis x z w x.length).2) (vis x z w x.length).1 hp1 (by omega) (by omega) (by rw [vis_len]; exact hw) k1 h1
      exact ⟨hp2, k2, loopX_on hb h2, h3⟩

theorem nil_bel (l : List Int) (L : Nat) : (AVal.tup (.nsl :: l.map (AVal.i .i64))).bel L = true := by
  have : ∀ l : List Int, bels L (l.map (AVal.i .i64)) = true := by
    intro l
    induction l with
    | nil => rfl
    | cons a l ih => simp [bels, AVal.bel, ih]
  simp [AVal.bel, bels, this]

/-- the whole, from the round on -/
theorem per_fin {r : Int} {R d : Nat} (hr : r = (R : Int)) (hpe : ptE x z = 0) (hr1 : ¬ (r < 1 ∨ 1000 < r)) (hd : (nthR x 0).length = d)
    {o : Mm ⊕ (AVal × Int × Int × Mm)} {hp' : Heap} (kp : Keep (h ++ [some (newBlk 3 (.i .i64 0) d)]) hp' ∨ Keep h hp') (ho : o = match perF x z R (zeros d) 0 with
        | some (w', m') => .inr (wSl h.length d, (m' : Int), 0, ⟨hp', h.length, h.length⟩)
        | none => .inl ⟨hp', h.length, h.length⟩) (hw : ∀ w' m', perF x z R (zeros d) 0 = some (w', m') → Holds hp' h.length (ints w')) (hd6 : d ≤ 6) :
    ∃ v h', (match o with
      | (.inl m_5) => finM h.length (tupA [AVal.nsl, (.i .i64 0), (.i .i64 10)]) m_5
      | (.inr (v6, x7, x8, m_6)) => finM h.length (tupA [v6, (.i .i64 x7), (.i .i64 x8)]) m_6) = some (.tup (v :: [.i .i64 (perR x z r).2.1, .i .i64 (perR x z r).2.2]), h', h.length, h.length) ∧ Keep h h' ∧ IsRow ro h' v (perR x z r).1 ∧ (perR x z r).1.length ≤ 1000 := by
  have kp : Keep h hp' := by
    rcases kp with kp | kp
    · exact (Keep.app _).trans kp
    · exact kp
  have e : perR x z r = match perF x z R (zeros d) 0 with
      | some (w, m) => (w, (m : Int), 0)
      | none => ([], 0, 10) := by
    unfold perR
    rw [if_neg (by simpa using hpe), if_neg hr1, hd, hr]; rfl
  cases hf : perF x z R (zeros d) 0 with
  | none =>
    rw [hf] at ho e
    subst ho
    rw [e]
    exact ⟨.nsl, h, fin_keep kp (nil_bel [0, 10] _), Keep.refl h, .inl ⟨rfl, rfl⟩, by simp⟩
  | some wm =>
    obtain ⟨w', m'⟩ := wm
    rw [hf] at ho e
    subst ho
    rw [e]
    have hl := perF_len _ _ _ _ _ hf
    rw [zeros_len] at hl
    exact ⟨wSl h.length d, hp', fin_out (sl_nb (Nat.le_refl _)), kp, holds_ints (hw w' m' hf) hl, by simp only [hl]; omega⟩

theorem Perceptron_ok {r : Int} (ha : IsMat ro h a x) (hl : LenOk x) (hb : IsRow ro h b z) : RetL ro h 27 [a, b, .i .i64 r] (perR x z r).1 [.i .i64 (perR x z r).2.1, .i .i64 (perR x z r).2.2] := by
  unfold RetL
  suffices hs : ∃ v h', g27 (meansX F1 ro) ro a b r ⟨h, h.length, h.length⟩ = some (.tup (v :: [.i .i64 (perR x z r).2.1, .i .i64 (perR x z r).2.2]), h', h.length, h.length) ∧ Keep h h' ∧ IsRow ro h' v (perR x z r).1 ∧ (perR x z r).1.length ≤ 1000 by
    obtain ⟨v, h', h1, h2⟩ := hs
    exact ⟨v, h', g27_ok (meansX_ok F1 ro) rfl h1, h2⟩
  unfold g27
  simp only [meansX_call, cp0 (checkPoints_ok ha hl hb), bindP_some, asI_i, forceB_eq, eqI_eq, ltI_eq]
  by_cases hpe : ptE x z = 0
  case neg =>
    have e : (!(ptE x z == 0)) = true := by simpa using hpe
    have e2 : perR x z r = ([], 0, ptE x z) := by unfold perR; rw [if_pos hpe]
    rw [e2]
    simp only [e, cond_true, tupA]
    exact ⟨.nsl, h, fin_pure (nil_bel [0, ptE x z] _), Keep.refl h, .inl ⟨rfl, rfl⟩, by simp⟩
  have e : (!(ptE x z == 0)) = false := by rw [hpe]; rfl
  simp only [e, cond_false]
  by_cases hr : r < 1 ∨ 1000 < r
  · have e2 : perR x z r = ([], 0, 4) := by unfold perR; rw [if_neg (by simpa using hpe), if_pos hr]
    rw [e2]
    refine ⟨.nsl, h, ?_, Keep.refl h, .inl ⟨rfl, rfl⟩, by simp⟩
    rcases hr with hr | hr
    · simp only [dT hr, cond_true, bindO_some, tupA]; exact fin_pure (nil_bel [0, 4] _)
    · by_cases h1 : r < 1
      · simp only [dT h1, cond_true, bindO_some, tupA]; exact fin_pure (nil_bel [0, 4] _)
      · simp only [dF h1, cond_false, dT hr, bindO_some, cond_true, tupA]; exact fin_pure (nil_bel [0, 4] _)
  obtain ⟨f1, f2, f3, f4, f5, f6⟩ := pts_facts hpe
  obtain ⟨R, rfl⟩ : ∃ R : Nat, r = (R : Int) := ⟨r.toNat, by omega⟩
  obtain ⟨p0, u0, g1, g2, g3, g4⟩ := at_mat (m := ⟨h, h.length, h.length⟩) rfl ha f1
  have e0 : ((0 : Nat) : Int) = 0 := rfl
  rw [e0] at g1
  generalize hd : (nthR x 0).length = d at *
  have hd' : (x.getD 0 []).length = d := hd
  have hlen := len_row g4
  rw [hd'] at hlen
  have kp0 : Keep h (h ++ [some (newBlk 3 (.i .i64 0) d)]) := Keep.app _
  obtain ⟨hp', k', hloop, hw'⟩ := rounds_ok (h := h) (x := x) (z := z) (R := R) (q := h.length) (d := d) (n := x.length) (B := fun s : Int × Int × Mm => g27_b1 (meansX F1 ro) ro a b (wSl h.length d) (R : Int) s.1 s.2.1 s.2.2) rfl f2 (by omega)
    (fun i m w hp hi hm hw kp hh => by
      obtain ⟨hp', lw, c1, c2, c3, c4, c5⟩ := visit_ok (w := w) (q := h.length) (d := d) ha hb f3 f2 f4 f6 hh hw kp (Nat.le_refl _)
      have k' : Keep h hp' := keep_o kp (Nat.le_refl _) c3 c4
      refine ⟨hp', k', c5, ?_⟩
      have hc : callM (callX F1 ro) ⟨hp, h.length, h.length⟩ 57 [a, b, wSl h.length d] = some (.i .i64 (((vis x z w x.length).2 : Nat) : Int), ⟨hp', h.length, h.length⟩) := by
        rw [callM_eq (m := ⟨hp, h.length, h.length⟩) c1]
        simp [Nat.min_eq_left c2, Nat.min_eq_left kp.1]
      have hvl := vis_le x z w x.length
      by_cases hz : (vis x z w x.length).2 = 0
      · rw [if_pos hz]
        rw [hz] at hc
        simp only [g27_b1, forceB_eq, ltI_eq, lt_yes hi, cond_true, meansX_call, hc, bindP_some, asI_i, eqI_eq, e0, beq_self_eq_true]
      · rw [if_neg hz]
        have e1 : ((((vis x z w x.length).2 : Nat) : Int) == 0) = false := by rw [beq_eq_false_iff_ne]; omega
        simp only [g27_b1, forceB_eq, ltI_eq, lt_yes hi, cond_true, meansX_call, hc, bindP_some, asI_i, eqI_eq, e1, cond_false, forceI_eq]
        rw [wr_next (by omega), wr_add (by omega)])
    (fun m hp => by simp only [g27_b1, forceB_eq, ltI_eq, lt_no, cond_false]) R 0 0 (zeros d) (h ++ [some (newBlk 3 (.i .i64 0) d)]) (by omega) (by omega) (zeros_len d) kp0 (newInts h d)
  simp only [dF (show ¬ (R : Int) < 1 by omega), cond_false, dF (show ¬ 1000 < (R : Int) by omega), bindO_some, g1, g2, hlen, asI_i]
  rw [mk_ok (n := d) (v := .i .i64 0) (by omega) (by omega)]
  rw [e0] at hloop
  simp only [bindP_some, meansX_loop, hloop, bindO_some]
  exact per_fin (o := _) rfl hpe hr hd (.inr k') rfl hw' f6

theorem refPerceptron_ok {r : Int} (ha : IsMat ro h a x) (hl : LenOk x) (hb : IsRow ro h b z) : RetL ro h 28 [a, b, .i .i64 r] (perR x z r).1 [.i .i64 (perR x z r).2.1, .i .i64 (perR x z r).2.2] := by
  unfold RetL
  suffices hs : ∃ v h', g28 (meansX F1 ro) ro a b r ⟨h, h.length, h.length⟩ = some (.tup (v :: [.i .i64 (perR x z r).2.1, .i .i64 (perR x z r).2.2]), h', h.length, h.length) ∧ Keep h h' ∧ IsRow ro h' v (perR x z r).1 ∧ (perR x z r).1.length ≤ 1000 by
    obtain ⟨v, h', h1, h2⟩ := hs
    exact ⟨v, h', g28_ok (meansX_ok F1 ro) rfl h1, h2⟩
  unfold g28
  simp only [meansX_call, cp0 (Points_ok ha hl hb), bindP_some, asI_i, forceB_eq, eqI_eq, ltI_eq]
  by_cases hpe : ptE x z = 0
  case neg =>
    have e : (!(ptE x z == 0)) = true := by simpa using hpe
    have e2 : perR x z r = ([], 0, ptE x z) := by unfold perR; rw [if_pos hpe]
    rw [e2]
    simp only [e, cond_true, tupA]
    exact ⟨.nsl, h, fin_pure (nil_bel [0, ptE x z] _), Keep.refl h, .inl ⟨rfl, rfl⟩, by simp⟩
  have e : (!(ptE x z == 0)) = false := by rw [hpe]; rfl
  simp only [e, cond_false]
  by_cases hr : r < 1 ∨ 1000 < r
  · have e2 : perR x z r = ([], 0, 4) := by unfold perR; rw [if_neg (by simpa using hpe), if_pos hr]
    rw [e2]
    refine ⟨.nsl, h, ?_, Keep.refl h, .inl ⟨rfl, rfl⟩, by simp⟩
    rcases hr with hr | hr
    · simp only [dT hr, cond_true, bindO_some, tupA]; exact fin_pure (nil_bel [0, 4] _)
    · by_cases h1 : r < 1
      · simp only [dT h1, cond_true, bindO_some, tupA]; exact fin_pure (nil_bel [0, 4] _)
      · simp only [dF h1, cond_false, dT hr, bindO_some, cond_true, tupA]; exact fin_pure (nil_bel [0, 4] _)
  obtain ⟨f1, f2, f3, f4, f5, f6⟩ := pts_facts hpe
  obtain ⟨R, rfl⟩ : ∃ R : Nat, r = (R : Int) := ⟨r.toNat, by omega⟩
  obtain ⟨p0, u0, g1, g2, g3, g4⟩ := at_mat (m := ⟨h, h.length, h.length⟩) rfl ha f1
  have e0 : ((0 : Nat) : Int) = 0 := rfl
  rw [e0] at g1
  generalize hd : (nthR x 0).length = d at *
  have hd' : (x.getD 0 []).length = d := hd
  have hlen := len_row g4
  rw [hd'] at hlen
  have kp0 : Keep h (h ++ [some (newBlk 3 (.i .i64 0) d)]) := Keep.app _
  have hwl : evP .e (.len false (.c (wSl h.length d))) = some (.i .i64 d) := by simp [evP, ev_len, opd, mkI_eq]
  obtain ⟨hp', k', hloop, hw'⟩ := rounds_ok (h := h) (x := x) (z := z) (R := R) (q := h.length) (d := d) (n := x.length) (B := fun s : Int × Int × Mm => g28_b1 (meansX F1 ro) ro a b (R : Int) (wSl h.length d) s.1 s.2.1 s.2.2) rfl f2 (by omega)
    (fun i m w hp hi hm hw kp hh => by
      obtain ⟨o, hrun, hp', rfl, k', c5⟩ : ∃ o, loopX (fun s : Int × Int × Mm => g28_b2 (meansX F1 ro) ro a b (R : Int) (wSl h.length d) (i : Int) (m : Int) s.1 s.2.1 s.2.2) ((m : Int), 0, (⟨hp, h.length, h.length⟩ : Mm)) = some o ∧
          ∃ hp', o = (((m + (vis x z w x.length).2 : Nat) : Int), ⟨hp', h.length, h.length⟩) ∧ Keep h hp' ∧ Holds hp' h.length (ints (vis x z w x.length).1) := by
        refine loopX_rule (b := fun s : Int × Int × Mm => g28_b2 (meansX F1 ro) ro a b (R : Int) (wSl h.length d) (i : Int) (m : Int) s.1 s.2.1 s.2.2)
          (fun s => ∃ (j : Nat) (hp' : Heap), j ≤ x.length ∧ s = (((m + (vis x z w j).2 : Nat) : Int), (j : Int), ⟨hp', h.length, h.length⟩) ∧ Keep h hp' ∧ Holds hp' h.length (ints (vis x z w j).1))
          (fun o => ∃ hp', o = (((m + (vis x z w x.length).2 : Nat) : Int), ⟨hp', h.length, h.length⟩) ∧ Keep h hp' ∧ Holds hp' h.length (ints (vis x z w x.length).1))
          (fun s => x.length - s.2.1.toNat) ?_ _ ⟨0, hp, by omega, rfl, kp, hh⟩
        rintro s ⟨j, hp1, hj, rfl, kp1, hw1⟩
        by_cases hjj : j = x.length
        · subst hjj
          right
          refine ⟨_, ?_, hp1, rfl, kp1, hw1⟩
          simp only [g28_b2, len_mat ha, bindO_some, asI_i, forceB_eq, ltI_eq, lt_no, cond_false]
        left
        have hj' : j < x.length := by omega
        obtain ⟨p, u, h1, hld, h4⟩ := at_matK ha hj'
        obtain ⟨p2, k1, kld⟩ := at_rowK hb (show j < z.length by omega)
        have hvl := vis_len x z w j
        have hvle := vis_le x z w j
        have hrl : (x.getD j []).length = d := f4 j hj'
        have ld1 := (hld (l := h.length) (q := h.length) kp1).2
        have ld2 := (kld (l := h.length) (q := h.length) kp1)
        have hdot := loop_run (b := fun s : Int × Int => g28_b4 (meansX F1 ro) ro a b (R : Int) (wSl h.length d) ((m + (vis x z w j).2 : Nat) : Int) (i : Int) (m : Int) (j : Int) ⟨hp1, h.length, h.length⟩ s.1 s.2) (fun c => (dotN (nthR x j) (vis x z w j).1 c, (c : Int))) d (r0 := dotN (nthR x j) (vis x z w j).1 d)
          (by simp only [g28_b4, hwl, bindO_some, asI_i, forceB_eq, ltI_eq, lt_no, cond_false])
          (fun c hc => by
            obtain ⟨p3, f1', fld⟩ := at_rowK h4 (show c < (x.getD j []).length by rw [hrl]; exact hc)
            have f2' := (fld (l := h.length) (q := h.length) kp1).2
            have g4' := ixS_eq (q := ⟨false, h.length, 0⟩) (cap := .known d) hc
            have g5 := hw1.oneA (ro := ro) (k := c) (by rw [ints_len, hvl, hw]; exact hc)
            rw [ints_get (by rw [hvl, hw]; exact hc)] at g5
            simp only [g28_b4, hwl, bindO_some, asI_i, forceB_eq, ltI_eq, lt_yes hc, cond_true, h1, ld1, f1', f2', g4', g5, forceI_eq]
            rw [wr_next (by omega)]; rfl)
        have e1' : dotN (nthR x j) (vis x z w j).1 0 = 0 := rfl
        rw [e0, e1'] at hdot
        by_cases hc : hitP x z j (vis x z w j).1
        · have e1 : vis x z w (j + 1) = vis x z w j := by
            show (if hitP x z j (vis x z w j).1 then _ else _) = _
            rw [if_pos hc]
          have hc' : 0 < Go.Vm.wr .i64 (z.getD j 0 * dotN (nthR x j) (vis x z w j).1 d) := by
            have := hc
            unfold hitP at this
            rw [hvl, hw] at this
            exact this
          refine ⟨(((m + (vis x z w j).2 : Nat) : Int), ((j + 1 : Nat) : Int), ⟨hp1, h.length, h.length⟩), ?_, ⟨j + 1, hp1, by omega, by rw [e1], kp1, by rw [e1]; exact hw1⟩, ?_⟩
          · simp only [g28_b2, len_mat ha, bindO_some, asI_i, forceB_eq, ltI_eq, lt_yes hj', cond_true, meansX_loop, hdot, k1, ld2.1, forceI_eq, dT hc']
            rw [wr_next (by omega)]
          · simp only [Int.toNat_natCast]; omega
        · have e1 : vis x z w (j + 1) = (updN (vis x z w j).1 (nthR x j) (z.getD j 0) w.length, (vis x z w j).2 + 1) := by
            show (if hitP x z j (vis x z w j).1 then _ else _) = _
            rw [if_neg hc]
          have hc' : ¬ 0 < Go.Vm.wr .i64 (z.getD j 0 * dotN (nthR x j) (vis x z w j).1 d) := by
            have := hc
            unfold hitP at this
            rw [hvl, hw] at this
            exact this
          have hw1' : Go.Vm.wr .i64 (((m + (vis x z w j).2 : Nat) : Int) + 1) = ((m + (vis x z w j).2 + 1 : Nat) : Int) := wr_next (by omega)
          obtain ⟨m2, hrun2, hp2, rfl, kp2, hw2⟩ := loop_all (b := fun s : Int × Mm => g28_b5 (meansX F1 ro) ro a b (R : Int) (wSl h.length d) ((m + (vis x z w j).2 + 1 : Nat) : Int) (i : Int) (m : Int) (j : Int) s.1 s.2) d
            (fun c mm => ∃ hp2, mm = ⟨hp2, h.length, h.length⟩ ∧ Keep h hp2 ∧ Holds hp2 h.length (ints (updN (vis x z w j).1 (nthR x j) (z.getD j 0) c)))
            (fun c mm hcd hI => by
              obtain ⟨hp2, rfl, kp2, hw2⟩ := hI
              obtain ⟨p3, f1', fld⟩ := at_rowK h4 (show c < (x.getD j []).length by rw [hrl]; exact hcd)
              have f2' := (fld (l := h.length) (q := h.length) kp2).2
              have k2 := (kld (l := h.length) (q := h.length) kp2).2
              have l2 := (hld (l := h.length) (q := h.length) kp2).2
              have g4' := ixS_eq (q := ⟨false, h.length, 0⟩) (cap := .known d) hcd
              have hul : c < (updN (vis x z w j).1 (nthR x j) (z.getD j 0) c).length := by rw [updN_len, hvl, hw]; exact hcd
              have g5 := hw2.oneA (ro := ro) (k := c) (by rw [ints_len]; exact hul)
              rw [ints_get hul, updN_get (by rw [hvl, hw]; exact hcd), if_neg (Nat.lt_irrefl c)] at g5
              obtain ⟨hp3, hwr, hw3, hl3, ho3⟩ := hw2.wrG (ro := ro) (l := h.length) (p := h.length) (k := c) (by rw [ints_len]; exact hul) (v := .i .i64 (Go.Vm.wr .i64 ((vis x z w j).1.getD c 0 + Go.Vm.wr .i64 (z.getD j 0 * (nthR x j).getD c 0)))) rfl rfl rfl
              rw [Nat.min_self] at hwr
              refine ⟨_, ?_, hp3, rfl, keep_o kp2 (Nat.le_refl _) hl3 ho3, ?_⟩
              · have hwr' : writesM ro [] [(⟨false, h.length, 0 + c⟩, AVal.cells (.i .i64 (Go.Vm.wr .i64 ((vis x z w j).1.getD c 0 + Go.Vm.wr .i64 (z.getD j 0 * (x.getD j []).getD c 0)))))] ⟨hp2, h.length, h.length⟩ = _ := hwr
                simp only [g28_b5, hwl, bindO_some, asI_i, forceB_eq, ltI_eq, lt_yes hcd, cond_true, g4', g5, k1, k2, h1, l2, f1', f2', forceI_eq, asP_p, hwr']
                rw [wr_next (by omega)]
              · rw [← updN_set (by rw [hvl, hw]; exact hcd), ← ints_set]
                exact hw3)
            (fun mm hI => by
              obtain ⟨hp2, rfl, -⟩ := hI
              simp only [g28_b5, hwl, bindO_some, asI_i, forceB_eq, ltI_eq, lt_no, cond_false]) d 0 ⟨hp1, h.length, h.length⟩ (by omega) ⟨hp1, rfl, kp1, by rw [updN_zero]; exact hw1⟩
          rw [e0] at hrun2
          refine ⟨(((m + ((vis x z w j).2 + 1) : Nat) : Int), ((j + 1 : Nat) : Int), ⟨hp2, h.length, h.length⟩), ?_, ⟨j + 1, hp2, by omega, by rw [e1], kp2, by rw [e1, hw]; exact hw2⟩, ?_⟩
          · simp only [g28_b2, len_mat ha, bindO_some, asI_i, forceB_eq, ltI_eq, lt_yes hj', cond_true, meansX_loop, hdot, k1, ld2.1, forceI_eq, dF hc', cond_false, hw1', hrun2]
            rw [wr_next (by omega)]
            rfl
          · simp only [Int.toNat_natCast]; omega
      refine ⟨hp', k', c5, ?_⟩
      have hvl := vis_le x z w x.length
      by_cases hz : (vis x z w x.length).2 = 0
      · rw [if_pos hz]
        rw [hz, Nat.add_zero] at hrun
        simp only [g28_b1, forceB_eq, ltI_eq, lt_yes hi, cond_true, meansX_loop, hrun, bindO_some, eqI_eq, beq_self_eq_true]
      · rw [if_neg hz]
        have e1 : (((m + (vis x z w x.length).2 : Nat) : Int) == (m : Int)) = false := by rw [beq_eq_false_iff_ne]; omega
        simp only [g28_b1, forceB_eq, ltI_eq, lt_yes hi, cond_true, meansX_loop, hrun, bindO_some, eqI_eq, e1, cond_false, forceI_eq]
        rw [wr_next (by omega)])
    (fun m hp => by simp only [g28_b1, forceB_eq, ltI_eq, lt_no, cond_false]) R 0 0 (zeros d) (h ++ [some (newBlk 3 (.i .i64 0) d)]) (by omega) (by omega) (zeros_len d) kp0 (newInts h d)
  simp only [dF (show ¬ (R : Int) < 1 by omega), cond_false, dF (show ¬ 1000 < (R : Int) by omega), bindO_some, g1, g2, hlen, asI_i]
  rw [mk_ok (n := d) (v := .i .i64 0) (by omega) (by omega)]
  rw [e0] at hloop
  simp only [bindP_some, meansX_loop, hloop, bindO_some]
  exact per_fin (o := _) rfl hpe hr hd (.inr k') rfl hw' f6

theorem RetL.cm {f : Nat} {args : List AVal} {zz : List Int} {rest : List AVal} (r : RetL ro hp f args zz rest) : ∃ v h', (∀ {l p : Nat}, l ≤ hp.length → p ≤ hp.length → callM (callX F1 ro) ⟨hp, l, p⟩ f args = some (.tup (v :: rest), ⟨h', l, p⟩)) ∧ Keep hp h' ∧ IsRow ro h' v zz ∧ zz.length ≤ 1000 := by
  obtain ⟨v, h', h1, h2, h3, h4⟩ := r
  refine ⟨v, h', fun {l p} hl hp => ?_, h2, h3, h4⟩
  rw [callM_eq (m := ⟨_, l, p⟩) h1]
  simp [Nat.min_eq_left hl, Nat.min_eq_left hp]

theorem law5 {r : Int} (ha : IsMat ro [] a x) (hf : Fits x) (hb : IsRow ro [] b z) : ∃ h' lw lp, callX F1 ro 5 [a, b, .i .i64 r] [] = some (.b true, h', lw, lp) := by
  have hfew := cp0 (few_ok ha hb hf.1)
  have hal := cp0 (F := F1) (alive_pure (ro := ro) (h := []))
  simp only [List.length_nil] at hfew hal
  have skip : (bindP (callM (callX F1 ro) ⟨[], 0, 0⟩ 16 []) fun v30 m_2 => asB v30 fun c30 => finM ([] : Heap).length (tupA [(.b c30)]) m_2) = some (.b true, [], 0, 0) := by
    simp only [hal, bindP_some, asB_b, tupA]
    exact fin_pure (h := []) rfl
  by_cases hw : few x z
  case neg =>
    refine ⟨[], 0, 0, g5_ok (meansX_ok F1 ro) rfl ?_⟩
    unfold g5
    simp only [List.length_nil, meansX_call, hfew, bindP_some, asB_b, forceB_eq, dF hw, Bool.not_false, cond_true, bindO_some]
    exact skip
  by_cases hx : 100 < x.length
  · refine ⟨[], 0, 0, g5_ok (meansX_ok F1 ro) rfl ?_⟩
    unfold g5
    simp only [List.length_nil, meansX_call, hfew, bindP_some, asB_b, forceB_eq, dT hw, Bool.not_true, cond_true, cond_false, bindO_some, len_mat ha, asI_i, ltI_eq, dT (show (100 : Int) < (x.length : Int) by omega)]
    exact skip
  obtain ⟨v1, h1, c1, k1, r1, n1⟩ := (Perceptron_ok (r := r) ha hf.lens hb).cm
  obtain ⟨v2, h2, c2, k2, r2, n2⟩ := (refPerceptron_ok (r := r) (mat_by ha k1) hf.lens (row_by hb k1)).cm
  have hs := cp (F := F1) (l := 0) (p := 0) (same_ok (row_by r1 k2) r2 (by omega)) (Nat.zero_le _) (Nat.zero_le _)
  have hal2 := cp (F := F1) (l := 0) (p := 0) (alive_pure (ro := ro) (h := h2)) (Nat.zero_le _) (Nat.zero_le _)
  have c1' := c1 (l := 0) (p := 0) (Nat.zero_le _) (Nat.zero_le _)
  have c2' := c2 (l := 0) (p := 0) (Nat.zero_le _) (Nat.zero_le _)
  have go : (bindO (cond (decide ((100 : Int) < r)) (bindO (cond (!decide (1000 < r)) (some true) (some false)) fun c => some c) (some false)) fun c => some c) = some (decide (100 < r) && !decide (1000 < r)) := by
    by_cases g1 : (100 : Int) < r <;> by_cases g2 : (1000 : Int) < r <;> simp [g1, g2, bindO]
  by_cases hr : 100 < r ∧ ¬ 1000 < r
  · refine ⟨[], 0, 0, g5_ok (meansX_ok F1 ro) rfl ?_⟩
    unfold g5
    simp only [List.length_nil, meansX_call, hfew, bindP_some, asB_b, forceB_eq, dT hw, Bool.not_true, cond_true, cond_false, bindO_some, len_mat ha, asI_i, ltI_eq, dF (show ¬ (100 : Int) < (x.length : Int) by omega), dT hr.1, dF hr.2, Bool.not_false]
    exact skip
  · refine ⟨h2.take 0, 0, 0, g5_ok (meansX_ok F1 ro) rfl ?_⟩
    unfold g5
    have hcc : ∀ {β : Type} (f : Bool → Option β), (bindO (cond (decide ((100 : Int) < r)) (bindO (cond (decide (100 < r)) (some (!decide (1000 < r))) (some false)) fun c => some c) (some false)) f) = f false := by
      intro β f
      by_cases g1 : (100 : Int) < r
      · have g2 : 1000 < r := by omega
        simp [g1, g2, bindO]
      · simp [g1, bindO]
    have hcc' : ∀ {β : Type} (f : Bool → Option β), (bindO (bindO (cond (decide ((100 : Int) < r)) (some (!decide (1000 < r))) (some false)) fun c => some c) f) = f false := by
      intro β f
      by_cases g1 : (100 : Int) < r
      · have g2 : 1000 < r := by omega
        simp [g1, g2, bindO]
      · simp [g1, bindO]
    simp only [List.length_nil, meansX_call, hfew, bindP_some, asB_b, forceB_eq, dT hw, Bool.not_true, cond_true, cond_false, bindO_some, len_mat ha, asI_i, ltI_eq, dF (show ¬ (100 : Int) < (x.length : Int) by omega), hcc', c1', c2', ext0, ext1, ext2, hs, eqI_eq, beq_self_eq_true, decide_true, hal2, tupA]
    exact fin_take (L := 0) rfl
end
end Go.Proofs.Ytnalgdobglfndaa.T

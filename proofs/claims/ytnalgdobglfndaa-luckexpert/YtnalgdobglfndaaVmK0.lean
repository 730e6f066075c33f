/- Contracts of the functions: what each of them answers. -/
import Derived.Test.YtnalgdobglfndaaVmFO
import Derived.Test.YtnalgdobglfndaaVmGt
import Derived.Test.YtnalgdobglfndaaVmAE
import Derived.Test.YtnalgdobglfndaaVmAF
import Derived.Test.YtnalgdobglfndaaRows
import Derived.WalkKit
import Derived.ProofKit
import Derived.OpenShut
import Derived.Carry
import Derived.Deep.Matrix
import Derived.Deep.Slices
/- From the small machine to the statement: lists of numbers and lists of such lists, in memory that is only read. -/
open Go.Vm
set_option linter.unusedVariables false
namespace Go.Proofs.Ytnalgdobglfndaa.T
open Go Go.RowKit Go.Deep Go.WideShapes Go.ChangeShapes

/-- what every list of lists is -/
def Fits (rows : List (List Int)) : Prop := rows.length ≤ 9223372036854775807 ∧ ∀ z ∈ rows, z.length ≤ 9223372036854775807 ∧ ∀ n ∈ z, inI64 n
abbrev F1 : Tab := ⟨F, known0 16 (.b true)⟩
def IsRowK (k : IntKind) (ro : List ABlk) (h : Heap) (v : AVal) (z : List Int) : Prop :=
  (v = .nsl ∧ z = []) ∨ ∃ q cap blk, v = .sl q z.length cap ∧ rdB ro h q = some blk ∧ q.off + z.length ≤ blk.n ∧ ∀ j, j < z.length → blk.c.get (q.off + j) = .i k (z.getD j 0)

/-- what is read in the world of a list of lists: the value, the rows -/
structure OpenM (W : World) (v0 : Value) (rows : List (List Int)) : Prop where
  o : (v0 = .slice none 0 0 ∧ rows = []) ∨ ∃ (a : Addr) (cap : Nat) (A : Nat → Option Addr) (L C : Nat → Nat) (Z : Nat → List Int), v0 = .slice (some a) rows.length cap ∧
    rows.length ≤ cap ∧ rows = (List.range rows.length).map (fun r => (Z r).take (L r)) ∧
    ∀ r, r < cap → a.block < W.heap.size ∧ W.cell? (a.add r) = some (.slice (A r) (L r) (C r)) ∧ L r ≤ C r ∧ (Z r).length = C r ∧ (A r = none → C r = 0) ∧
      ∀ x, A r = some x → ∀ c, c < C r → x.block < W.heap.size ∧ W.cell? (x.add c) = some (.int .i64 ((Z r).getD c 0))
  fits : Fits rows


/-- what is read in the world of a list of numbers -/
structure OpenK (k : IntKind) (W : World) (v0 : Value) (z : List Int) : Prop where
  o : (v0 = .slice none 0 0 ∧ z = []) ∨ ∃ (a : Addr) (cap : Nat) (Z : List Int), v0 = .slice (some a) z.length cap ∧ z.length ≤ cap ∧ Z.length = cap ∧ z = Z.take z.length ∧ ∀ i, i < cap → a.block < W.heap.size ∧ W.cell? (a.add i) = some (.int k (Z.getD i 0))
  len_le : z.length ≤ 9223372036854775807
  z : ∀ n ∈ z, (Lit.int k n).wf = true

theorem cells23 : Try.prog.cellsOf 23 = 1 := by kernel_rfl
theorem cells3 : Try.prog.cellsOf 3 = 1 := by kernel_rfl
theorem laidOut : laidOutB Try.prog = true := by kernel_rfl
theorem own : ownKnob Try.prog.godebug = none := by kernel_rfl

section
variable {H : Type} {enc : TypeId × Value → H} {W : World} {v0 : Value} {d : DataW H} {p : List MemPlace}
theorem opened_ints (hs : ∃ a len cap, v0 = .slice a len cap) (h : DataW.Trod enc Try.prog W 0 (fun _ => true) true 23 v0 d p) : ∃ z, OpenK .i64 W v0 z := by
  obtain ⟨a0, len, cap, rfl⟩ := hs
  obtain ⟨fuel, hf⟩ := h
  have hml : maxLen = 9223372036854775807 := rfl
  rcases open_ints Try.underlying23 Try.underlying3 cells3 hf with ⟨hcs0, hx⟩ | ⟨a, len', cap', zs, hcs0, _, hl, hm, hz, hx, hcell, hw⟩
  · simp [Value.cells] at hcs0
    obtain ⟨rfl, rfl, rfl⟩ := hcs0
    exact ⟨[], .inl ⟨rfl, rfl⟩, by simp, by simp⟩
  · simp [Value.cells] at hcs0
    obtain ⟨rfl, rfl, rfl⟩ := hcs0
    simp only [if_true] at hz
    have hlen : (zs.take len).length = len := by simp; omega
    refine ⟨zs.take len, .inr ⟨a, cap, zs, by rw [hlen], by omega, by omega, by rw [hlen], fun i hi => ?_⟩, by omega, fun n hn => hw n (List.mem_of_mem_take hn)⟩
    have h1 := hcell i (by omega)
    exact ⟨World.block_lt_of_cell? _ _ h1 |> fun h => by simpa [addr_block] using h, h1⟩
end

/-- the reading of a list of lists -/
theorem opened_mat {H : Type} {enc : TypeId × Value → H} {W : World} {v0 : Value} {d : DataW H} {p : List MemPlace} (hs : ∃ a len cap, v0 = .slice a len cap) (h : DataW.Trod enc Try.prog W 0 (fun _ => true) true 22 v0 d p) : ∃ rows, OpenM W v0 rows := by
  obtain ⟨a0, len, cap, rfl⟩ := hs
  obtain ⟨fuel, hf⟩ := h
  rcases open_int_rows Try.underlying22 Try.underlying23 Try.underlying3 cells23 cells3 hf with ⟨hcs0, hx⟩ | ⟨a, len', cap', A, L, C, Z, hcs0, _, hl, hm, hx, hrows⟩
  · simp [Value.cells] at hcs0
    obtain ⟨rfl, rfl, rfl⟩ := hcs0
    exact ⟨[], .inl ⟨rfl, rfl⟩, by simp [Fits]⟩
  · simp [Value.cells] at hcs0
    obtain ⟨rfl, rfl, rfl⟩ := hcs0
    have hml : maxLen = 9223372036854775807 := rfl
    refine ⟨(List.range len).map fun r => (Z r).take (L r), .inr ⟨a, cap, A, L, C, Z, by simp, by simpa using hl, by simp, fun r hr => ?_⟩, ?_⟩
    · obtain ⟨h1, h2, h3, h4, h5, h6, h7⟩ := hrows r hr
      refine ⟨World.block_lt_of_cell? _ _ h1 |> fun h => by simpa [addr_block] using h, h1, h2, h4, h6, fun x hx c hc => ?_⟩
      obtain ⟨-, h8⟩ := h7 x hx
      have := World.block_lt_of_cell? _ _ (h8 c hc)
      exact ⟨by simpa [addr_block] using this, h8 c hc⟩
    · refine ⟨by simp; omega, fun z hz => ?_⟩
      obtain ⟨r, hr, rfl⟩ := List.mem_map.1 hz
      have hr := List.mem_range.1 hr
      obtain ⟨h1, h2, h3, h4, h5, h6, h7⟩ := hrows r (by omega)
      refine ⟨by simp; omega, fun n hn => wf_i64 (h5 n (List.mem_of_mem_take hn))⟩

/-- of an argument: read-only memory for it -/
theorem ro_mat {W : World} {v0 : Value} {rows : List (List Int)} (h : OpenM W v0 rows) (pre : List ABlk) (prl : Rl) (hp : pre.length = prl.length) : ∃ (ro : List ABlk) (rl : Rl) (v : AVal), ro.length = rl.length ∧ (∀ x y h, IsMat (pre ++ ro ++ x) h v rows ∧ VR (prl ++ rl ++ y) [] v v0) ∧
    ∀ (i : Nat) (b : ABlk), ro[i]? = some b → ∃ x, rl[i]? = some x ∧ ∀ j, j < b.n → x.block < W.heap.size ∧ ∃ v', W.cell? (x.add j) = some v' ∧ ∀ y, VR (prl ++ rl ++ y) [] (b.c.get j) v' := by
  rcases h.o with ⟨rfl, rfl⟩ | ⟨a, cap, A, L, C, Z, rfl, hcap, hrows, hcell⟩
  · exact ⟨[], [], .nsl, rfl, fun x y h => ⟨.inl ⟨rfl, rfl⟩, .nsl⟩, fun i b hb => by simp at hb⟩
  · have hro : ∀ (x : List ABlk) (r : Nat), r < cap → (pre ++ roMat pre.length cap A L C Z ++ x)[pre.length + 1 + r]? = some ⟨0, cond (A r).isSome (C r) 0, Tr.mk ((Z r).map (AVal.i .i64)), none⟩ := fun x r hr => by
      rw [List.append_assoc, List.getElem?_append_right (by omega), show pre.length + 1 + r - pre.length = r + 1 by omega]
      simp [roMat, hr, List.getElem?_append_left]
    have hro0 : ∀ (x : List ABlk), (pre ++ roMat pre.length cap A L C Z ++ x)[pre.length]? = some ⟨0, cap, Tr.mk ((List.range cap).map (roCell pre.length A L C)), none⟩ := fun x => by
      rw [List.append_assoc, List.getElem?_append_right (by omega)]
      simp [roMat]
    have hrl : ∀ (y : Rl) (r : Nat), r < cap → (prl ++ rlMat a cap A ++ y)[pre.length + 1 + r]? = some ((A r).getD a) := fun y r hr => by
      rw [List.append_assoc, List.getElem?_append_right (by omega), show pre.length + 1 + r - prl.length = r + 1 by omega]
      simp [rlMat, hr, List.getElem?_append_left]
    have hrl0 : ∀ (y : Rl), (prl ++ rlMat a cap A ++ y)[pre.length]? = some a := fun y => by
      rw [List.append_assoc, List.getElem?_append_right (by omega), show pre.length - prl.length = 0 by omega]
      simp [rlMat]
    have hvr : ∀ (y : Rl) (r : Nat), r < cap → VR (prl ++ rlMat a cap A ++ y) [] (roCell pre.length A L C r) (.slice (A r) (L r) (C r)) := fun y r hr => by
      obtain ⟨-, -, h1, h2, h3, -⟩ := hcell r hr
      unfold roCell
      cases hA : A r with
      | none =>
        have := h3 hA
        have h0 : L r = 0 := by omega
        rw [this, h0]
        exact .nsl
      | some x =>
        refine .slk _ _ _ _ ?_
        have := hrl y r hr
        rw [hA] at this
        show (((prl ++ rlMat a cap A ++ y)[pre.length + 1 + r]?).map fun x => x.add 0) = some x
        rw [this]; simp [Addr.add]
    refine ⟨roMat pre.length cap A L C Z, rlMat a cap A, .sl ⟨true, pre.length, 0⟩ rows.length (.known cap), by simp [roMat, rlMat], fun x y h => ⟨.inr ⟨_, _, ⟨0, cap, Tr.mk ((List.range cap).map (roCell pre.length A L C)), none⟩, rfl, ?_, ?_, ?_⟩, ?_⟩, ?_⟩
    · simp only [rdB, cond_true, lget_eq]; exact hro0 x
    · simpa using hcap
    · intro r hr
      have hr' : r < cap := by omega
      obtain ⟨-, -, h1, h2, h3, h4⟩ := hcell r hr'
      have hg : (Tr.mk ((List.range cap).map (roCell pre.length A L C))).get (0 + r) = roCell pre.length A L C r := by
        rw [get_mk]; simp [List.getD, hr']
      have hrow : rows.getD r [] = (Z r).take (L r) := by
        rw [List.getD_eq_getElem?_getD]
        conv => lhs; rw [hrows]
        simp [hr]
      simp only [hg, hrow]
      unfold roCell
      cases hA : A r with
      | none =>
        have := h3 hA
        have h0 : L r = 0 := by omega
        exact .inl ⟨rfl, by simp [h0]⟩
      | some y =>
        refine .inr ⟨⟨true, pre.length + 1 + r, 0⟩, .known (C r), ⟨0, cond (A r).isSome (C r) 0, Tr.mk ((Z r).map (AVal.i .i64)), none⟩, ?_, ?_, ?_, ?_⟩
        · simp; omega
        · simp only [rdB, cond_true, lget_eq]; exact hro x r hr'
        · simp [hA]; omega
        · intro j hj
          simp only [List.length_take] at hj
          rw [get_mk]
          have hj2 : j < (Z r).length := by omega
          have hj3 : j < L r := by omega
          simp [List.getD, hj2, hj3]
    · refine .slk _ _ _ _ ?_
      show (((prl ++ rlMat a cap A ++ y)[pre.length]?).map fun x => x.add 0) = some a
      rw [hrl0 y]; simp [Addr.add]
    · intro i b hb
      cases i with
      | zero =>
        simp [roMat] at hb
        subst hb
        refine ⟨a, by simp [rlMat], fun j hj => ?_⟩
        obtain ⟨h0, h1, -⟩ := hcell j hj
        refine ⟨h0, _, h1, fun y => ?_⟩
        have hg : (Tr.mk ((List.range cap).map (roCell pre.length A L C))).get j = roCell pre.length A L C j := by
          rw [get_mk]; simp [List.getD, show j < cap from hj]
        simp only [hg]
        exact hvr y j hj
      | succ r =>
        simp only [roMat, List.getElem?_cons_succ, List.getElem?_map, Option.map_eq_some_iff] at hb
        obtain ⟨r', hr', rfl⟩ := hb
        obtain ⟨hlt, he⟩ := List.getElem?_eq_some_iff.1 hr'
        simp only [List.length_range] at hlt
        simp only [List.getElem_range] at he
        subst he
        refine ⟨(A r).getD a, by simp [rlMat, hlt], fun j hj => ?_⟩
        obtain ⟨-, -, h1, h2, h3, h4⟩ := hcell r hlt
        cases hA : A r with
        | none => simp [hA] at hj
        | some x =>
          simp only [hA, Option.isSome_some, cond_true] at hj
          obtain ⟨h5, h6⟩ := h4 x hA j hj
          refine ⟨h5, _, h6, fun y => ?_⟩
          have hg : (Tr.mk ((Z r).map (AVal.i .i64))).get j = .i .i64 ((Z r).getD j 0) := by
            rw [get_mk]; simp [List.getD, show j < (Z r).length by omega]
          simp only [hg]
          exact .i _ _


/-- a slice's room is at least its length -/
def CapO (v : AVal) : Prop := ∀ q n c, v = .sl q n (.known c) → n ≤ c
theorem ro_flat {k : IntKind} {W : World} {v0 : Value} {z : List Int} (h : OpenK k W v0 z) (pre : List ABlk) (prl : Rl) (hp : pre.length = prl.length) : ∃ (ro : List ABlk) (rl : Rl) (v : AVal), ro.length = rl.length ∧ CapO v ∧
    (∀ x y h, IsRowK k (pre ++ ro ++ x) h v z ∧ VR (prl ++ rl ++ y) [] v v0) ∧
    ∀ (i : Nat) (b : ABlk), ro[i]? = some b → ∃ x, rl[i]? = some x ∧ ∀ j, j < b.n → x.block < W.heap.size ∧ ∃ v', W.cell? (x.add j) = some v' ∧ ∀ y, VR y [] (b.c.get j) v' := by
  rcases h.o with ⟨rfl, rfl⟩ | ⟨a, cap, Z, rfl, hcap, hlen, hz, hcell⟩
  · exact ⟨[], [], .nsl, rfl, (fun q n c e => by cases e), fun x y h => ⟨.inl ⟨rfl, rfl⟩, .nsl⟩, fun i b hb => by simp at hb⟩
  · have hget : ∀ j, j < cap → (Tr.mk (Z.map (AVal.i k))).get j = .i k (Z.getD j 0) := fun j hj => by
      rw [get_mk]; simp [List.getD, show j < Z.length by omega]
    refine ⟨[⟨0, cap, Tr.mk (Z.map (AVal.i k)), none⟩], [a], .sl ⟨true, pre.length, 0⟩ z.length (.known cap), rfl, (fun q n c e => by cases e; exact hcap), fun x y h => ⟨.inr ⟨⟨true, pre.length, 0⟩, .known cap, ⟨0, cap, Tr.mk (Z.map (AVal.i k)), none⟩, rfl, ?_, ?_, fun j hj => ?_⟩, ?_⟩, fun i b hb => ?_⟩
    · simp only [rdB, cond_true, lget_eq, List.append_assoc]
      rw [List.getElem?_append_right (Nat.le_refl _)]; simp
    · simpa using hcap
    · have e := hget j (by omega)
      have e2 : Z.getD j 0 = z.getD j 0 := by
        rw [hz, List.getD_eq_getElem?_getD, List.getD_eq_getElem?_getD, List.getElem?_take_of_lt hj]
      rw [e2] at e
      simpa using e
    · refine .slk _ _ _ _ ?_
      show (((prl ++ [a] ++ y)[pre.length]?).map fun x => x.add 0) = some a
      rw [List.append_assoc, List.getElem?_append_right (by omega), hp]; simp [Addr.add]
    · cases i with
      | zero =>
        simp at hb
        subst hb
        refine ⟨a, rfl, fun j hj => ?_⟩
        obtain ⟨h1, h2⟩ := hcell j hj
        refine ⟨h1, _, h2, fun y => ?_⟩
        have := hget j hj
        simp only [this]
        exact .i _ _
      | succ i => simp at hb

theorem env_ok {W : World} {ro : List ABlk} {rl : Rl} (h : ∀ (i : Nat) (b : ABlk), ro[i]? = some b → ∃ x, rl[i]? = some x ∧ ∀ j, j < b.n → x.block < W.heap.size ∧ ∃ v', W.cell? (x.add j) = some v' ∧ VR rl [] (b.c.get j) v') :
    (Env.mk Try.prog W.heap.size W ro rl).Ok := ⟨fun i b hb => h i b hb, Nat.le_refl _⟩
/-- what lies in the read-only blocks; more may come behind -/
def RoP (W : World) (ro : List ABlk) (rl : Rl) : Prop := ∀ (i : Nat) (b : ABlk), ro[i]? = some b → ∃ x, rl[i]? = some x ∧ ∀ j, j < b.n → x.block < W.heap.size ∧ ∃ v', W.cell? (x.add j) = some v' ∧ ∀ y, VR (rl ++ y) [] (b.c.get j) v'
theorem RoP.nil (W : World) : RoP W [] [] := fun i b hb => by simp at hb
theorem RoP.env {W : World} {ro : List ABlk} {rl : Rl} (h : RoP W ro rl) : (Env.mk Try.prog W.heap.size W ro rl).Ok := env_ok fun i b hb => by
  obtain ⟨y, h1, h2⟩ := h i b hb
  refine ⟨y, h1, fun j hj => ?_⟩
  obtain ⟨h3, v', h4, h5⟩ := h2 j hj
  exact ⟨h3, v', h4, by have := h5 []; simpa using this⟩
theorem RoP.snoc {W : World} {ro ro' : List ABlk} {rl rl' : Rl} (hl : ro.length = rl.length) (h : RoP W ro rl)
    (h' : ∀ (i : Nat) (b : ABlk), ro'[i]? = some b → ∃ x, rl'[i]? = some x ∧ ∀ j, j < b.n → x.block < W.heap.size ∧ ∃ v', W.cell? (x.add j) = some v' ∧ ∀ y, VR y [] (b.c.get j) v') : RoP W (ro ++ ro') (rl ++ rl') := by
  intro i b hb
  rcases Nat.lt_or_ge i ro.length with hi | hi
  · rw [List.getElem?_append_left hi] at hb
    obtain ⟨x, h1, h2⟩ := h i b hb
    refine ⟨x, by rw [List.getElem?_append_left (by omega)]; exact h1, fun j hj => ?_⟩
    obtain ⟨h3, v', h4, h5⟩ := h2 j hj
    exact ⟨h3, v', h4, fun y => by rw [List.append_assoc]; exact h5 _⟩
  · rw [List.getElem?_append_right hi] at hb
    obtain ⟨x, h1, h2⟩ := h' _ b hb
    refine ⟨x, by rw [List.getElem?_append_right (by omega), ← hl]; exact h1, fun j hj => ?_⟩
    obtain ⟨h3, v', h4, h5⟩ := h2 j hj
    exact ⟨h3, v', h4, fun y => h5 _⟩

/-- the call of the model: true, and below nothing has turned -/
theorem call_of {W : World} {ro : List ABlk} {rl : Rl} (hE : (Env.mk Try.prog W.heap.size W ro rl).Ok) {K : Nat} {vs : List AVal} {args : Array Value}
    (hv : LR rl [] vs args) {h' : Heap} {lw lp : Nat} (hc : callX F1 ro K vs [] = some (.b true, h', lw, lp)) : Calls Try.prog K args W fun e W' => e = .returned (.bool true) ∧ Below W.heap.size W W' := by
  have hm : (Env.mk Try.prog W.heap.size W ro rl).P.follows .mixedOrders = true := Try.checked.mixed
  have hO : CallOk (Env.mk Try.prog W.heap.size W ro rl) (known0 16 (.b true)) := known0_of hE hm fok alive0 rfl
  obtain ⟨-, h2⟩ := callX_sound hE hm (F := F1) fok hO K vs [] _ _ _ _ hc
  refine Calls.mono (h2 [] W args ⟨Below.refl _ _, rfl, by simp, fun i b r K hl => by simp [Live] at hl, fun i j b b' r K K' hl => by simp [Live] at hl⟩ hv) fun e w' hq => ?_
  obtain ⟨v', rfl, m', hvr, T⟩ := hq
  exact ⟨by rw [hvr.inv_b], T.hr.below⟩
theorem alive_pure {ro : List ABlk} {h : Heap} : callX F1 ro 16 [] h = some (.b true, h, h.length, h.length) := callX_ov rfl
end Go.Proofs.Ytnalgdobglfndaa.T

/- Blocks that a function makes for itself; loops whose state is known. -/
open Go.Vm
set_option linter.unusedVariables false
namespace Go.Proofs.Ytnalgdobglfndaa.T
open Go

/-- a block of the heap that holds these values -/
def Holds (hp : Heap) (b : Nat) (vs : List AVal) : Prop := ∃ blk : ABlk, lget hp b = some (some blk) ∧ blk.n = vs.length ∧ ∀ j, j < vs.length → blk.c.get j = vs.getD j und
/-- what was there is still there -/
def Keep (h hp : Heap) : Prop := h.length ≤ hp.length ∧ ∀ i, i < h.length → hp[i]? = h[i]?

section
variable {ro : List ABlk} {h hp hp' : Heap} {b k e n l p : Nat} {vs : List AVal}
theorem Keep.refl (h : Heap) : Keep h h := ⟨Nat.le_refl _, fun _ _ => rfl⟩
theorem Keep.trans {h1 : Heap} (a : Keep h h1) (c : Keep h1 hp) : Keep h hp := ⟨Nat.le_trans a.1 c.1, fun i hi => by rw [c.2 i (by have := a.1; omega), a.2 i hi]⟩
theorem Keep.app (x : Heap) : Keep h (h ++ x) := ⟨by simp, fun i hi => List.getElem?_append_left hi⟩
theorem Keep.set (a : Keep h hp) (hb : h.length ≤ b) (x : Option ABlk) : Keep h (hp.set b x) := ⟨by simpa using a.1, fun i hi => by rw [List.getElem?_set_ne (by omega)]; exact a.2 i hi⟩
theorem Keep.eq (a : Keep h hp) : hp.take h.length = h := by
  refine List.ext_getElem? fun i => ?_
  rcases Nat.lt_or_ge i h.length with hi | hi
  · rw [List.getElem?_take_of_lt hi, a.2 i hi]
  · rw [List.getElem?_eq_none (by simp; omega), List.getElem?_eq_none hi]
theorem fin_keep {v : AVal} (a : Keep h hp) (hv : v.bel h.length = true) : finM h.length v ⟨hp, h.length, h.length⟩ = some (v, h, h.length, h.length) := by
  rw [fin_take hv, a.eq]
theorem Holds.lt (a : Holds hp b vs) : b < hp.length := by obtain ⟨blk, h1, -⟩ := a; exact lget_lt h1
theorem Holds.new (hp : Heap) (e : Nat) (vs : List AVal) : Holds (hp ++ [some (blkOf e vs)]) hp.length vs := ⟨_, lget_last _ _, rfl, fun j _ => get_blk e vs j⟩
theorem Holds.keep (a : Holds hp b vs) (hk : hp'[b]? = hp[b]?) : Holds hp' b vs := by
  obtain ⟨blk, h1, h2⟩ := a
  exact ⟨blk, by rw [lget_of hk]; exact h1, h2⟩
theorem Holds.ext (a : Holds hp b vs) (x : Heap) : Holds (hp ++ x) b vs := a.keep (List.getElem?_append_left a.lt)
theorem Holds.by (a : Holds hp b vs) (k : Keep hp hp') : Holds hp' b vs := a.keep (k.2 b a.lt)
theorem Holds.one (a : Holds hp b vs) (hk : k < vs.length) : ldM ro ⟨hp, l, p⟩ true 1 (.p (some ⟨false, b, 0 + k⟩)) = some (vs.getD k und) := by
  obtain ⟨blk, h1, h2, h3⟩ := a
  rw [ld_heap rfl h1 (by omega), ← h3 k hk, Nat.zero_add]
theorem Holds.oneA (a : Holds hp b vs) (hk : k < vs.length) : ldA ro hp true 1 (.p (some ⟨false, b, 0 + k⟩)) = some (vs.getD k und) := by
  obtain ⟨blk, h1, h2, h3⟩ := a
  rw [lda_heap h1 (by omega), ← h3 k hk, Nat.zero_add]
theorem row_list {t : Tr} : ∀ (vs : List AVal) (i : Nat), (∀ j, j < vs.length → t.get (i + j) = vs.getD j und) → t.row i vs.length = vs
  | [], i, _ => rfl
  | v :: vs, i, h => by
    simp only [List.length_cons, Tr.row]
    rw [show t.get i = v by simpa using h 0 (by simp), row_list vs (i + 1) fun j hj => by have := h (j + 1) (by simp; omega); rw [show i + 1 + j = i + (j + 1) by omega, this]; simp]
theorem Holds.rd (a : Holds hp b vs) (hn : n = vs.length) : Go.Vm.rd ro hp false n ⟨false, b, 0⟩ = some (.agg vs) := by
  subst hn
  obtain ⟨blk, h1, h2, h3⟩ := a
  have hc : Nat.ble (0 + vs.length) blk.n = true := by rw [Nat.ble_eq]; omega
  simp only [Go.Vm.rd, rdB_heap h1, cond_false, hc, cond_true]
  rw [row_list vs 0 fun j hj => by rw [Nat.zero_add]; exact h3 j hj]
theorem Holds.all (a : Holds hp b vs) (hn : n = vs.length) : ldM ro ⟨hp, l, p⟩ false n (.p (some ⟨false, b, 0⟩)) = some (.agg vs) := by
  simp only [ldM, a.rd hn]
theorem spliceGet (t : Tr) : ∀ (vs : List AVal) (i j : Nat), (t.splice i vs).get j = if i ≤ j ∧ j < i + vs.length then vs.getD (j - i) und else t.get j
  | [], i, j => by simp [Tr.splice]; intro h1 h2; omega
  | v :: vs, i, j => by
    rw [Tr.splice, spliceGet (t.set i v) vs (i + 1) j, get_set]
    by_cases e : i = j
    · subst e
      rw [if_neg (by omega), if_pos rfl, if_pos (by simp)]; simp
    · by_cases h2 : i ≤ j ∧ j < i + (v :: vs).length
      · have h3 : i + 1 ≤ j ∧ j < i + 1 + vs.length := by simp at h2; omega
        rw [if_pos h2, if_pos h3]
        obtain ⟨q, rfl⟩ : ∃ q, j = i + 1 + q := ⟨j - (i + 1), by omega⟩
        rw [show i + 1 + q - i = q + 1 by omega, show i + 1 + q - (i + 1) = q by omega]
        simp
      · have h3 : ¬ (i + 1 ≤ j ∧ j < i + 1 + vs.length) := by simp at h2; omega
        rw [if_neg h2, if_neg h3, if_neg e]
theorem wrH_all {blk : ABlk} (hb : lget hp b = some (some blk)) (hn : vs.length ≤ blk.n) (ho : ones vs = true) : wrH hp ⟨false, b, 0⟩ vs = some (hp.set b (some { blk with c := blk.c.splice 0 vs })) := by
  have : (Nat.ble (0 + vs.length) blk.n && ones vs) = true := by rw [ho, Bool.and_true, Nat.ble_eq]; omega
  simp only [wrH, cond_false, hb, this, cond_true, lset_eq]
/-- a block is written whole -/
theorem Holds.st {vs' : List AVal} {v : AVal} (a : Holds hp b vs) (hv : v.cells = vs') (hn : n = vs'.length) (hl : vs'.length = vs.length) (ho : ones vs' = true) (hL : h.length ≤ b) (kp : Keep h hp) :
    ∃ hp', stepM ro ⟨hp, h.length, h.length⟩ (.st n (.c (.p (some ⟨false, b, 0⟩))) (.c v)) = some (und, ⟨hp', h.length, h.length⟩) ∧ Holds hp' b vs' ∧ hp'.length = hp.length ∧ (∀ i, i ≠ b → hp'[i]? = hp[i]?) ∧ Keep h hp' := by
  obtain ⟨blk, h1, h2, h3⟩ := a
  subst hv hn
  have hw := wrH_all h1 (vs := v.cells) (by omega) ho
  refine ⟨hp.set b (some { blk with c := blk.c.splice 0 v.cells }), ?_, ⟨_, lget_set h1 _, by simpa using (h2.trans hl.symm), fun j hj => ?_⟩, by simp, fun i hi => List.getElem?_set_ne (Ne.symm hi), kp.set hL _⟩
  · have hbq : Nat.beq v.cells.length v.cells.length = true := Nat.beq_refl _
    have e : (cond (nonp v.cells) h.length h.length) = h.length := by cases nonp v.cells <;> rfl
    simp only [stepM, stepK, opd, st_st, hbq, cond_true, hw, St.mm, Nat.min_eq_left hL, e]
  · show (blk.c.splice 0 v.cells).get j = _
    rw [spliceGet, if_pos (by omega)]; simp
theorem bx_ok (e : Nat) (hn : vs.length = n) : stepM ro ⟨hp, l, p⟩ (.bx e n (.c (.agg vs))) = some (.p (some ⟨false, hp.length, 0⟩), ⟨hp ++ [some (blkOf e vs)], l, p⟩) := by
  subst hn
  have hbq : Nat.beq vs.length vs.length = true := Nat.beq_refl _
  simp only [stepM, stepK, opd, st_bx, AVal.cells, hbq, cond_true, newB, St.mm]
end

theorem ext0 (a : AVal) (l : List AVal) : evP .e (.ext 0 (.c (.tup (a :: l)))) = some a := rfl
theorem ext1 (a b : AVal) (l : List AVal) : evP .e (.ext 1 (.c (.tup (a :: b :: l)))) = some b := rfl
theorem ext2 (a b c : AVal) (l : List AVal) : evP .e (.ext 2 (.c (.tup (a :: b :: c :: l)))) = some c := rfl
section
variable {ro : List ABlk} {h : Heap} {v : AVal}
theorem row_by {hp : Heap} {z : List Int} (a : IsRow ro h v z) (k : Keep h hp) : IsRow ro hp v z := by
  rw [take_eq k.1 k.2]; exact a.ext _
end

/-- one cell of a block is written -/
theorem Holds.set {ro : List ABlk} {h hp : Heap} {b k : Nat} {vs : List AVal} {v : AVal} (a : Holds hp b vs) (hk : k < vs.length) (hv : v.one = true) (hc : v.cells = [v]) (hn : nonp [v] = true) (hL : h.length ≤ b) (kp : Keep h hp) :
    ∃ hp', stepM ro ⟨hp, h.length, h.length⟩ (.st 1 (.c (.p (some ⟨false, b, 0 + k * 1⟩))) (.c v)) = some (und, ⟨hp', h.length, h.length⟩) ∧ Holds hp' b (vs.set k v) ∧ hp'.length = hp.length ∧ (∀ i, i ≠ b → hp'[i]? = hp[i]?) ∧ Keep h hp' := by
  obtain ⟨blk, h1, h2, h3⟩ := a
  have e : 0 + k * 1 = k := by omega
  refine ⟨hp.set b (some { blk with c := blk.c.set k v }), ?_, ⟨_, lget_set h1 _, by simpa using h2, fun j hj => ?_⟩, by simp, fun i hi => List.getElem?_set_ne (Ne.symm hi), kp.set hL _⟩
  · rw [e, st_heap h1 (by omega) hv hc hn, Nat.min_eq_left hL]
  · show (blk.c.set k v).get j = _
    rw [get_set]
    simp only [List.length_set] at hj
    by_cases e : k = j
    · subst e; simp [List.getD, hj]
    · rw [if_neg e, h3 j hj]
      simp [List.getD, List.getElem?_set_ne e]


/-- a loop whose state is known for each round -/
theorem loop_st {S R : Type} {b : S → Option (S ⊕ R)} (st : Nat → S) (n : Nat) (step : Nat → Option R) (r0 : R) (hout : b (st n) = some (.inr r0)) (hin : ∀ i, i < n → b (st i) = some (match step i with | some r => .inr r | none => .inl (st (i + 1)))) :
    ∀ (k i : Nat), i + k = n → loopX b (st i) = some ((firstS step k i).getD r0)
  | 0, i, hi => by
    simp only [Nat.add_zero] at hi
    subst hi
    exact loopX_out hout
  | k + 1, i, hi => by
    have h1 := hin i (by omega)
    unfold firstS
    cases hs : step i with
    | some r => rw [hs] at h1; exact loopX_out h1
    | none =>
      rw [hs] at h1
      exact loopX_on h1 (loop_st st n step r0 hout hin k (i + 1) (by omega))
/-- one that runs to its end -/
theorem loop_run {S R : Type} {b : S → Option (S ⊕ R)} (st : Nat → S) (n : Nat) {r0 : R} (hout : b (st n) = some (.inr r0)) (hin : ∀ i, i < n → b (st i) = some (.inl (st (i + 1)))) : loopX b (st 0) = some r0 := by
  have := loop_st st n (fun _ => none) r0 hout hin n 0 (by omega)
  rw [firstS_none.2 fun _ _ _ => rfl] at this
  exact this
/-- one that looks for something -/
theorem loop_if {S R : Type} {b : S → Option (S ⊕ R)} (st : Nat → S) (n : Nat) (P : Nat → Prop) [DecidablePred P] (r0 r1 : R) (hout : b (st n) = some (.inr r0)) (hin : ∀ i, i < n → P i → b (st i) = some (.inl (st (i + 1)))) (hno : ∀ i, i < n → ¬ P i → b (st i) = some (.inr r1)) :
    loopX b (st 0) = some (if (∀ i, i < n → P i) then r0 else r1) := by
  have := loop_st st n (fun i => if P i then none else some r1) r0 hout (fun i hi => by
    by_cases hp : P i
    · rw [if_pos hp]; exact hin i hi hp
    · rw [if_neg hp]; exact hno i hi hp) n 0 (by omega)
  rw [this]
  by_cases hall : ∀ i, i < n → P i
  · rw [if_pos hall, firstS_none.2 fun j _ h2 => by rw [if_pos (hall j (by omega))]]; rfl
  · rw [if_neg hall]
    cases hf : firstS (fun i => if P i then none else some r1) n 0 with
    | none =>
      refine absurd (fun i hi => ?_) hall
      have := firstS_none.1 hf i (by omega) (by omega)
      simpa using this
    | some r =>
      obtain ⟨j, -, -, h3, -⟩ := firstS_some hf
      by_cases hc : P j
      · rw [if_pos hc] at h3; cases h3
      · rw [if_neg hc] at h3; cases h3; rfl

theorem dT {p : Prop} [Decidable p] (h : p) : decide p = true := decide_eq_true h
theorem dF {p : Prop} [Decidable p] (h : ¬ p) : decide p = false := decide_eq_false h
theorem row_bel {ro : List ABlk} {h : Heap} {v : AVal} {z : List Int} (a : IsRow ro h v z) : v.bel h.length = true := by
  rcases a with ⟨rfl, -⟩ | ⟨q, cap, blk, rfl, hb, -⟩
  · rfl
  · simpa [AVal.bel] using rdB_lt hb
theorem mat_by {ro : List ABlk} {h hp : Heap} {v : AVal} {z : List (List Int)} (a : IsMat ro h v z) (k : Keep h hp) : IsMat ro hp v z := by
  rw [take_eq k.1 k.2]; exact a.ext _
theorem at_rowK {ro : List ABlk} {h : Heap} {v : AVal} {z : List Int} (hr : IsRow ro h v z) {i : Nat} (hi : i < z.length) : ∃ p, evP .e (.ixS 1 (.c v) (.c (.i .i64 (i : Int)))) = some p ∧ ∀ {hp : Heap} {l q : Nat}, Keep h hp → ldM ro ⟨hp, l, q⟩ true 1 p = some (.i .i64 (z.getD i 0)) ∧ ldA ro hp true 1 p = some (.i .i64 (z.getD i 0)) := by
  obtain ⟨p, h1, -⟩ := at_row (m := ⟨h, 0, 0⟩) rfl hr hi
  refine ⟨p, h1, fun {hp l q} k => ?_⟩
  obtain ⟨p', g1, g2, g3⟩ := at_row (m := ⟨hp, l, q⟩) rfl (row_by hr k) hi
  rw [h1] at g1; cases g1
  exact ⟨g2, g3⟩
theorem at_matK {ro : List ABlk} {h : Heap} {v : AVal} {x : List (List Int)} (hr : IsMat ro h v x) {i : Nat} (hi : i < x.length) : ∃ p u, evP .e (.ixS 1 (.c v) (.c (.i .i64 (i : Int)))) = some p ∧ (∀ {hp : Heap} {l q : Nat}, Keep h hp → ldM ro ⟨hp, l, q⟩ true 1 p = some u ∧ ldA ro hp true 1 p = some u) ∧ IsRow ro h u (x.getD i []) := by
  rcases hr with ⟨rfl, rfl⟩ | ⟨q, cap, blk, rfl, hb, hn, hc⟩
  · simp at hi
  · refine ⟨_, _, ixS_eq hi, fun {hp l q'} k => ?_, hc i hi⟩
    have hb' : rdB ro hp q = some blk := by rw [take_eq k.1 k.2]; exact rdB_ext _ hb
    have h1 := rd_one (i := i) hb' (by omega)
    refine ⟨h1, ?_⟩
    have := rdB_lt hb'
    simp only [ldA, this, cond_true, h1]
abbrev nthR (x : List (List Int)) (i : Nat) : List Int := x.getD i []
theorem cp {F : Tab} {ro : List ABlk} {h : Heap} {f : Nat} {a : List AVal} {v : AVal} {l p : Nat} (e : callX F ro f a h = some (v, h, h.length, h.length)) (hl : l ≤ h.length) (hp : p ≤ h.length) : callM (callX F ro) ⟨h, l, p⟩ f a = some (v, ⟨h, l, p⟩) :=
  callM_pure e hl hp
theorem cp0 {F : Tab} {ro : List ABlk} {h : Heap} {f : Nat} {a : List AVal} {v : AVal} (e : callX F ro f a h = some (v, h, h.length, h.length)) : callM (callX F ro) ⟨h, h.length, h.length⟩ f a = some (v, ⟨h, h.length, h.length⟩) :=
  callM_pure e (Nat.le_refl _) (Nat.le_refl _)

/- the laws' own: few, same -/
def few (x : List (List Int)) (z : List Int) : Prop := (∀ i, i < x.length → i < 250 ∧ (nthR x i).length ≤ 40) ∧ z.length ≤ 1100
instance (x : List (List Int)) (z : List Int) : Decidable (few x z) := inferInstanceAs (Decidable ((∀ i, i < x.length → i < 250 ∧ (nthR x i).length ≤ 40) ∧ z.length ≤ 1100))
theorem few.len {x : List (List Int)} {z : List Int} (h : few x z) : x.length ≤ 250 := by
  by_cases h1 : x.length = 0
  · omega
  · have := (h.1 (x.length - 1) (by omega)).1
    omega
theorem few_ok {ro : List ABlk} {h : Heap} {a b : AVal} {x : List (List Int)} {z : List Int} (ha : IsMat ro h a x) (hb : IsRow ro h b z) (hx : x.length ≤ 9223372036854775807) : callX F1 ro 15 [a, b] h = some (.b (decide (few x z)), h, h.length, h.length) := by
  refine g15_ok (meansX_ok F1 ro) rfl ?_
  unfold g15
  simp only [meansX_loop]
  have hloop := loop_if (b := fun s => g15_b0 (meansX F1 ro) ro a b ⟨h, h.length, h.length⟩ s) (fun i => (i : Int)) x.length (fun i => i < 250 ∧ (nthR x i).length ≤ 40) (.inl ()) (.inr false) ?_ ?_ ?_
  · have e0 : ((0 : Nat) : Int) = 0 := rfl
    rw [e0] at hloop
    rw [hloop]
    by_cases hf : ∀ i, i < x.length → i < 250 ∧ (nthR x i).length ≤ 40
    · rw [if_pos hf]
      simp only [bindO_some, len_row hb, asI_i, forceB_eq, ltI_eq, tupA]
      have e : decide (few x z) = !decide ((1100 : Int) < (z.length : Int)) := by
        rw [← decide_not]; exact decide_eq_decide.2 ⟨fun hh => by have := hh.2; omega, fun hh => ⟨hf, by omega⟩⟩
      rw [e]
      exact fin_pure rfl
    · rw [if_neg hf]
      have e : decide (few x z) = false := by simp only [decide_eq_false_iff_not]; exact fun hh => hf hh.1
      simp only [bindO_some, e, tupA]
      exact fin_pure rfl
  · simp only [g15_b0, len_mat ha, bindO_some, asI_i, forceB_eq, ltI_eq]
    simp
  · intro i hi hp
    obtain ⟨p, u, h1, h2, h3, h4⟩ := at_mat (m := ⟨h, h.length, h.length⟩) rfl ha hi
    have e := lt_yes hi
    have e2 : (!decide ((i : Int) < 250)) = false := by have := hp.1; simp; omega
    have h5 : (x.getD i []).length ≤ 40 := hp.2
    have e3 : decide ((40 : Int) < ((x.getD i []).length : Int)) = false := dF (by omega)
    simp only [g15_b0, len_mat ha, bindO_some, asI_i, forceB_eq, ltI_eq, e, cond_true, e2, cond_false, h1, h2, len_row h4, e3, forceI_eq]
    rw [wr_id' (by omega) (by omega)]
    rfl
  · intro i hi hp
    obtain ⟨p, u, h1, h2, h3, h4⟩ := at_mat (m := ⟨h, h.length, h.length⟩) rfl ha hi
    have e := lt_yes hi
    by_cases h250 : i < 250
    · have e2 : (!decide ((i : Int) < 250)) = false := by simp; omega
      have e3 : decide ((40 : Int) < ((x.getD i []).length : Int)) = true := by
        have : ¬ (x.getD i []).length ≤ 40 := fun hh => hp ⟨h250, hh⟩
        exact dT (by omega)
      simp only [g15_b0, len_mat ha, bindO_some, asI_i, forceB_eq, ltI_eq, e, cond_true, e2, cond_false, h1, h2, len_row h4, e3]
    · have e2 : (!decide ((i : Int) < 250)) = true := by simp; omega
      simp only [g15_b0, len_mat ha, bindO_some, asI_i, forceB_eq, ltI_eq, e, cond_true, e2]

end Go.Proofs.Ytnalgdobglfndaa.T

/- Lists that a function makes by append. -/
open Go.Vm
set_option linter.unusedVariables false
namespace Go.Proofs.Ytnalgdobglfndaa.T
open Go

/-- a list made by append, in a block from L on -/
def GV (hp : Heap) (L e es : Nat) (v : AVal) (k : Nat) (cs : List AVal) : Prop :=
  (v = .nsl ∧ k = 0 ∧ cs = []) ∨ ∃ b blk, v = .sl ⟨false, b, 0⟩ k .grow ∧ 0 < k ∧ L ≤ b ∧ lget hp b = some (some blk) ∧ blk.e = e ∧ cs.length = k * es ∧ k * es ≤ blk.n ∧ ∀ j, j < k * es → blk.c.get j = cs.getD j und
theorem GV.nil (hp : Heap) (L e es : Nat) : GV hp L e es .nsl 0 [] := .inl ⟨rfl, rfl, rfl⟩
/-- blocks below L, and those above that are kept, hold the list as before -/
theorem GV.by {hp hp' : Heap} {L e es k : Nat} {v : AVal} {cs : List AVal} (g : GV hp L e es v k cs) (kp : Keep hp hp') : GV hp' L e es v k cs := by
  rcases g with h | ⟨b, blk, h1, h2, h3, h4, h5⟩
  · exact .inl h
  · exact .inr ⟨b, blk, h1, h2, h3, by rw [lget_of (kp.2 b (lget_lt h4))]; exact h4, h5⟩
theorem GV.row {ro : List ABlk} {hp : Heap} {L e : Nat} {v : AVal} {k : Nat} {z : List Int} (g : GV hp L e 1 v k (z.map (AVal.i .i64))) (hk : z.length = k) : IsRow ro hp v z := by
  subst hk
  rcases g with ⟨rfl, h2, -⟩ | ⟨b, blk, rfl, hpos, hLb, hbk, hbe, hcl, hbn, hrows⟩
  · exact .inl ⟨rfl, List.length_eq_zero_iff.1 h2⟩
  · refine .inr ⟨_, _, blk, rfl, rdB_heap hbk 0, by simpa using hbn, fun j hj => ?_⟩
    rw [Nat.zero_add, hrows j (by omega), map_getD hj]
end Go.Proofs.Ytnalgdobglfndaa.T

/- What a record is: the program's checks and the reference's. -/
open Go.Vm
set_option linter.unusedVariables false
namespace Go.Proofs.Ytnalgdobglfndaa.T
open Go

def bitP (x : Int) : Prop := x = 0 ∨ x = 1
instance (x : Int) : Decidable (bitP x) := inferInstanceAs (Decidable (_ ∨ _))
def bitsP (z : List Int) : Prop := ∀ j, j < z.length → bitP (z.getD j 0)
instance (z : List Int) : Decidable (bitsP z) := inferInstanceAs (Decidable (∀ j, j < z.length → bitP (z.getD j 0)))
/-- a row of so many numbers 0 or 1 -/
def rowP (z : List Int) (n : Int) : Prop := bitsP z ∧ (z.length : Int) = n
instance (z : List Int) (n : Int) : Decidable (rowP z n) := inferInstanceAs (Decidable (_ ∧ _))
def matP (x : List (List Int)) (k n : Int) : Prop := (∀ i, i < x.length → rowP (nthR x i) n) ∧ (x.length : Int) = k
instance (x : List (List Int)) (k n : Int) : Decidable (matP x k n) := inferInstanceAs (Decidable (_ ∧ _))

section
variable {ro : List ABlk} {h : Heap} {a b : AVal} {x : List (List Int)} {z : List Int}

theorem areBits_ok {n : Int} (hb : IsRow ro h b z) (hz : z.length ≤ 9223372036854775807) : callX F1 ro 61 [b, .i .i64 n] h = some (.b (decide (rowP z n)), h, h.length, h.length) := by
  refine g61_ok (meansX_ok F1 ro) rfl ?_
  unfold g61
  simp only [len_row hb, bindO_some, asI_i, meansX_loop]
  have hloop := loop_if (b := fun s => g61_b0 (meansX F1 ro) ro b n z.length ⟨h, h.length, h.length⟩ s) (fun i => (i : Int)) z.length (fun i => bitP (z.getD i 0)) (.inl ()) (.inr false) ?_ ?_ ?_
  · have e0 : ((0 : Nat) : Int) = 0 := rfl
    rw [e0] at hloop
    rw [hloop]
    by_cases hf : bitsP z
    · rw [if_pos (show ∀ i, i < z.length → bitP (z.getD i 0) from hf)]
      simp only [bindO_some, forceB_eq, eqI_eq, tupA]
      have e : decide (rowP z n) = ((z.length : Int) == n) := by
        by_cases hn : (z.length : Int) = n
        · rw [dT (show rowP z n from ⟨hf, hn⟩)]; simp [hn]
        · rw [dF (show ¬ rowP z n from fun hh => hn hh.2)]; simp [hn]
      rw [e]
      exact fin_pure rfl
    · rw [if_neg (show ¬ ∀ i, i < z.length → bitP (z.getD i 0) from hf)]
      simp only [bindO_some, dF (show ¬ rowP z n from fun hh => hf hh.1), tupA]
      exact fin_pure rfl
  · simp only [g61_b0, forceB_eq, ltI_eq, lt_no, cond_false]
  · intro i hi hp
    obtain ⟨p, h1, h2, h3⟩ := at_row (m := ⟨h, h.length, h.length⟩) rfl hb hi
    simp only [g61_b0, forceB_eq, ltI_eq, lt_yes hi, cond_true, h1, h2, bindO_some, asI_i, eqI_eq]
    rcases hp with hp | hp
    · simp only [hp, beq_self_eq_true, Bool.not_true, cond_false, bindO_some, forceI_eq]
      rw [wr_id' (by omega) (by omega)]; rfl
    · have e0 : ((1 : Int) == 0) = false := rfl
      simp only [hp, e0, Bool.not_false, cond_true, beq_self_eq_true, Bool.not_true, cond_false, bindO_some, forceI_eq]
      rw [wr_id' (by omega) (by omega)]; rfl
  · intro i hi hp
    obtain ⟨p, h1, h2, h3⟩ := at_row (m := ⟨h, h.length, h.length⟩) rfl hb hi
    have e0 : (z.getD i 0 == 0) = false := by rw [beq_eq_false_iff_ne]; exact fun hh => hp (.inl hh)
    have e1 : (z.getD i 0 == 1) = false := by rw [beq_eq_false_iff_ne]; exact fun hh => hp (.inr hh)
    simp only [g61_b0, forceB_eq, ltI_eq, lt_yes hi, cond_true, h1, h2, bindO_some, asI_i, eqI_eq, e0, e1, Bool.not_false]

/-- how long the rows and the list are: no more than an int can count -/
def LenOk (x : List (List Int)) : Prop := x.length ≤ 9223372036854775807 ∧ ∀ i, i < x.length → (nthR x i).length ≤ 9223372036854775807
theorem areSaid_ok {k n : Int} (ha : IsMat ro h a x) (hl : LenOk x) : callX F1 ro 68 [a, .i .i64 k, .i .i64 n] h = some (.b (decide (matP x k n)), h, h.length, h.length) := by
  refine g68_ok (meansX_ok F1 ro) rfl ?_
  unfold g68
  simp only [len_mat ha, bindO_some, asI_i, meansX_loop]
  have hloop := loop_if (b := fun s : Int × Mm => g68_b0 (meansX F1 ro) ro a k n x.length s.1 s.2) (fun i => ((i : Int), (⟨h, h.length, h.length⟩ : Mm))) x.length (fun i => rowP (nthR x i) n) (.inl ⟨h, h.length, h.length⟩) (.inr (false, ⟨h, h.length, h.length⟩)) ?_ ?_ ?_
  · have e0 : ((0 : Nat) : Int) = 0 := rfl
    rw [e0] at hloop
    rw [hloop]
    by_cases hf : ∀ i, i < x.length → rowP (nthR x i) n
    · rw [if_pos hf]
      simp only [bindO_some, forceB_eq, eqI_eq, tupA]
      have e : decide (matP x k n) = ((x.length : Int) == k) := by
        by_cases hn : (x.length : Int) = k
        · rw [dT (show matP x k n from ⟨hf, hn⟩)]; simp [hn]
        · rw [dF (show ¬ matP x k n from fun hh => hn hh.2)]; simp [hn]
      rw [e]
      exact fin_pure rfl
    · rw [if_neg hf]
      simp only [bindO_some, dF (show ¬ matP x k n from fun hh => hf hh.1), tupA]
      exact fin_pure rfl
  · simp only [g68_b0, forceB_eq, ltI_eq, lt_no, cond_false]
  · intro i hi hp
    obtain ⟨p, u, h1, h2, h3, h4⟩ := at_mat (m := ⟨h, h.length, h.length⟩) rfl ha hi
    have := hl.1
    simp only [g68_b0, forceB_eq, ltI_eq, lt_yes hi, cond_true, h1, h2, bindO_some, meansX_call, cp0 (areBits_ok (n := n) h4 (hl.2 i hi)), bindP_some, asB_b, dT hp, Bool.not_true, cond_false, forceI_eq]
    rw [wr_id' (by omega) (by omega)]; rfl
  · intro i hi hp
    obtain ⟨p, u, h1, h2, h3, h4⟩ := at_mat (m := ⟨h, h.length, h.length⟩) rfl ha hi
    simp only [g68_b0, forceB_eq, ltI_eq, lt_yes hi, cond_true, h1, h2, bindO_some, meansX_call, cp0 (areBits_ok (n := n) h4 (hl.2 i hi)), bindP_some, asB_b, dF hp, Bool.not_false]

/-- the errors of a record -/
def recE (n : Int) (x : List (List Int)) (z : List Int) : Int :=
  if n < 1 ∨ 20 < n then 2 else if 200 < x.length then 3 else if matP x x.length n ∧ rowP z x.length then 0 else 2

theorem checkRecord_ok {n : Int} (ha : IsMat ro h a x) (hl : LenOk x) (hb : IsRow ro h b z) (hz : z.length ≤ 9223372036854775807) : callX F1 ro 49 [.i .i64 n, a, b] h = some (.i .i64 (recE n x z), h, h.length, h.length) := by
  refine g49_ok (meansX_ok F1 ro) rfl ?_
  unfold g49
  simp only [forceB_eq, ltI_eq, len_mat ha, bindO_some, asI_i, meansX_call]
  by_cases h1 : n < 1
  · simp only [dT h1, cond_true, bindO_some, recE, if_pos (show n < 1 ∨ 20 < n from .inl h1), tupA]; exact fin_pure rfl
  · by_cases h2 : 20 < n
    · simp only [dF h1, cond_false, dT h2, bindO_some, cond_true, recE, if_pos (show n < 1 ∨ 20 < n from .inr h2), tupA]; exact fin_pure rfl
    · have hn : ¬ (n < 1 ∨ 20 < n) := by omega
      simp only [dF h1, cond_false, dF h2, bindO_some, recE, if_neg hn]
      by_cases h3 : 200 < x.length
      · simp only [dT (show (200 : Int) < (x.length : Int) by omega), cond_true, if_pos h3, tupA]; exact fin_pure rfl
      · simp only [dF (show ¬ (200 : Int) < (x.length : Int) by omega), cond_false, if_neg h3, cp0 (areSaid_ok (k := x.length) (n := n) ha hl), bindP_some, asB_b]
        by_cases h4 : matP x x.length n
        · simp only [dT h4, Bool.not_true, cond_false, cp0 (areBits_ok (n := x.length) hb hz), bindP_some, asB_b]
          by_cases h5 : rowP z x.length
          · simp only [dT h5, Bool.not_true, bindO_some, cond_false, if_pos (show matP x x.length n ∧ rowP z x.length from ⟨h4, h5⟩), tupA]; exact fin_pure rfl
          · simp only [dF h5, Bool.not_false, bindO_some, cond_true, if_neg (show ¬ (matP x x.length n ∧ rowP z x.length) from fun hh => h5 hh.2), tupA]; exact fin_pure rfl
        · simp only [dF h4, Bool.not_false, cond_true, bindO_some, if_neg (show ¬ (matP x x.length n ∧ rowP z x.length) from fun hh => h4 hh.1), tupA]; exact fin_pure rfl

end
end Go.Proofs.Ytnalgdobglfndaa.T

/- Ratios in lowest terms; what foretellers say; how many bits a number has. -/
open Go.Vm
set_option linter.unusedVariables false
namespace Go.Proofs.Ytnalgdobglfndaa.T
open Go

def saidP (k n : Int) (x : List (List Int)) : Prop := 1 ≤ k ∧ k ≤ 10 ∧ 1 ≤ n ∧ n ≤ 20 ∧ matP x k n
instance (k n : Int) (x : List (List Int)) : Decidable (saidP k n x) := inferInstanceAs (Decidable (_ ∧ _))

section
variable {ro : List ABlk} {h hp : Heap} {a b : AVal} {x : List (List Int)} {z : List Int}

/- bits -/
end
end Go.Proofs.Ytnalgdobglfndaa.T

/- How often foretellers are wrong: by bits, and one by one. -/
open Go.Vm
set_option linter.unusedVariables false
namespace Go.Proofs.Ytnalgdobglfndaa.T
open Go

def bt (x : List (List Int)) (j f : Nat) : Nat := ((nthR x j).getD f 0).toNat
def wrongN (x : List (List Int)) (f s k : Nat) : Nat → Nat
  | 0 => 0
  | j + 1 => wrongN x f s k j + (if bt x j f ≠ s / 2 ^ (k - 1 - j) % 2 then 1 else 0)
def minN (w : Nat → Nat) (d : Nat) : Nat → Nat
  | 0 => d
  | f + 1 => min (minN w d f) (w f)
def best (x : List (List Int)) (k n s : Nat) : Nat := minN (fun f => wrongN x f s k k) k n

section
variable {ro : List ABlk} {h hp : Heap} {a b v : AVal} {x : List (List Int)} {z : List Int}

theorem shl_nat : ∀ k, k < 11 → shlV .i64 1 ((k : Nat) : Int) = ((2 ^ k : Nat) : Int) := by decide
end
end Go.Proofs.Ytnalgdobglfndaa.T

/- Regret: the program's and the reference's. -/
open Go.Vm
set_option linter.unusedVariables false
namespace Go.Proofs.Ytnalgdobglfndaa.T
open Go

section
variable {ro : List ABlk} {h hp : Heap} {a b v : AVal} {x : List (List Int)} {z : List Int}

theorem holds_row {hp : Heap} {q n : Nat} {vs : List AVal} {z : List Int} (a : Holds hp q vs) (hz : vs = z.map (AVal.i .i64)) (hn : z.length = n) {cap : Cap} : IsRow ro hp (.sl ⟨false, q, 0⟩ n cap) z := by
  subst hz; subst hn
  obtain ⟨blk, h1, h2, h3⟩ := a
  refine .inr ⟨_, cap, blk, rfl, rdB_heap h1 0, by simpa using (Nat.le_of_eq h2.symm), fun j hj => ?_⟩
  rw [show (0 + j) = j by omega, h3 j (by simpa using hj), map_getD hj]

theorem Fits.lens {x : List (List Int)} (hf : Fits x) : LenOk x := ⟨hf.1, fun i hi => by
  have : nthR x i ∈ x := by
    have : nthR x i = x[i] := by simp [nthR, List.getD, hi]
    rw [this]; exact List.getElem_mem hi
  exact (hf.2 _ this).1⟩
end
end Go.Proofs.Ytnalgdobglfndaa.T

/- What points are: the program's checks and the reference's. -/
open Go.Vm
set_option linter.unusedVariables false
namespace Go.Proofs.Ytnalgdobglfndaa.T
open Go

def coordP (z : List Int) : Prop := ∀ j, j < z.length → -100 ≤ z.getD j 0 ∧ z.getD j 0 ≤ 100
instance (z : List Int) : Decidable (coordP z) := inferInstanceAs (Decidable (∀ j, j < z.length → -100 ≤ z.getD j 0 ∧ z.getD j 0 ≤ 100))
def pointP (z : List Int) : Prop := 1 ≤ z.length ∧ z.length ≤ 6 ∧ coordP z
instance (z : List Int) : Decidable (pointP z) := inferInstanceAs (Decidable (_ ∧ _))
def signP (n : Int) : Prop := n = 1 ∨ n = -1
instance (n : Int) : Decidable (signP n) := inferInstanceAs (Decidable (_ ∨ _))
def ptP (x : List (List Int)) (z : List Int) (i : Nat) : Prop := (nthR x i).length = (nthR x 0).length ∧ pointP (nthR x i) ∧ signP (z.getD i 0)
instance (x : List (List Int)) (z : List Int) (i : Nat) : Decidable (ptP x z i) := inferInstanceAs (Decidable (_ ∧ _))
def ptsP (x : List (List Int)) (z : List Int) : Prop := 0 < x.length ∧ z.length = x.length ∧ ∀ i, i < x.length → ptP x z i
instance (x : List (List Int)) (z : List Int) : Decidable (ptsP x z) := inferInstanceAs (Decidable (_ ∧ _ ∧ ∀ i, i < x.length → ptP x z i))
section
variable {ro : List ABlk} {h : Heap} {a b : AVal} {x : List (List Int)} {z : List Int}

end
end Go.Proofs.Ytnalgdobglfndaa.T

/- Perceptron: the program's and the reference's. -/
open Go.Vm
set_option linter.unusedVariables false
namespace Go.Proofs.Ytnalgdobglfndaa.T
open Go

def ints (w : List Int) : List AVal := w.map (AVal.i .i64)
theorem ints_len (w : List Int) : (ints w).length = w.length := by simp [ints]
theorem ints_get {w : List Int} {j : Nat} (hj : j < w.length) : (ints w).getD j und = .i .i64 (w.getD j 0) := map_getD hj
theorem ints_set (w : List Int) (j : Nat) (n : Int) : (ints w).set j (.i .i64 n) = ints (w.set j n) := by simp [ints, List.map_set]

/-- the sum of the coordinates times the weights -/
def dotN (p w : List Int) : Nat → Int
  | 0 => 0
  | k + 1 => wr .i64 (dotN p w k + wr .i64 (p.getD k 0 * w.getD k 0))
/-- is the point at which a round is, on its side? -/
def hitP (x : List (List Int)) (z : List Int) (i : Nat) (w : List Int) : Prop := 0 < wr .i64 (z.getD i 0 * dotN (nthR x i) w w.length)
instance (x : List (List Int)) (z : List Int) (i : Nat) (w : List Int) : Decidable (hitP x z i w) := inferInstanceAs (Decidable (_ < _))
def zeros (n : Nat) : List Int := List.replicate n 0
section
variable {ro : List ABlk} {h hp : Heap} {a b v : AVal} {x : List (List Int)} {z : List Int}

theorem Holds.wr {b k : Nat} {vs : List AVal} {v : AVal} (a : Holds hp b vs) (hk : k < vs.length) (hv : v.one = true) (hc : v.cells = [v]) (hn : nonp [v] = true) (hL : h.length ≤ b) (kp : Keep h hp) :
    ∃ hp', writesM ro [] [(⟨false, b, 0 + k⟩, AVal.cells v)] ⟨hp, h.length, h.length⟩ = some ⟨hp', h.length, h.length⟩ ∧ Holds hp' b (vs.set k v) ∧ hp'.length = hp.length ∧ (∀ i, i ≠ b → hp'[i]? = hp[i]?) ∧ Keep h hp' := by
  obtain ⟨blk, h1, h2, h3⟩ := a
  refine ⟨hp.set b (some { blk with c := blk.c.set (0 + k) v }), ?_, ⟨_, lget_set h1 _, by simpa using h2, fun j hj => ?_⟩, by simp, fun i hi => List.getElem?_set_ne (Ne.symm hi), kp.set hL _⟩
  · rw [hc, wr_heap h1 (by omega) hv hn, Nat.min_eq_left hL]
  · show (blk.c.set (0 + k) v).get j = _
    rw [get_set]
    simp only [List.length_set] at hj
    by_cases e : 0 + k = j
    · have e' : k = j := by omega
      subst e'; simp [List.getD, hj]
    · rw [if_neg e, h3 j hj]
      simp [List.getD, List.getElem?_set_ne (show k ≠ j by omega)]
theorem getD_self {α : Type} {l : List α} {k : Nat} {v d : α} (h : k < l.length) : (l.set k v).getD k d = v := by simp [List.getD, h]
theorem getD_ne {α : Type} {l : List α} {k j : Nat} {v d : α} (h : k ≠ j) : (l.set k v).getD j d = l.getD j d := by simp [List.getD, List.getElem?_set_ne h]
theorem Holds.wrG {b k l p : Nat} {vs : List AVal} {v : AVal} (a : Holds hp b vs) (hk : k < vs.length) (hv : v.one = true) (hc : v.cells = [v]) (hn : nonp [v] = true) :
    ∃ hp', writesM ro [] [(⟨false, b, 0 + k⟩, AVal.cells v)] ⟨hp, l, p⟩ = some ⟨hp', min l b, p⟩ ∧ Holds hp' b (vs.set k v) ∧ hp'.length = hp.length ∧ (∀ i, i ≠ b → hp'[i]? = hp[i]?) := by
  obtain ⟨blk, h1, h2, h3⟩ := a
  refine ⟨hp.set b (some { blk with c := blk.c.set (0 + k) v }), ?_, ⟨_, lget_set h1 _, by simpa using h2, fun j hj => ?_⟩, by simp, fun i hi => List.getElem?_set_ne (Ne.symm hi)⟩
  · rw [hc, wr_heap h1 (by omega) hv hn]
  · show (blk.c.set (0 + k) v).get j = _
    rw [get_set]
    simp only [List.length_set] at hj
    by_cases e : 0 + k = j
    · have e' : k = j := by omega
      subst e'; rw [getD_self hj, if_pos (by omega)]
    · rw [if_neg e, h3 j hj, getD_ne (by omega)]
theorem Holds.setG {b k l p : Nat} {vs : List AVal} {v : AVal} (a : Holds hp b vs) (hk : k < vs.length) (hv : v.one = true) (hc : v.cells = [v]) (hn : nonp [v] = true) :
    ∃ hp', stepM ro ⟨hp, l, p⟩ (.st 1 (.c (.p (some ⟨false, b, 0 + k⟩))) (.c v)) = some (und, ⟨hp', min l b, p⟩) ∧ Holds hp' b (vs.set k v) ∧ hp'.length = hp.length ∧ (∀ i, i ≠ b → hp'[i]? = hp[i]?) := by
  obtain ⟨blk, h1, h2, h3⟩ := a
  refine ⟨hp.set b (some { blk with c := blk.c.set (0 + k) v }), ?_, ⟨_, lget_set h1 _, by simpa using h2, fun j hj => ?_⟩, by simp, fun i hi => List.getElem?_set_ne (Ne.symm hi)⟩
  · rw [st_heap h1 (by omega) hv hc hn]
  · show (blk.c.set (0 + k) v).get j = _
    rw [get_set]
    simp only [List.length_set] at hj
    by_cases e : 0 + k = j
    · have e' : k = j := by omega
      subst e'; rw [getD_self hj, if_pos (by omega)]
    · rw [if_neg e, h3 j hj, getD_ne (by omega)]
theorem fin_out {L : Nat} {v : AVal} {l p : Nat} (hv : v.bel L = false) : finM L v ⟨hp, l, p⟩ = some (v, hp, l, p) := by
  simp [finM, gc, hv]
theorem keep_o {h0 hp' : Heap} {q : Nat} (k : Keep h0 hp) (hq : h0.length ≤ q) (hl : hp'.length = hp.length) (ho : ∀ i, i ≠ q → hp'[i]? = hp[i]?) : Keep h0 hp' :=
  ⟨by rw [hl]; exact k.1, fun j hj => by rw [ho j (by omega)]; exact k.2 j hj⟩
theorem sl_nb {L b n : Nat} {cap : Cap} {l : List AVal} (h : L ≤ b) : (AVal.tup (.sl ⟨false, b, 0⟩ n cap :: l)).bel L = false := by
  simp only [AVal.bel, bels, Bool.false_or]
  have : Nat.blt b L = false := by rw [Bool.eq_false_iff]; simp [Nat.blt_eq]; omega
  simp [this]

/-- the weights as a slice of a block -/
abbrev wSl (q d : Nat) : AVal := .sl ⟨false, q, 0⟩ d (.known d)

end
end Go.Proofs.Ytnalgdobglfndaa.T

/- Perceptron whole; the law that compares both. -/
open Go.Vm
set_option linter.unusedVariables false
namespace Go.Proofs.Ytnalgdobglfndaa.T
open Go

section
variable {ro : List ABlk} {h hp : Heap} {a b v : AVal} {x : List (List Int)} {z : List Int}

/-- a call that answers a list in new memory, and more -/
def RetL (ro : List ABlk) (h : Heap) (f : Nat) (args : List AVal) (z : List Int) (rest : List AVal) : Prop :=
  ∃ v h', callX F1 ro f args h = some (.tup (v :: rest), h', h.length, h.length) ∧ Keep h h' ∧ IsRow ro h' v z ∧ z.length ≤ 1000
theorem holds_ints {q d : Nat} {w : List Int} (a : Holds hp q (ints w)) (hd : w.length = d) : IsRow ro hp (wSl q d) w := holds_row a rfl hd
theorem newInts (h : Heap) (d : Nat) : Holds (h ++ [some (newBlk 3 (.i .i64 0) d)]) h.length (ints (zeros d)) := by
  have e : rep [(AVal.i .i64 0)] d = ints (zeros d) := by
    have : ∀ d, rep [(AVal.i .i64 0)] d = ints (zeros d) := by
      intro d
      induction d with
      | zero => rfl
      | succ d ih => simp only [rep, ih, zeros, ints, List.replicate_succ, List.map_cons]; rfl
    exact this d
  show Holds (h ++ [some (blkOf 3 (rep [(AVal.i .i64 0)] d))]) _ _
  rw [e]
  exact Holds.new h 3 _
theorem zeros_len (d : Nat) : (zeros d).length = d := by simp [zeros]
theorem nil_bel (l : List Int) (L : Nat) : (AVal.tup (.nsl :: l.map (AVal.i .i64))).bel L = true := by
  have : ∀ l : List Int, bels L (l.map (AVal.i .i64)) = true := by
    intro l
    induction l with
    | nil => rfl
    | cons a l ih => simp [bels, AVal.bel, ih]
  simp [AVal.bel, bels, this]

theorem RetL.cm {f : Nat} {args : List AVal} {zz : List Int} {rest : List AVal} (r : RetL ro hp f args zz rest) : ∃ v h', (∀ {l p : Nat}, l ≤ hp.length → p ≤ hp.length → callM (callX F1 ro) ⟨hp, l, p⟩ f args = some (.tup (v :: rest), ⟨h', l, p⟩)) ∧ Keep hp h' ∧ IsRow ro h' v zz ∧ zz.length ≤ 1000 := by
  obtain ⟨v, h', h1, h2, h3, h4⟩ := r
  refine ⟨v, h', fun {l p} hl hp => ?_, h2, h3, h4⟩
  rw [callM_eq (m := ⟨_, l, p⟩) h1]
  simp [Nat.min_eq_left hl, Nat.min_eq_left hp]

end
end Go.Proofs.Ytnalgdobglfndaa.T

/- Goals: what they are, their halves, room, guess. -/
open Go.Vm
set_option linter.unusedVariables false
namespace Go.Proofs.Ytnalgdobglfndaa.T
open Go

def goalP (k : Int) (z : List Int) : Prop := 1 ≤ k ∧ k ≤ 10 ∧ z.length = 2 ^ k.toNat ∧ ∀ j, j < z.length → 0 ≤ z.getD j 0 ∧ z.getD j 0 ≤ k * 60
instance (k : Int) (z : List Int) : Decidable (goalP k z) := inferInstanceAs (Decidable (_ ∧ _ ∧ _ ∧ ∀ j, j < z.length → 0 ≤ z.getD j 0 ∧ z.getD j 0 ≤ k * 60))
/-- part i of 2^j numbers each -/
def subL (z : List Int) (j i : Nat) : List Int := (List.range (2 ^ j)).map fun t => z.getD (i * 2 ^ j + t) 0
theorem subL_len (z : List Int) (j i : Nat) : (subL z j i).length = 2 ^ j := by simp [subL]
/-- the sum of the numbers t of a part -/
def sumT (z : List Int) (j i : Nat) : Nat → Int
  | 0 => 0
  | t + 1 => sumT z j i t + z.getD (i * 2 ^ j + t) 0
def sumO (z : List Int) (j i : Nat) : Int := sumT z j i (2 ^ j)
section
variable {ro : List ABlk} {h hp : Heap} {a b v : AVal} {x : List (List Int)} {z : List Int}

theorem mxF_eq {a c : Int} : mxV false a c = min a c := by
  unfold mxV; simp only [Bool.false_eq_true, if_false]; split <;> omega
theorem mxT_eq {a c : Int} : mxV true a c = max a c := by
  unfold mxV; simp only [if_true]; split <;> omega

/-- a part of a goal in memory -/
def IsSub (ro : List ABlk) (h : Heap) (v : AVal) (z : List Int) (j i : Nat) : Prop := IsRow ro h v (subL z j i) ∧ CapO v
theorem IsSub.bel {j i : Nat} (a : IsSub ro h v z j i) : v.bel h.length = true := row_bel a.1
theorem IsSub.len {j i : Nat} (a : IsSub ro h v z j i) : evP .e (.len false (.c v)) = some (.i .i64 ((2 ^ j : Nat) : Int)) := by
  have := len_row a.1
  rwa [subL_len] at this

end
end Go.Proofs.Ytnalgdobglfndaa.T

/- Can: the program's and the reference's. -/
open Go.Vm
set_option linter.unusedVariables false
namespace Go.Proofs.Ytnalgdobglfndaa.T
open Go

section
variable {ro : List ABlk} {h hp : Heap} {a b v : AVal} {x : List (List Int)} {z : List Int}

theorem GV.len {L k : Nat} {zs : List Int} (g : GV hp L 3 1 v k (ints zs)) : evP .e (.len false (.c v)) = some (.i .i64 (k : Int)) := by
  rcases g with ⟨rfl, rfl, -⟩ | ⟨b, blk, rfl, -⟩
  · rfl
  · simp [evP, ev_len, opd, mkI_eq]
end
end Go.Proofs.Ytnalgdobglfndaa.T

/- Can, Guess and Loss: the program's and the reference's. -/
open Go.Vm
set_option linter.unusedVariables false
namespace Go.Proofs.Ytnalgdobglfndaa.T
open Go

section
variable {ro : List ABlk} {h hp : Heap} {a b c v : AVal} {x : List (List Int)} {z y : List Int}

end
end Go.Proofs.Ytnalgdobglfndaa.T

/- The law that compares Can, Guess and Loss. -/
open Go.Vm
set_option linter.unusedVariables false
namespace Go.Proofs.Ytnalgdobglfndaa.T
open Go

section
variable {ro : List ABlk} {h hp : Heap} {a b c v : AVal} {x : List (List Int)} {z y : List Int}

end
end Go.Proofs.Ytnalgdobglfndaa.T

/- Goals whose means are near: room, guess and loss are known; the law about Cover's theorem. -/
open Go.Vm
set_option linter.unusedVariables false
namespace Go.Proofs.Ytnalgdobglfndaa.T
open Go

def nearJ (z : List Int) (j i : Nat) : Prop := sumO z j (2 * i) - sumO z j (2 * i + 1) ≤ 60 * 2 ^ j ∧ sumO z j (2 * i + 1) - sumO z j (2 * i) ≤ 60 * 2 ^ j
instance (z : List Int) (j i : Nat) : Decidable (nearJ z j i) := inferInstanceAs (Decidable (_ ∧ _))
def nearL (z : List Int) (k j : Nat) : Prop := ∀ i, i < 2 ^ (k - 1 - j) → nearJ z j i
instance (z : List Int) (k j : Nat) : Decidable (nearL z k j) := inferInstanceAs (Decidable (∀ i, i < 2 ^ (k - 1 - j) → nearJ z j i))
def nearP (z : List Int) (k : Nat) : Prop := ∀ j, j < k → nearL z k j
instance (z : List Int) (k : Nat) : Decidable (nearP z k) := inferInstanceAs (Decidable (∀ j, j < k → nearL z k j))

section
variable {ro : List ABlk} {h hp : Heap} {a b c v : AVal} {x : List (List Int)} {z y : List Int}

end
end Go.Proofs.Ytnalgdobglfndaa.T

/- Lists of rows that a function makes by append; a row cut; rows of an argument with their room. -/
open Go.Vm
set_option linter.unusedVariables false
namespace Go.Proofs.Ytnalgdobglfndaa.T
open Go

section
variable {ro : List ABlk} {h hp hp' : Heap} {a b v : AVal} {x : List (List Int)} {z : List Int}

end
end Go.Proofs.Ytnalgdobglfndaa.T

/- Series and walks: what fewer foretellers, one alone, and two that always differ come to. -/
open Go.Vm
set_option linter.unusedVariables false
namespace Go.Proofs.Ytnalgdobglfndaa.T
open Go

end Go.Proofs.Ytnalgdobglfndaa.T

/- The law about walks. -/
open Go.Vm
set_option linter.unusedVariables false
namespace Go.Proofs.Ytnalgdobglfndaa.T
open Go

section
variable {ro : List ABlk} {h hp hp' : Heap} {a b v : AVal} {x : List (List Int)} {z : List Int}

theorem keep0 (hp : Heap) : Keep [] hp := ⟨Nat.zero_le _, fun i hi => absurd hi (Nat.not_lt_zero _)⟩
end
end Go.Proofs.Ytnalgdobglfndaa.T

/- The law about walks: the function. -/
open Go.Vm
set_option linter.unusedVariables false
namespace Go.Proofs.Ytnalgdobglfndaa.T
open Go

section
variable {ro : List ABlk} {h hp hp' : Heap} {a b v : AVal} {x : List (List Int)} {z : List Int}

end
end Go.Proofs.Ytnalgdobglfndaa.T

/- An argument that is a list of rows: each with its room. -/
open Go.Vm
set_option linter.unusedVariables false
namespace Go.Proofs.Ytnalgdobglfndaa.T
open Go Go.RowKit Go.Deep Go.WideShapes Go.ChangeShapes

end Go.Proofs.Ytnalgdobglfndaa.T

/- The halver's methods: what it foretells, what it learns. -/
open Go.Vm
set_option linter.unusedVariables false
namespace Go.Proofs.Ytnalgdobglfndaa.T
open Go

/-- how often a foreteller was wrong in the first i rounds -/
def mis (x : List (List Int)) (z : List Int) (f : Nat) : Nat → Nat
  | 0 => 0
  | i + 1 => mis x z f i + (if (nthR x i).getD f 0 ≠ z.getD i 0 then 1 else 0)
def misL (x : List (List Int)) (z : List Int) (n i : Nat) : List Int := (List.range n).map fun f => ((mis x z f i : Nat) : Int)
theorem misL_len (x : List (List Int)) (z : List Int) (n i : Nat) : (misL x z n i).length = n := by simp [misL]
theorem misL_get {x : List (List Int)} {z : List Int} {n i f : Nat} (hf : f < n) : (misL x z n i).getD f 0 = ((mis x z f i : Nat) : Int) := by simp [misL, List.getD, hf]
theorem mis_le (x : List (List Int)) (z : List Int) (f : Nat) : ∀ i, mis x z f i ≤ i
  | 0 => Nat.le_refl _
  | i + 1 => by
    have := mis_le x z f i
    simp only [mis]; split <;> omega
theorem misL_zero (x : List (List Int)) (z : List Int) (n : Nat) : misL x z n 0 = zeros n := by
  refine List.ext_getElem (by simp [misL, zeros]) fun j h1 h2 => by simp [misL, zeros, mis]
/-- the sum of the votes of those that were never wrong -/
def hvN (w row : List Int) : Nat → Int
  | 0 => 0
  | f + 1 => if w.getD f 0 = 0 then hvN w row f + (2 * row.getD f 0 - 1) else hvN w row f
def sideV (n : Int) : Int := if 0 < n then 1 else 0
theorem hv_rng {w row : List Int} {n : Nat} (hb : ∀ f, f < n → bitP (row.getD f 0)) : ∀ f, f ≤ n → -(f : Int) ≤ hvN w row f ∧ hvN w row f ≤ (f : Int)
  | 0, _ => by simp [hvN]
  | f + 1, hf => by
    have h1 := hv_rng (w := w) hb f (by omega)
    have h2 := hb f (by omega)
    unfold bitP at h2
    simp only [hvN]
    split <;> omega
/-- the numbers of mistakes after the first c foretellers -/
def lrn (w row : List Int) (told : Int) (c : Nat) : List Int := (List.range w.length).map fun f => if f < c ∧ row.getD f 0 ≠ told then w.getD f 0 + 1 else w.getD f 0
theorem lrn_len (w row : List Int) (told : Int) (c : Nat) : (lrn w row told c).length = w.length := by simp [lrn]
theorem lrn_get {w row : List Int} {told : Int} {c f : Nat} (hf : f < w.length) : (lrn w row told c).getD f 0 = if f < c ∧ row.getD f 0 ≠ told then w.getD f 0 + 1 else w.getD f 0 := by simp [lrn, List.getD, hf]
theorem lrn_zero (w row : List Int) (told : Int) : lrn w row told 0 = w := by
  refine List.ext_getElem (by simp [lrn]) fun j h1 h2 => ?_
  simp [lrn, List.getD, h2]
theorem lrn_same {w row : List Int} {told : Int} {c : Nat} (he : row.getD c 0 = told) : lrn w row told (c + 1) = lrn w row told c := by
  unfold lrn
  refine List.map_congr_left fun f _ => ?_
  by_cases e : f = c
  · subst e; rw [if_neg (fun hh => hh.2 he), if_neg (fun hh => by omega)]
  · by_cases h : f < c ∧ row.getD f 0 ≠ told
    · rw [if_pos h, if_pos ⟨by omega, h.2⟩]
    · rw [if_neg h, if_neg (fun hh => h ⟨by omega, hh.2⟩)]
theorem lrn_set {w row : List Int} {told : Int} {c : Nat} (hc : c < w.length) (he : row.getD c 0 ≠ told) : (lrn w row told c).set c (w.getD c 0 + 1) = lrn w row told (c + 1) := by
  refine List.ext_getElem (by simp [lrn]) fun j h1 h2 => ?_
  have hj : j < w.length := by simpa [lrn] using h2
  rw [List.getElem_set]
  by_cases e : c = j
  · subst e
    rw [if_pos rfl]
    simp only [lrn, List.getElem_map, List.getElem_range]
    rw [if_pos ⟨by omega, he⟩]
  · rw [if_neg e]
    simp only [lrn, List.getElem_map, List.getElem_range]
    by_cases h : j < c ∧ row.getD j 0 ≠ told
    · rw [if_pos h, if_pos ⟨by omega, h.2⟩]
    · rw [if_neg h, if_neg (fun hh => h ⟨by omega, hh.2⟩)]
theorem misL_next (x : List (List Int)) (z : List Int) (n i : Nat) : lrn (misL x z n i) (nthR x i) (z.getD i 0) n = misL x z n (i + 1) := by
  refine List.ext_getElem (by simp [lrn, misL]) fun j h1 h2 => ?_
  have hj : j < n := by simpa [misL] using h2
  simp only [lrn, misL, List.getElem_map, List.getElem_range, List.length_map, List.length_range]
  have e1 : ((List.range n).map fun f => ((mis x z f i : Nat) : Int)).getD j 0 = ((mis x z j i : Nat) : Int) := misL_get hj
  rw [e1]
  simp only [mis]
  by_cases h : (nthR x i).getD j 0 ≠ z.getD i 0
  · rw [if_pos ⟨hj, h⟩, if_pos h]; omega
  · rw [if_neg (fun hh => h hh.2), if_neg h]; omega

section
variable {ro : List ABlk} {h hp : Heap} {a b u v : AVal} {x : List (List Int)} {z row w : List Int}

theorem vote_ok {n : Int} (hb : bitP n) : callX F1 ro 101 [.i .i64 n] h = some (.i .i64 (2 * n - 1), h, h.length, h.length) := by
  refine g101_ok (meansX_ok F1 ro) rfl ?_
  unfold g101
  unfold bitP at hb
  have w1 : Go.Vm.wr .i64 (2 * n) = 2 * n := wr_id' (by omega) (by omega)
  have w2 : Go.Vm.wr .i64 (2 * n - 1) = 2 * n - 1 := wr_id' (by omega) (by omega)
  simp only [forceI_eq, w1, w2, tupA]
  exact fin_pure rfl
theorem side_ok {n : Int} : callX F1 ro 102 [.i .i64 n] h = some (.i .i64 (sideV n), h, h.length, h.length) := by
  refine g102_ok (meansX_ok F1 ro) rfl ?_
  unfold g102 sideV
  simp only [forceB_eq, ltI_eq]
  by_cases h0 : 0 < n
  · simp only [dT h0, cond_true, if_pos h0, tupA]; exact fin_pure rfl
  · simp only [dF h0, cond_false, if_neg h0, tupA]; exact fin_pure rfl
/-- what a halver foretells -/
theorem foretell_ok {n q : Nat} (hu : IsRow ro hp u row) (hrl : row.length = n) (hb : ∀ f, f < n → bitP (row.getD f 0)) (hn : n ≤ 100) (hw : Holds hp q (ints w)) (hwl : w.length = n) :
    callX F1 ro 99 [.agg [wSl q n], u] hp = some (.i .i64 (sideV (hvN w row n)), hp, hp.length, hp.length) := by
  refine g99_ok (meansX_ok F1 ro) rfl ?_
  unfold g99
  have s1 := bx_ok (ro := ro) (hp := hp) (l := hp.length) (p := hp.length) (vs := [wSl q n]) (n := 1) 71 rfl
  obtain ⟨hb1, eb⟩ : ∃ hb1, hb1 = hp ++ [some (blkOf 71 [wSl q n])] := ⟨_, rfl⟩
  rw [← eb] at s1
  have kp : Keep hp hb1 := by rw [eb]; exact Keep.app _
  have dB : Holds hb1 hp.length [wSl q n] := by rw [eb]; exact Holds.new hp 71 _
  have dW := hw.by kp
  have f1 := dB.one (ro := ro) (l := hp.length) (p := hp.length) (k := 0) (by simp)
  simp only [Nat.zero_add] at f1
  have f1' : ldM ro ⟨hb1, hp.length, hp.length⟩ true 1 (.p (some ⟨false, hp.length, 0⟩)) = some (.sl ⟨false, q, 0⟩ n (.known n)) := f1
  have hloop := loop_run (b := fun s : Int × Int × Mm => g99_b0 (meansX F1 ro) ro (.p (some ⟨false, hp.length, 0⟩)) u row.length s.1 s.2.1 s.2.2) (fun f => (hvN w row f, (f : Int), (⟨hb1, hp.length, hp.length⟩ : Mm))) n (r0 := (hvN w row n, (⟨hb1, hp.length, hp.length⟩ : Mm)))
    (by simp only [g99_b0, hrl, forceB_eq, ltI_eq, lt_no, cond_false])
    (fun f hf => by
      obtain ⟨p1, h1, hld⟩ := at_rowK hu (show f < row.length by omega)
      have h2 := (hld (l := hp.length) (q := hp.length) kp).1
      have g4 := ixS_eq (q := ⟨false, q, 0⟩) (cap := .known n) hf
      have g5 := dW.one (ro := ro) (l := hp.length) (p := hp.length) (k := f) (by rw [ints_len]; omega)
      rw [ints_get (by omega)] at g5
      simp only [Nat.zero_add] at g4 g5
      have hbf := hb f hf
      have hr := hv_rng (w := w) hb f (by omega)
      have cv := cp (F := F1) (l := hp.length) (p := hp.length) (vote_ok (ro := ro) (h := hb1) hbf) kp.1 kp.1
      by_cases h0 : w.getD f 0 = 0
      · have e0 : (w.getD f 0 == 0) = true := by rw [h0]; rfl
        have e1 : hvN w row (f + 1) = hvN w row f + (2 * row.getD f 0 - 1) := by show (if w.getD f 0 = 0 then _ else _) = _; rw [if_pos h0]
        have w1 : Go.Vm.wr .i64 (hvN w row f + (2 * row.getD f 0 - 1)) = hvN w row f + (2 * row.getD f 0 - 1) := by
          unfold bitP at hbf
          exact wr_id' (by omega) (by omega)
        simp only [g99_b0, hrl, forceB_eq, ltI_eq, lt_yes hf, cond_true, h1, h2, bindO_some, asI_i, p_faddr, Nat.zero_add, f1', g4, g5, eqI_eq, e0, meansX_call, cv, bindP_some, forceI_eq, w1, e1]
        rw [wr_next (by omega)]
      · have e0 : (w.getD f 0 == 0) = false := by rw [beq_eq_false_iff_ne]; exact h0
        have e1 : hvN w row (f + 1) = hvN w row f := by show (if w.getD f 0 = 0 then _ else _) = _; rw [if_neg h0]
        simp only [g99_b0, hrl, forceB_eq, ltI_eq, lt_yes hf, cond_true, h1, h2, bindO_some, asI_i, p_faddr, Nat.zero_add, f1', g4, g5, eqI_eq, e0, cond_false, forceI_eq, e1]
        rw [wr_next (by omega)])
  have e0 : ((0 : Nat) : Int) = 0 := rfl
  have e1 : hvN w row 0 = 0 := rfl
  rw [e0, e1] at hloop
  have cs := cp (F := F1) (l := hp.length) (p := hp.length) (side_ok (ro := ro) (h := hb1) (n := hvN w row n)) kp.1 kp.1
  simp only [s1, bindP_some, len_row hu, bindO_some, asI_i, meansX_loop, hloop, meansX_call, cs, tupA]
  exact fin_keep kp rfl
/-- what a halver learns -/
theorem learn_ok {n q : Nat} {say told : Int} (hu : IsRow ro h u row) (kh : Keep h hp) (hqh : h.length ≤ q) (hrl : row.length = n) (hn : n ≤ 100) (hw : Holds hp q (ints w)) (hwl : w.length = n) (hwr : ∀ f, f < n → 0 ≤ w.getD f 0 ∧ w.getD f 0 ≤ 1000) :
    ∃ hp' lw, callX F1 ro 100 [.agg [wSl q n], u, .i .i64 say, .i .i64 told] hp = some (.tup [], hp', lw, hp.length) ∧ q ≤ lw ∧ hp'.length = hp.length ∧ (∀ i, i ≠ q → hp'[i]? = hp[i]?) ∧ Holds hp' q (ints (lrn w row told n)) := by
  have hq := hw.lt
  have s1 := bx_ok (ro := ro) (hp := hp) (l := hp.length) (p := hp.length) (vs := [wSl q n]) (n := 1) 71 rfl
  obtain ⟨hb1, eb⟩ : ∃ hb1, hb1 = hp ++ [some (blkOf 71 [wSl q n])] := ⟨_, rfl⟩
  rw [← eb] at s1
  have kp : Keep hp hb1 := by rw [eb]; exact Keep.app _
  have hbl : hb1.length = hp.length + 1 := by rw [eb]; simp
  have dB : Holds hb1 hp.length [wSl q n] := by rw [eb]; exact Holds.new hp 71 _
  have dW := hw.by kp
  have kh1 := kh.trans kp
  obtain ⟨m', hrun, hp3, lw3, rfl, hlw3, hl3, ho3, hw3⟩ := loop_all (b := fun s : Int × Mm => g100_b0 (meansX F1 ro) ro told (.p (some ⟨false, hp.length, 0⟩)) u row.length s.1 s.2) n
    (fun c m => ∃ hp2 lw2, m = ⟨hp2, lw2, hp.length⟩ ∧ q ≤ lw2 ∧ hp2.length = hb1.length ∧ (∀ i, i ≠ q → hp2[i]? = hb1[i]?) ∧ Holds hp2 q (ints (lrn w row told c)))
    (fun c m hc hI => by
      obtain ⟨hp2, lw2, rfl, hlw2, hl2, ho2, hw2⟩ := hI
      have kp2 : Keep h hp2 := keep_o kh1 hqh hl2 ho2
      obtain ⟨p1, h1, hld⟩ := at_rowK hu (show c < row.length by omega)
      have h2 := (hld (l := lw2) (q := hp.length) kp2).1
      by_cases he : row.getD c 0 = told
      · have e0 : (row.getD c 0 == told) = true := by rw [he]; exact beq_self_eq_true _
        refine ⟨⟨hp2, lw2, hp.length⟩, ?_, hp2, lw2, rfl, hlw2, hl2, ho2, by rw [lrn_same he]; exact hw2⟩
        simp only [g100_b0, hrl, forceB_eq, ltI_eq, lt_yes hc, cond_true, h1, h2, bindO_some, asI_i, eqI_eq, e0, Bool.not_true, cond_false, forceI_eq]
        rw [wr_next (by omega)]
      · have e0 : (row.getD c 0 == told) = false := by rw [beq_eq_false_iff_ne]; exact he
        have dB2 : Holds hp2 hp.length [wSl q n] := dB.keep (ho2 _ (by omega))
        have f1 := dB2.one (ro := ro) (l := lw2) (p := hp.length) (k := 0) (by simp)
        simp only [Nat.zero_add] at f1
        have f1' : ldM ro ⟨hp2, lw2, hp.length⟩ true 1 (.p (some ⟨false, hp.length, 0⟩)) = some (.sl ⟨false, q, 0⟩ n (.known n)) := f1
        have g4 := ixS_eq (q := ⟨false, q, 0⟩) (cap := .known n) hc
        have hul : c < (lrn w row told c).length := by rw [lrn_len]; omega
        have g5 := hw2.one (ro := ro) (l := lw2) (p := hp.length) (k := c) (by rw [ints_len]; exact hul)
        rw [ints_get hul, lrn_get (by omega), if_neg (fun hh => Nat.lt_irrefl c hh.1)] at g5
        have hwc := hwr c hc
        have w1 : Go.Vm.wr .i64 (w.getD c 0 + 1) = w.getD c 0 + 1 := wr_id' (by omega) (by omega)
        obtain ⟨hp3, hst, hw3, hl3, ho3⟩ := hw2.setG (ro := ro) (l := lw2) (p := hp.length) (k := c) (v := .i .i64 (w.getD c 0 + 1)) (by rw [ints_len]; exact hul) rfl rfl rfl
        simp only [Nat.zero_add] at g4 g5 hst
        refine ⟨⟨hp3, min lw2 q, hp.length⟩, ?_, hp3, min lw2 q, rfl, by omega, by omega, fun j hj => by rw [ho3 j hj]; exact ho2 j hj, by rw [ints_set, lrn_set (by omega) he] at hw3; exact hw3⟩
        simp only [g100_b0, hrl, forceB_eq, ltI_eq, lt_yes hc, cond_true, h1, h2, bindO_some, asI_i, eqI_eq, e0, Bool.not_false, p_faddr, Nat.zero_add, f1', g4, g5, forceI_eq, w1, hst, bindP_some]
        rw [wr_next (by omega)])
    (fun m hI => by simp only [g100_b0, hrl, forceB_eq, ltI_eq, lt_no, cond_false]) n 0 ⟨hb1, hp.length, hp.length⟩ (by omega) ⟨hb1, hp.length, rfl, by omega, rfl, fun _ _ => rfl, by rw [lrn_zero]; exact dW⟩
  have e0 : ((0 : Nat) : Int) = 0 := rfl
  rw [e0] at hrun
  have hkeep : ∀ i, i < hp.length → i ≠ q → hp3[i]? = hp[i]? := fun i hi hne => by rw [ho3 i hne]; exact kp.2 i hi
  refine ⟨hp3.take hp.length, lw3, g100_ok (meansX_ok F1 ro) rfl ?_, hlw3, by rw [List.length_take]; omega, fun i hne => ?_, hw3.keep (by rw [List.getElem?_take, if_pos hq])⟩
  · unfold g100
    simp only [s1, bindP_some, len_row (row_by hu kh), bindO_some, asI_i, meansX_loop, hrun, tupA]
    exact fin_take rfl
  · rw [List.getElem?_take]
    by_cases hi : i < hp.length
    · rw [if_pos hi]; exact hkeep i hi hne
    · rw [if_neg hi, List.getElem?_eq_none (by omega)]
end
end Go.Proofs.Ytnalgdobglfndaa.T

/- A program that foretells and learns, round by round. -/
open Go.Vm
set_option linter.unusedVariables false
namespace Go.Proofs.Ytnalgdobglfndaa.T
open Go

abbrev tabF : List MRow := [(71, (99, [])), (74, (103, [])), (75, (99, [(0, (1, false))])), (76, (105, []))]
abbrev tabL : List MRow := [(71, (100, [])), (74, (104, [])), (75, (100, [(0, (1, false))])), (76, (100, [(0, (1, false))]))]
abbrev tabN : List (String × List MRow) := [("Error", [(8, (84, [])), (10, (86, [])), (11, (88, [])), (14, (90, [])), (19, (97, []))]), ("RuntimeError", [(8, (85, [])), (10, (87, [])), (11, (89, [])), (14, (91, [])), (19, (98, []))]), ("dibber/luck.foretell", [(71, (99, [])), (74, (103, [])), (75, (99, [(0, (1, false))])), (76, (105, []))]), ("dibber/luck.learn", [(71, (100, [])), (74, (104, [])), (75, (100, [(0, (1, false))])), (76, (100, [(0, (1, false))]))]), ("String", [(116, (106, []))])]
def sayM (say : Nat → Int) (T i : Nat) : List Int := (List.range T).map fun j => if j < i then say j else 0
theorem sayM_len (say : Nat → Int) (T i : Nat) : (sayM say T i).length = T := by simp [sayM]
theorem sayM_zero (say : Nat → Int) (T : Nat) : sayM say T 0 = zeros T := by
  refine List.ext_getElem (by simp [sayM, zeros]) fun j h1 h2 => by simp [sayM, zeros]
theorem sayM_set {say : Nat → Int} {T i : Nat} (hi : i < T) : (sayM say T i).set i (say i) = sayM say T (i + 1) := by
  refine List.ext_getElem (by simp [sayM]) fun j h1 h2 => ?_
  rw [List.getElem_set]
  by_cases e : i = j
  · subst e; rw [if_pos rfl]; simp [sayM]
  · rw [if_neg e]
    simp only [sayM, List.getElem_map, List.getElem_range]
    by_cases h : j < i
    · rw [if_pos h, if_pos (by omega)]
    · rw [if_neg h, if_neg (by omega)]
theorem sayM_get {say : Nat → Int} {T i j : Nat} (hj : j < T) (hi : j < i) : (sayM say T i).getD j 0 = say j := by simp [sayM, List.getD, hj, hi]

section
variable {ro : List ABlk} {h hp : Heap} {a b u v v0 : AVal} {x : List (List Int)} {z row w : List Int}

/-- a program whose state is a list of numbers in a block -/
theorem listen_ok {n q T : Nat} {say : Nat → Int} {st : Nat → List Int} (ha : IsMat ro h a x) (hb : IsRow ro h b z) (kh : Keep h hp) (hqh : h.length ≤ q) (hT : x.length = T) (hz : z.length = T) (hT2 : T ≤ 200) (hw : Holds hp q (ints (st 0)))
    (hF : ∀ i, i < T → ∀ (hp' : Heap) (u : AVal), IsRow ro hp' u (nthR x i) → Holds hp' q (ints (st i)) → ∃ f r, mget tabF v0 = some (f, r) ∧ callX F1 ro f [r, u] hp' = some (.i .i64 (say i), hp', hp'.length, hp'.length))
    (hLn : ∀ i, i < T → ∀ (hp' : Heap) (u : AVal), IsRow ro h u (nthR x i) → Keep h hp' → Holds hp' q (ints (st i)) → ∃ f r hp'' lw, mget tabL v0 = some (f, r) ∧ callX F1 ro f [r, u, .i .i64 (say i), .i .i64 (z.getD i 0)] hp' = some (.tup [], hp'', lw, hp'.length) ∧ q ≤ lw ∧ hp''.length = hp'.length ∧ (∀ j, j ≠ q → hp''[j]? = hp'[j]?) ∧ Holds hp'' q (ints (st (i + 1))))
    (hN : evP .e (.nilm tabN (.c (.bm "dibber/luck.learn" v0))) = some (.bm "dibber/luck.learn" v0)) :
    ∃ hp' lw, callX F1 ro 50 [v0, a, b] hp = some (wSl hp.length T, hp', lw, hp.length) ∧ q ≤ lw ∧ hp'.length = hp.length + 1 ∧ (∀ i, i ≠ q → i ≠ hp.length → hp'[i]? = hp[i]?) ∧ Holds hp' q (ints (st T)) ∧ Holds hp' hp.length (ints (sayM say T T)) := by
  have hq := hw.lt
  obtain ⟨hb1, eb⟩ : ∃ hb1, hb1 = hp ++ [some (newBlk 3 (.i .i64 0) T)] := ⟨_, rfl⟩
  have kp : Keep hp hb1 := by rw [eb]; exact Keep.app _
  have hbl : hb1.length = hp.length + 1 := by rw [eb]; simp
  have hnew : ∀ j, j ≠ hp.length → hb1[j]? = hp[j]? := fun j hj => by
    by_cases hlt : j < hp.length
    · exact kp.2 j hlt
    · rw [List.getElem?_eq_none (by omega), List.getElem?_eq_none (by omega)]
  have dS : Holds hb1 hp.length (ints (zeros T)) := by rw [eb]; exact newInts hp T
  obtain ⟨m', hrun, hp3, lw3, rfl, hlw3, hlw3', hl3, ho3, hw3, hs3⟩ := loop_all (b := fun s : Int × Mm => g50_b0 (meansX F1 ro) ro v0 b (wSl hp.length T) a (T : Int) s.1 s.2) T
    (fun i m => ∃ hp2 lw2, m = ⟨hp2, lw2, hp.length⟩ ∧ q ≤ lw2 ∧ lw2 ≤ hp.length ∧ hp2.length = hp.length + 1 ∧ (∀ j, j ≠ q → j ≠ hp.length → hp2[j]? = hp[j]?) ∧ Holds hp2 q (ints (st i)) ∧ Holds hp2 hp.length (ints (sayM say T i)))
    (fun i m hi hI => by
      obtain ⟨hp2, lw2, rfl, hlw2, hlw2', hl2, ho2, hw2, hs2⟩ := hI
      have kp2 : Keep h hp2 := ⟨by have := kh.1; omega, fun j hj => by rw [ho2 j (by omega) (by have := kh.1; omega)]; exact kh.2 j hj⟩
      obtain ⟨p1, u, e1, eld, hu⟩ := at_matK ha (show i < x.length by omega)
      have e2 := (eld (l := lw2) (q := hp.length) kp2).1
      obtain ⟨f, r, hm1, hc1⟩ := hF i hi hp2 u (row_by hu kp2) hw2
      have c1 := callM_pure (l := lw2) (p := hp.length) hc1 (by omega) (by omega)
      have g4 := ixS_eq (q := ⟨false, hp.length, 0⟩) (cap := .known T) hi
      obtain ⟨hp4, hst, hs4, hl4, ho4⟩ := hs2.setG (ro := ro) (l := lw2) (p := hp.length) (k := i) (v := .i .i64 (say i)) (by rw [ints_len, sayM_len]; exact hi) rfl rfl rfl
      rw [ints_set, sayM_set hi] at hs4
      have hw4 : Holds hp4 q (ints (st i)) := hw2.keep (ho4 q (by omega))
      have kp4 : Keep h hp4 := ⟨by have := kh.1; omega, fun j hj => by rw [ho4 j (by have := kh.1; omega)]; exact kp2.2 j hj⟩
      obtain ⟨p2, e3, eld2⟩ := at_rowK hb (show i < z.length by omega)
      have e4 := (eld2 (l := 0) (q := 0) kp4).2
      have g5 := hs4.oneA (ro := ro) (k := i) (by rw [ints_len, sayM_len]; exact hi)
      rw [ints_get (by rw [sayM_len]; exact hi), sayM_get hi (by omega)] at g5
      obtain ⟨f', r', hp5, lw5, hm2, hc2, q1, q2, q3, q4⟩ := hLn i hi hp4 u hu kp4 hw4
      have c2 := callM_eq (call := callX F1 ro) (m := ⟨hp4, min lw2 hp.length, hp.length⟩) hc2
      have hp45 : min hp.length hp4.length = hp.length := by omega
      rw [hp45] at c2
      simp only [Nat.zero_add] at g4 g5 hst
      refine ⟨⟨hp5, min (min lw2 hp.length) lw5, hp.length⟩, ?_, hp5, min (min lw2 hp.length) lw5, rfl, by omega, by omega, by omega, fun j h1 h2 => by rw [q3 j h1, ho4 j h2, ho2 j h1 h2], q4, hs4.keep (q3 _ (by omega))⟩
      simp only [g50_b0, forceB_eq, ltI_eq, lt_yes hi, cond_true, e1, e2, bindO_some, calliM, hm1, meansX_call, c1, bindP_some, asI_i, g4, hst, e3, hN, g5, e4, hm2, c2, forceI_eq]
      rw [wr_next (by omega)])
    (fun m hI => by simp only [g50_b0, forceB_eq, ltI_eq, lt_no, cond_false]) T 0 ⟨hb1, hp.length, hp.length⟩ (by omega) ⟨hb1, hp.length, rfl, by omega, Nat.le_refl _, hbl, (fun j _ h2 => hnew j h2), hw.by kp, by rw [sayM_zero]; exact dS⟩
  have e0 : ((0 : Nat) : Int) = 0 := rfl
  rw [e0] at hrun
  refine ⟨hp3, lw3, g50_ok (meansX_ok F1 ro) rfl ?_, hlw3, hl3, ho3, hw3, hs3⟩
  unfold g50
  have s1 := mk_ok (ro := ro) (hp := hp) (l := hp.length) (p := hp.length) (e := 3) (es := 1) (bytes := 8) (v := .i .i64 0) (n := T) (by omega) (by omega)
  rw [← eb] at s1
  have hl := len_mat (mat_by ha kh)
  rw [hT] at hl
  have hbel : (wSl hp.length T).bel hp.length = false := by
    have : Nat.blt hp.length hp.length = false := by rw [Bool.eq_false_iff]; simp [Nat.blt_eq]
    simp [AVal.bel, this]
  simp only [hl, bindO_some, asI_i, s1, bindP_some, meansX_loop, hrun, tupA]
  exact fin_out hbel
end
end Go.Proofs.Ytnalgdobglfndaa.T

/- Halving: the program and the reference answer the same. -/
open Go.Vm
set_option linter.unusedVariables false
namespace Go.Proofs.Ytnalgdobglfndaa.T
open Go

def hsay (x : List (List Int)) (z : List Int) (n i : Nat) : Int := sideV (hvN (misL x z n i) (nthR x i) n)
/-- what Halving answers -/
def halfR (n : Int) (x : List (List Int)) (z : List Int) : List Int × Int :=
  if recE n x z ≠ 0 then ([], recE n x z) else (sayM (hsay x z n.toNat) x.length x.length, 0)
theorem rec_facts {n : Int} {x : List (List Int)} {z : List Int} (h : recE n x z = 0) : ∃ N : Nat, n = (N : Int) ∧ 1 ≤ N ∧ N ≤ 20 ∧ x.length ≤ 200 ∧ (∀ i, i < x.length → bitsP (nthR x i) ∧ (nthR x i).length = N) ∧ bitsP z ∧ z.length = x.length := by
  unfold recE at h
  split at h
  · cases h
  split at h
  · cases h
  split at h
  · rename_i h1 h2 h3
    refine ⟨n.toNat, by omega, by omega, by omega, by omega, fun i hi => ?_, h3.2.1, ?_⟩
    · have := h3.1.1 i hi
      exact ⟨this.1, by have := this.2; omega⟩
    · have := h3.2.2; omega
  · cases h
/-- how many of those that were never wrong say 1, how many say 0 -/
def pN (w row : List Int) : Nat → Int
  | 0 => 0
  | f + 1 => if w.getD f 0 = 0 then pN w row f + row.getD f 0 else pN w row f
def qN (w row : List Int) : Nat → Int
  | 0 => 0
  | f + 1 => if w.getD f 0 = 0 then qN w row f + (1 - row.getD f 0) else qN w row f
theorem pq_hv (w row : List Int) : ∀ f, hvN w row f = pN w row f - qN w row f
  | 0 => rfl
  | f + 1 => by
    have := pq_hv w row f
    simp only [hvN, pN, qN]
    split <;> omega
theorem pq_rng {w row : List Int} {n : Nat} (hb : ∀ f, f < n → bitP (row.getD f 0)) : ∀ f, f ≤ n → 0 ≤ pN w row f ∧ pN w row f ≤ (f : Int) ∧ 0 ≤ qN w row f ∧ qN w row f ≤ (f : Int)
  | 0, _ => by simp [pN, qN]
  | f + 1, hf => by
    have h1 := pq_rng (w := w) hb f (by omega)
    have h2 := hb f (by omega)
    unfold bitP at h2
    simp only [pN, qN]
    split <;> omega
section
variable {ro : List ABlk} {h hp : Heap} {a b u v v0 : AVal} {x : List (List Int)} {z row w : List Int}

theorem err_bel (e : Int) (L : Nat) : (AVal.tup (.nsl :: [.i .i64 e])).bel L = true := nil_bel [e] L
theorem Halving_ok {n : Int} (ha : IsMat ro h a x) (hl : LenOk x) (hb : IsRow ro h b z) (hz : z.length ≤ 9223372036854775807) : RetL ro h 18 [.i .i64 n, a, b] (halfR n x z).1 [.i .i64 (halfR n x z).2] := by
  unfold RetL
  suffices hs : ∃ v h', g18 (meansX F1 ro) ro n a b ⟨h, h.length, h.length⟩ = some (.tup (v :: [.i .i64 (halfR n x z).2]), h', h.length, h.length) ∧ Keep h h' ∧ IsRow ro h' v (halfR n x z).1 ∧ (halfR n x z).1.length ≤ 1000 by
    obtain ⟨v, h', h1, h2⟩ := hs
    exact ⟨v, h', g18_ok (meansX_ok F1 ro) rfl h1, h2⟩
  unfold g18
  simp only [meansX_call, cp0 (checkRecord_ok (n := n) ha hl hb hz), bindP_some, asI_i, forceB_eq, eqI_eq]
  by_cases hr : recE n x z = 0
  case neg =>
    have e : (!(recE n x z == 0)) = true := by simpa using hr
    have e2 : halfR n x z = ([], recE n x z) := by unfold halfR; rw [if_pos hr]
    rw [e2]
    simp only [e, cond_true, tupA]
    exact ⟨.nsl, h, fin_pure (err_bel _ _), Keep.refl h, .inl ⟨rfl, rfl⟩, by simp⟩
  obtain ⟨N, rfl, hN1, hN2, hT, hrows, hzb, hzl⟩ := rec_facts hr
  have e : (!(recE (N : Int) x z == 0)) = false := by rw [hr]; rfl
  have e2 : halfR (N : Int) x z = (sayM (hsay x z N) x.length x.length, 0) := by unfold halfR; rw [if_neg (by simpa using hr)]; rfl
  rw [e2]
  obtain ⟨hb1, eb⟩ : ∃ hb1, hb1 = h ++ [some (newBlk 3 (.i .i64 0) N)] := ⟨_, rfl⟩
  have kp : Keep h hb1 := by rw [eb]; exact Keep.app _
  have hbl : hb1.length = h.length + 1 := by rw [eb]; simp
  have dS : Holds hb1 h.length (ints (misL x z N 0)) := by rw [eb, misL_zero]; exact newInts h N
  have s1 := mk_ok (ro := ro) (hp := h) (l := h.length) (p := h.length) (e := 3) (es := 1) (bytes := 8) (v := .i .i64 0) (n := N) (by omega) (by omega)
  rw [← eb] at s1
  obtain ⟨hp', lw, c1, q1, q2, q3, q4, q5⟩ := listen_ok (ro := ro) (h := h) (hp := hb1) (v0 := .ifc 71 (.agg [wSl h.length N])) (n := N) (q := h.length) (T := x.length) (say := hsay x z N) (st := misL x z N) ha hb kp (Nat.le_refl _) rfl hzl hT dS
    (fun i hi hp' u hu hw => ⟨99, .agg [wSl h.length N], rfl, foretell_ok hu (hrows i hi).2 (fun f hf => (hrows i hi).1 f (by have := (hrows i hi).2; omega)) (by omega) hw (misL_len _ _ _ _)⟩)
    (fun i hi hp' u hu kh hw => by
      obtain ⟨hp'', lw, c, r1, r2, r3, r4⟩ := learn_ok (ro := ro) (h := h) (say := hsay x z N i) (told := z.getD i 0) hu kh (Nat.le_refl _) (hrows i hi).2 (by omega) hw (misL_len _ _ _ _) (fun f hf => by rw [misL_get hf]; have := mis_le x z f i; omega)
      rw [misL_next] at r4
      exact ⟨100, .agg [wSl h.length N], hp'', lw, rfl, c, r1, r2, r3, r4⟩)
    rfl
  have c2 := callM_eq (call := callX F1 ro) (m := ⟨hb1, h.length, h.length⟩) c1
  have m1 : min h.length lw = h.length := by omega
  have m2 : min h.length hb1.length = h.length := by omega
  rw [m1, m2] at c2
  have kp' : Keep h hp' := ⟨by omega, fun j hj => by rw [q3 j (by omega) (by omega)]; exact kp.2 j hj⟩
  have fl : (fillA [AVal.nsl] [((0, 1), wSl h.length N)]).map AVal.agg = some (.agg [wSl h.length N]) := rfl
  simp only [e, cond_false, s1, bindP_some, fl, bindO_some, c2, tupA]
  exact ⟨_, hp', fin_out (sl_nb (by omega)), kp', holds_ints q5 (sayM_len _ _ _), by rw [sayM_len]; omega⟩

end
end Go.Proofs.Ytnalgdobglfndaa.T

/- slices.Repeat of one number; the product of two small numbers in two words. -/
open Go.Vm
set_option linter.unusedVariables false
namespace Go.Proofs.Ytnalgdobglfndaa.T
open Go

section
variable {ro : List ABlk} {h hp : Heap} {a b u v v0 : AVal} {x : List (List Int)} {z row w vs ws : List Int}

end
end Go.Proofs.Ytnalgdobglfndaa.T

/- Winnow: the program and the reference answer the same. -/
open Go.Vm
set_option linter.unusedVariables false
namespace Go.Proofs.Ytnalgdobglfndaa.T
open Go

section
variable {ro : List ABlk} {h hp : Heap} {a b u v v0 : AVal} {x : List (List Int)} {z row w : List Int}

end
end Go.Proofs.Ytnalgdobglfndaa.T

/- Winnow by the reference. -/
open Go.Vm
set_option linter.unusedVariables false
namespace Go.Proofs.Ytnalgdobglfndaa.T
open Go

section
variable {ro : List ABlk} {h hp : Heap} {a b u v v0 : AVal} {x : List (List Int)} {z row w : List Int}

end
end Go.Proofs.Ytnalgdobglfndaa.T

/- A list of rows copied . -/
open Go.Vm
set_option linter.unusedVariables false
namespace Go.Proofs.Ytnalgdobglfndaa.T
open Go

section
variable {ro : List ABlk} {h hp hp' : Heap} {a b u v v0 : AVal} {x : List (List Int)} {z row w : List Int}

end
end Go.Proofs.Ytnalgdobglfndaa.T

/- The law about halving and winnowing. -/
open Go.Vm
set_option linter.unusedVariables false
namespace Go.Proofs.Ytnalgdobglfndaa.T
open Go
section
variable {ro : List ABlk} {h hp hp' : Heap} {a b u v v0 : AVal} {x : List (List Int)} {z row w : List Int}
theorem cond_of {β : Type} {c : Bool} {A B : Option β} (h : c = false) : cond c A B = B := by rw [h]; rfl
theorem bindP_of {β : Type} {o : Option (AVal × Mm)} {v : AVal} {m : Mm} {f : AVal → Mm → Option β} (h : o = some (v, m)) : bindP o f = f v m := by rw [h]; rfl
theorem bindO_of {α β : Type} {o : Option α} {v : α} {f : α → Option β} (h : o = some v) : bindO o f = f v := by rw [h]; rfl
theorem asB_of {β : Type} {c : Bool} {k : Bool → Option β} : asB (.b c) k = k c := rfl
theorem asI_of {β : Type} {n : Int} {k : Int → Option β} : asI .i64 (.i .i64 n) k = k n := rfl
theorem forceB_of {β : Type} {c : Bool} {k : Bool → Option β} : forceB c k = k c := forceB_eq ..
end
end Go.Proofs.Ytnalgdobglfndaa.T

/- Weighing: the weigher's methods, the program. -/
open Go.Vm
set_option linter.unusedVariables false
namespace Go.Proofs.Ytnalgdobglfndaa.T
open Go

/-- the votes by the number of mistakes, after the first c foretellers -/
def vtL (w row : List Int) : Nat → List Int
  | 0 => zeros 200
  | c + 1 => (vtL w row c).set (w.getD c 0).toNat (wr .i64 ((vtL w row c).getD (w.getD c 0).toNat 0 + (2 * row.getD c 0 - 1)))
theorem vtL_len (w row : List Int) : ∀ c, (vtL w row c).length = 200
  | 0 => zeros_len 200
  | c + 1 => by simp only [vtL, List.length_set, vtL_len w row c]
def accV (vs : List Int) : Nat → Int
  | 0 => 0
  | t + 1 => wr .i64 (wr .i64 (2 * accV vs t) + vs.getD t 0)
def stopV (vs : List Int) (n : Nat) (t : Nat) : Option Int := if (n : Int) < max (accV vs (t + 1)) (wr .i64 (0 - accV vs (t + 1))) then some (accV vs (t + 1)) else none
def weighV (w row : List Int) (n : Nat) : Int := sideV ((firstS (stopV (vtL w row n) n) 200 0).getD (accV (vtL w row n) 200))
def vsay (x : List (List Int)) (z : List Int) (n i : Nat) : Int := weighV (misL x z n i) (nthR x i) n

section
variable {ro : List ABlk} {h hp : Heap} {a b u v v0 : AVal} {x : List (List Int)} {z row w : List Int}

set_option maxRecDepth 100000 in
theorem vforetell_ok {n q : Nat} (hu : IsRow ro hp u row) (hrl : row.length = n) (hb : ∀ f, f < n → bitP (row.getD f 0)) (hn : n ≤ 100) (hw : Holds hp q (ints w)) (hwl : w.length = n) (hwr : ∀ f, f < n → 0 ≤ w.getD f 0 ∧ w.getD f 0 < 200) :
    callX F1 ro 105 [.agg [wSl q n], u] hp = some (.i .i64 (weighV w row n), hp, hp.length, hp.length) := by
  refine g105_ok (meansX_ok F1 ro) rfl ?_
  have s1 : stepM ro ⟨hp, hp.length, hp.length⟩ (.bx 76 1 (.c (.agg [wSl q n]))) = some (.p (some ⟨false, hp.length, 0⟩), ⟨hp ++ [some (blkOf 76 [wSl q n])], hp.length, hp.length⟩) := rfl
  obtain ⟨hb1, eb⟩ : ∃ hb1, hb1 = hp ++ [some (blkOf 76 [wSl q n])] := ⟨_, rfl⟩
  rw [← eb] at s1
  have kp : Keep hp hb1 := by rw [eb]; exact Keep.app _
  have hbl : hb1.length = hp.length + 1 := by rw [eb]; simp
  have dB : Holds hb1 hp.length [wSl q n] := by rw [eb]; exact Holds.new hp 76 _
  obtain ⟨hc1, ec⟩ : ∃ hc1, hc1 = hb1 ++ [some (blkOf 124 (ints (zeros 200)))] := ⟨_, rfl⟩
  have kc : Keep hb1 hc1 := by rw [ec]; exact Keep.app _
  have hcl : hc1.length = hp.length + 2 := by rw [ec]; simp; omega
  have dV : Holds hc1 (hp.length + 1) (ints (zeros 200)) := by rw [ec, ← hbl]; exact Holds.new hb1 124 _
  have hq := hw.lt
  obtain ⟨m', hrun, hp3, rfl, hl3, ho3, hv3⟩ := loop_all (b := fun s : Int × Mm => g105_b0 (meansX F1 ro) ro u (.p (some ⟨false, hp.length, 0⟩)) (.p (some ⟨false, hp.length + 1, 0⟩)) row.length s.1 s.2) n
    (fun c m => ∃ hp2, m = ⟨hp2, hp.length, hp.length⟩ ∧ hp2.length = hc1.length ∧ (∀ i, i ≠ hp.length + 1 → hp2[i]? = hc1[i]?) ∧ Holds hp2 (hp.length + 1) (ints (vtL w row c)))
    (fun c m hc hI => by
      obtain ⟨hp2, rfl, hl2, ho2, hv2⟩ := hI
      have kp2 : Keep hp hp2 := ⟨by omega, fun j hj => by rw [ho2 j (by omega), kc.2 j (by omega)]; exact kp.2 j hj⟩
      obtain ⟨p1, h1, hld⟩ := at_rowK hu (show c < row.length by omega)
      have h2 := (hld (l := hp.length) (q := hp.length) kp2).1
      have dB2 : Holds hp2 hp.length [wSl q n] := (dB.by kc).keep (ho2 _ (by omega))
      have f1 := dB2.oneA (ro := ro) (k := 0) (by simp)
      have dW := hw.by kp2
      have g4 := ixS_eq (q := ⟨false, q, 0⟩) (cap := .known n) hc
      have g5 := dW.oneA (ro := ro) (k := c) (by rw [ints_len]; omega)
      rw [ints_get (by omega)] at g5
      simp only [Nat.zero_add] at f1 g4 g5
      have f1' : ldA ro hp2 true 1 (.p (some ⟨false, hp.length, 0⟩)) = some (.sl ⟨false, q, 0⟩ n (.known n)) := f1
      obtain ⟨hw0, hw1⟩ := hwr c hc
      have g6 := p_ixA (r := false) (b := hp.length + 1) (o := 0) (len := 200) (es := 1) (x := w.getD c 0) (i := (w.getD c 0).toNat) (by omega) (by omega)
      have g7 := hv2.oneA (ro := ro) (k := (w.getD c 0).toNat) (by rw [ints_len, vtL_len]; omega)
      rw [ints_get (by rw [vtL_len]; omega)] at g7
      have cv := callN_pure (call := callX F1 ro) (h := hp2) (vote_ok (ro := ro) (h := hp2) (hb c hc)) rfl rfl
      obtain ⟨hp4, hwt, hv4, hl4, ho4⟩ := hv2.wrG (ro := ro) (l := hp.length) (p := hp.length) (k := (w.getD c 0).toNat) (v := .i .i64 (Go.Vm.wr .i64 ((vtL w row c).getD (w.getD c 0).toNat 0 + (2 * row.getD c 0 - 1)))) (by rw [ints_len, vtL_len]; omega) rfl rfl rfl
      rw [show min hp.length (hp.length + 1) = hp.length by omega] at hwt
      rw [ints_set] at hv4
      simp only [Nat.zero_add, Nat.mul_one] at g6 g7 hwt
      refine ⟨⟨hp4, hp.length, hp.length⟩, ?_, hp4, rfl, by omega, fun j hj => by rw [ho4 j hj]; exact ho2 j hj, hv4⟩
      simp only [g105_b0, hrl, forceB_eq, ltI_eq, lt_yes hc, cond_true, h1, h2, bindO_some, asI_i, p_faddr, Nat.zero_add, f1', g4, g5, g6, g7, meansX_call, cv, forceI_eq, asP_p, hwt]
      rw [wr_next (by omega)])
    (fun m hI => by simp only [g105_b0, hrl, forceB_eq, ltI_eq, lt_no, cond_false]) n 0 ⟨hc1, hp.length, hp.length⟩ (by omega) ⟨hc1, rfl, rfl, fun _ _ => rfl, dV⟩
  have e0 : ((0 : Nat) : Int) = 0 := rfl
  rw [e0] at hrun
  have kp3 : Keep hp hp3 := ⟨by omega, fun j hj => by rw [ho3 j (by omega), kc.2 j (by omega)]; exact kp.2 j hj⟩
  have hall := hv3.all (ro := ro) (l := hp.length) (p := hp.length) (n := 200) (by rw [ints_len, vtL_len])
  obtain ⟨vs, evs⟩ : ∃ vs, vs = vtL w row n := ⟨_, rfl⟩
  have hvl : vs.length = 200 := by rw [evs]; exact vtL_len _ _ _
  rw [← evs] at hall
  have hloop := loop_st (b := fun s : Int × Int => g105_b1 (meansX F1 ro) ro u (.agg (ints vs)) ⟨hp3, hp.length, hp.length⟩ s.1 s.2) (fun t => (accV vs t, (t : Int))) 200 (stopV vs n) (accV vs 200)
    (by simp only [g105_b1, forceB_eq, ltI_eq, show decide (((200 : Nat) : Int) < 200) = false from rfl, cond_false])
    (fun t ht => by
      have e1 : evP .e (.ixV 200 1 true (.c (.agg (ints vs))) (.c (.i .i64 (t : Int)))) = some (.i .i64 (vs.getD t 0)) := by
        have hblt : Nat.blt t 200 = true := by rw [Nat.blt_eq]; exact ht
        have en : ((t : Nat) : Int) = Int.ofNat t := rfl
        have hg : lget (ints vs) (t * 1) = some (.i .i64 (vs.getD t 0)) := by
          rw [Nat.mul_one, lget_eq]
          have := ints_get (w := vs) (j := t) (by omega)
          rw [List.getD_eq_getElem?_getD, List.getElem?_eq_getElem (by rw [ints_len]; omega)] at this
          rw [List.getElem?_eq_getElem (by rw [ints_len]; omega)]
          exact congrArg some this
        simp only [evP, ev_ixV, opd, en, hblt, cond_true, partA, if_true, hg]
      have hlt : decide ((t : Int) < 200) = true := dT (by omega)
      have hlen := len_row (row_by hu kp3)
      rw [hrl] at hlen
      have ea : accV vs (t + 1) = Go.Vm.wr .i64 (Go.Vm.wr .i64 (2 * accV vs t) + vs.getD t 0) := rfl
      simp only [g105_b1, forceB_eq, ltI_eq, hlt, cond_true, e1, bindO_some, asI_i, forceI_eq, mxT_eq, hlen, ← ea]
      unfold stopV
      by_cases hs : (n : Int) < max (accV vs (t + 1)) (Go.Vm.wr .i64 (0 - accV vs (t + 1)))
      · rw [if_pos hs, dT hs]; rfl
      · rw [if_neg hs, dF hs]
        simp only [cond_false]
        rw [wr_next (by omega)]) 200 0 rfl
  have hloop' : loopX (fun s : Int × Int => g105_b1 (meansX F1 ro) ro u (.agg (ints vs)) ⟨hp3, hp.length, hp.length⟩ s.1 s.2) (0, 0) = _ := hloop
  have cs := cp (F := F1) (l := hp.length) (p := hp.length) (side_ok (ro := ro) (h := hp3) (n := (firstS (stopV vs n) 200 0).getD (accV vs 200))) kp3.1 kp3.1
  unfold g105
  refine (bindP_of s1).trans ?_
  refine (bindP_of (show stepM ro ⟨hb1, hp.length, hp.length⟩ (.al 124 _) = some (.p (some ⟨false, hp.length + 1, 0⟩), ⟨hc1, hp.length, hp.length⟩) by rw [ec, ← hbl]; rfl)).trans ?_
  refine (bindO_of (len_row hu)).trans ?_
  refine asI_of.trans ?_
  refine (bindO_of hrun).trans ?_
  refine (bindO_of hall).trans ?_
  refine (bindO_of hloop').trans ?_
  refine (bindP_of cs).trans ?_
  refine asI_of.trans ?_
  unfold weighV
  rw [← evs]
  exact fin_keep kp3 rfl
end
end Go.Proofs.Ytnalgdobglfndaa.T

/- Weighing and the best expert; how often a halver can be wrong where one is never wrong. -/
open Go.Vm
set_option linter.unusedVariables false
namespace Go.Proofs.Ytnalgdobglfndaa.T
open Go

def mnL (w : List Int) : Nat → Int
  | 0 => w.getD 0 0
  | t + 1 => min (mnL w t) (w.getD (t + 1) 0)
theorem mnL_mem (w : List Int) : ∀ t, ∃ j, j ≤ t ∧ mnL w t = w.getD j 0
  | 0 => ⟨0, Nat.le_refl _, rfl⟩
  | t + 1 => by
    obtain ⟨j, h1, h2⟩ := mnL_mem w t
    by_cases h : mnL w t ≤ w.getD (t + 1) 0
    · exact ⟨j, by omega, by simp only [mnL]; rw [Int.min_eq_left h]; exact h2⟩
    · exact ⟨t + 1, Nat.le_refl _, by simp only [mnL]; rw [Int.min_eq_right (by omega)]⟩
/-- how often two lists differ -/
def wrN (y z : List Int) : Nat → Nat
  | 0 => 0
  | i + 1 => wrN y z i + (if y.getD i 0 ≠ z.getD i 0 then 1 else 0)
theorem wrN_le (y z : List Int) : ∀ i, wrN y z i ≤ i
  | 0 => Nat.le_refl _
  | i + 1 => by
    have := wrN_le y z i
    simp only [wrN]; split <;> omega
/-- how many of the first f were never wrong -/
def cntF (x : List (List Int)) (z : List Int) (i : Nat) : Nat → Nat
  | 0 => 0
  | f + 1 => cntF x z i f + (if mis x z f i = 0 then 1 else 0)
theorem cnt_zero (x : List (List Int)) (z : List Int) : ∀ f, cntF x z 0 f = f
  | 0 => rfl
  | f + 1 => by simp [cntF, cnt_zero x z f, mis]
theorem cnt_pos {x : List (List Int)} {z : List Int} {i g : Nat} (hg : mis x z g i = 0) : ∀ f, g < f → 0 < cntF x z i f
  | 0, h => by omega
  | f + 1, h => by
    simp only [cntF]
    by_cases e : g = f
    · subst e; rw [if_pos hg]; omega
    · have := cnt_pos hg f (by omega)
      omega
theorem cnt_sum {x : List (List Int)} {z : List Int} {i n : Nat} : ∀ f, f ≤ n → ((cntF x z i f : Nat) : Int) = pN (misL x z n i) (nthR x i) f + qN (misL x z n i) (nthR x i) f
  | 0, _ => rfl
  | f + 1, hf => by
    have ih := cnt_sum (x := x) (z := z) (i := i) f (show f ≤ n by omega)
    have hm := misL_get (x := x) (z := z) (i := i) (show f < n by omega)
    simp only [cntF, pN, qN, hm]
    by_cases h0 : mis x z f i = 0
    · rw [if_pos h0, if_pos (by omega), if_pos (by omega)]; omega
    · rw [if_neg h0, if_neg (by omega), if_neg (by omega)]; omega
theorem cnt_next {x : List (List Int)} {z : List Int} {i n : Nat} (hb : ∀ f, f < n → bitP ((nthR x i).getD f 0)) (hz : bitP (z.getD i 0)) : ∀ f, f ≤ n → ((cntF x z (i + 1) f : Nat) : Int) = if z.getD i 0 = 1 then pN (misL x z n i) (nthR x i) f else qN (misL x z n i) (nthR x i) f
  | 0, _ => by split <;> rfl
  | f + 1, hf => by
    have ih := cnt_next hb hz f (show f ≤ n by omega)
    have hm := misL_get (x := x) (z := z) (i := i) (show f < n by omega)
    have hbf := hb f (by omega)
    unfold bitP at hbf hz
    have hnx : mis x z f (i + 1) = 0 ↔ mis x z f i = 0 ∧ (nthR x i).getD f 0 = z.getD i 0 := by
      have e : mis x z f (i + 1) = mis x z f i + (if (nthR x i).getD f 0 ≠ z.getD i 0 then 1 else 0) := rfl
      rw [e]
      by_cases hr : (nthR x i).getD f 0 = z.getD i 0
      · rw [if_neg (by simpa using hr)]; exact ⟨fun h => ⟨h, hr⟩, fun h => h.1⟩
      · rw [if_pos hr]; exact ⟨fun h => by omega, fun h => absurd h.2 hr⟩
    have ec : cntF x z (i + 1) (f + 1) = cntF x z (i + 1) f + (if mis x z f (i + 1) = 0 then 1 else 0) := rfl
    have ep : pN (misL x z n i) (nthR x i) (f + 1) = if (misL x z n i).getD f 0 = 0 then pN (misL x z n i) (nthR x i) f + (nthR x i).getD f 0 else pN (misL x z n i) (nthR x i) f := rfl
    have eq : qN (misL x z n i) (nthR x i) (f + 1) = if (misL x z n i).getD f 0 = 0 then qN (misL x z n i) (nthR x i) f + (1 - (nthR x i).getD f 0) else qN (misL x z n i) (nthR x i) f := rfl
    rw [hm] at ep eq
    rw [ec]
    by_cases h0 : mis x z f i = 0
    · rw [if_pos (show ((mis x z f i : Nat) : Int) = 0 by omega)] at ep eq
      by_cases hr : (nthR x i).getD f 0 = z.getD i 0
      · rw [if_pos (hnx.2 ⟨h0, hr⟩)]
        by_cases hz1 : z.getD i 0 = 1
        · rw [if_pos hz1] at ih ⊢; omega
        · rw [if_neg hz1] at ih ⊢; omega
      · rw [if_neg (fun hh => hr (hnx.1 hh).2)]
        by_cases hz1 : z.getD i 0 = 1
        · rw [if_pos hz1] at ih ⊢; omega
        · rw [if_neg hz1] at ih ⊢; omega
    · rw [if_neg (show ¬ ((mis x z f i : Nat) : Int) = 0 by omega)] at ep eq
      rw [if_neg (fun hh => h0 (hnx.1 hh).1)]
      by_cases hz1 : z.getD i 0 = 1
      · rw [if_pos hz1] at ih ⊢; omega
      · rw [if_neg hz1] at ih ⊢; omega
/-- each mistake at least halves those that were never wrong -/
theorem half_wrong {x : List (List Int)} {z : List Int} {n T : Nat} (hb : ∀ i, i < T → ∀ f, f < n → bitP ((nthR x i).getD f 0)) (hz : ∀ i, i < T → bitP (z.getD i 0)) : ∀ i, i ≤ T → 2 ^ wrN (sayM (hsay x z n) T T) z i * cntF x z i n ≤ n
  | 0, _ => by simp [wrN, cnt_zero]
  | i + 1, hi => by
    have ih := half_wrong hb hz i (by omega)
    have h1 := cnt_sum (x := x) (z := z) (i := i) n (Nat.le_refl n)
    have h2 := cnt_next (hb i (by omega)) (hz i (by omega)) n (Nat.le_refl n)
    have h3 := pq_rng (w := misL x z n i) (hb i (by omega)) n (Nat.le_refl n)
    have h4 := pq_hv (misL x z n i) (nthR x i) n
    have hzi := hz i (by omega)
    have hs : (sayM (hsay x z n) T T).getD i 0 = hsay x z n i := sayM_get (by omega) (by omega)
    simp only [wrN, hs]
    unfold bitP at hzi
    have key : (if hsay x z n i ≠ z.getD i 0 then 2 else 1) * cntF x z (i + 1) n ≤ cntF x z i n := by
      unfold hsay sideV
      generalize pN (misL x z n i) (nthR x i) n = P at *
      generalize qN (misL x z n i) (nthR x i) n = Q at *
      generalize hvN (misL x z n i) (nthR x i) n = H at *
      by_cases hH : 0 < H
      · rw [if_pos hH]
        by_cases hz1 : z.getD i 0 = 1
        · rw [if_pos hz1] at h2
          rw [if_neg (by simpa using hz1.symm)]; omega
        · rw [if_neg hz1] at h2
          rw [if_pos (fun hh => hz1 hh.symm)]; omega
      · rw [if_neg hH]
        by_cases hz1 : z.getD i 0 = 1
        · rw [if_pos hz1] at h2
          rw [if_pos (by omega)]; omega
        · rw [if_neg hz1] at h2
          rw [if_neg (by omega)]; omega
    by_cases hw : hsay x z n i ≠ z.getD i 0
    · rw [if_pos hw] at key ⊢
      rw [Nat.pow_succ, Nat.mul_assoc]
      exact Nat.le_trans (Nat.mul_le_mul_left _ key) ih
    · rw [if_neg hw] at key ⊢
      rw [Nat.one_mul] at key
      exact Nat.le_trans (Nat.mul_le_mul_left _ key) ih

section
variable {ro : List ABlk} {h hp : Heap} {a b u v v0 : AVal} {x : List (List Int)} {z y row w : List Int}

theorem Wrong_ok (ha : IsRow ro h a y) (hb : IsRow ro h b z) (hy : y.length = z.length) (hz : z.length ≤ 10000) : callX F1 ro 37 [a, b] h = some (.i .i64 ((wrN y z z.length : Nat) : Int), h, h.length, h.length) := by
  refine g37_ok (meansX_ok F1 ro) rfl ?_
  have hla := len_row ha
  have hlb := len_row hb
  rw [hy] at hla
  have hloop := loop_run (b := fun s : Int × Int => g37_b0 (meansX F1 ro) ro a b ⟨h, h.length, h.length⟩ s.1 s.2) (fun i => (((wrN y z i : Nat) : Int), (i : Int))) z.length (r0 := ((wrN y z z.length : Nat) : Int))
    (by simp only [g37_b0, hla, hlb, bindO_some, asI_i, forceB_eq, ltI_eq, lt_no, cond_false])
    (fun i hi => by
      obtain ⟨p1, a1, ald⟩ := at_rowK ha (show i < y.length by omega)
      obtain ⟨p2, b1, bld⟩ := at_rowK hb hi
      have a2 := (ald (l := 0) (q := 0) (Keep.refl h)).2
      have b2 := (bld (l := 0) (q := 0) (Keep.refl h)).2
      have hle := wrN_le y z i
      by_cases he : y.getD i 0 = z.getD i 0
      · have e0 : (y.getD i 0 == z.getD i 0) = true := by rw [he]; exact beq_self_eq_true _
        have e1 : wrN y z (i + 1) = wrN y z i := by simp only [wrN]; rw [if_neg (by simpa using he)]; omega
        simp only [g37_b0, hla, hlb, bindO_some, asI_i, forceB_eq, ltI_eq, lt_yes hi, cond_true, a1, a2, b1, b2, eqI_eq, e0, Bool.not_true, cond_false, forceI_eq, e1]
        rw [wr_next (by omega)]
      · have e0 : (y.getD i 0 == z.getD i 0) = false := by rw [beq_eq_false_iff_ne]; exact he
        have e1 : wrN y z (i + 1) = wrN y z i + 1 := by simp only [wrN]; rw [if_pos he]
        simp only [g37_b0, hla, hlb, bindO_some, asI_i, forceB_eq, ltI_eq, lt_yes hi, cond_true, a1, a2, b1, b2, eqI_eq, e0, Bool.not_false, forceI_eq, e1]
        rw [wr_next (by omega), wr_next (by omega)])
  have e0 : ((0 : Nat) : Int) = 0 := rfl
  have hloop' : loopX (fun s : Int × Int => g37_b0 (meansX F1 ro) ro a b ⟨h, h.length, h.length⟩ s.1 s.2) (0, 0) = _ := hloop
  unfold g37
  refine (bindO_of hloop').trans ?_
  exact fin_pure rfl
theorem Min_ok (ha : IsRow ro h a w) (hw1 : 1 ≤ w.length) (hw2 : w.length ≤ 1000) : callX F1 ro 54 [a] h = some (.i .i64 (mnL w (w.length - 1)), h, h.length, h.length) := by
  refine g54_ok (meansX_ok F1 ro) rfl ?_
  have hla := len_row ha
  obtain ⟨p0, a0, ald0⟩ := at_rowK ha (show 0 < w.length by omega)
  have a00 := (ald0 (l := h.length) (q := h.length) (Keep.refl h)).1
  have a0' : evP .e (.ixS 1 (.c a) (.c (.i .i64 0))) = some p0 := a0
  have hloop := loop_run (b := fun s : Int × Int => g54_b0 (meansX F1 ro) ro a ⟨h, h.length, h.length⟩ s.1 s.2) (fun i => (mnL w i, ((i + 1 : Nat) : Int))) (w.length - 1) (r0 := mnL w (w.length - 1))
    (by
      have : ((w.length - 1 + 1 : Nat) : Int) = (w.length : Int) := by omega
      simp only [g54_b0, hla, this, bindO_some, asI_i, forceB_eq, ltI_eq, lt_no, cond_false])
    (fun i hi => by
      obtain ⟨p1, a1, ald⟩ := at_rowK ha (show i + 1 < w.length by omega)
      have a2 := (ald (l := h.length) (q := h.length) (Keep.refl h)).1
      simp only [g54_b0, hla, bindO_some, asI_i, forceB_eq, ltI_eq, lt_yes (show i + 1 < w.length by omega), cond_true, a1, a2, forceI_eq, mxF_eq]
      rw [wr_next (by omega)]; rfl)
  have hloop' : loopX (fun s : Int × Int => g54_b0 (meansX F1 ro) ro a ⟨h, h.length, h.length⟩ s.1 s.2) (w.getD 0 0, 1) = _ := hloop
  unfold g54
  refine (bindO_of hla).trans ?_
  refine asI_of.trans ?_
  refine forceB_of.trans ?_
  refine (cond_of (show ltI (w.length : Int) 1 = false by rw [ltI_eq]; exact dF (by omega))).trans ?_
  refine (bindO_of a0').trans ?_
  refine (bindO_of a00).trans ?_
  refine asI_of.trans ?_
  refine (bindO_of hloop').trans ?_
  exact fin_pure rfl
theorem Index_ok {n : Int} (ha : IsRow ro h a w) (hw2 : w.length ≤ 1000) : ∃ r, callX F1 ro 55 [a, .i .i64 n] h = some (.i .i64 r, h, h.length, h.length) := by
  have hla := len_row ha
  obtain ⟨o, hrun, -⟩ : ∃ o, loopX (fun s : Int => g55_b0 (meansX F1 ro) ro a n (w.length : Int) ⟨h, h.length, h.length⟩ s) 0 = some o ∧ True := by
    refine loopX_rule (b := fun s : Int => g55_b0 (meansX F1 ro) ro a n (w.length : Int) ⟨h, h.length, h.length⟩ s) (fun s => ∃ i : Nat, i ≤ w.length ∧ s = (i : Int)) (fun _ => True) (fun s => w.length - s.toNat) ?_ _ ⟨0, Nat.zero_le _, rfl⟩
    rintro s ⟨i, hi, rfl⟩
    by_cases hiw : i = w.length
    · subst hiw
      right
      refine ⟨.inl (), ?_, trivial⟩
      simp only [g55_b0, forceB_eq, ltI_eq, lt_no, cond_false]
    have hi' : i < w.length := by omega
    obtain ⟨p1, a1, ald⟩ := at_rowK ha hi'
    have a2 := (ald (l := h.length) (q := h.length) (Keep.refl h)).1
    by_cases he : n = w.getD i 0
    · have e0 : (n == w.getD i 0) = true := by rw [he]; exact beq_self_eq_true _
      right
      refine ⟨.inr (i : Int), ?_, trivial⟩
      simp only [g55_b0, forceB_eq, ltI_eq, lt_yes hi', cond_true, a1, a2, bindO_some, asI_i, eqI_eq, e0]
    · have e0 : (n == w.getD i 0) = false := by rw [beq_eq_false_iff_ne]; exact he
      left
      refine ⟨((i + 1 : Nat) : Int), ?_, ⟨i + 1, hi', rfl⟩, ?_⟩
      · simp only [g55_b0, forceB_eq, ltI_eq, lt_yes hi', cond_true, a1, a2, bindO_some, asI_i, eqI_eq, e0, cond_false, forceI_eq]
        rw [wr_next (by omega)]
      · show w.length - (((i + 1 : Nat) : Int)).toNat < w.length - ((i : Int)).toNat
        omega
  have go : ∀ o, g55 (meansX F1 ro) ro a n ⟨h, h.length, h.length⟩ = some o → callX F1 ro 55 [a, .i .i64 n] h = some o := fun o ho => g55_ok (meansX_ok F1 ro) rfl ho
  have hu : ∀ r, (bindO (loopX (fun s : Int => g55_b0 (meansX F1 ro) ro a n (w.length : Int) ⟨h, h.length, h.length⟩ s) 0) fun o => match o with
      | (.inl _) => finM h.length (tupA [(.i .i64 (-1))]) (⟨h, h.length, h.length⟩ : Mm)
      | (.inr x4) => finM h.length (tupA [(.i .i64 x4)]) (⟨h, h.length, h.length⟩ : Mm)) = some r → g55 (meansX F1 ro) ro a n ⟨h, h.length, h.length⟩ = some r := fun r hr => by
    unfold g55
    refine (bindO_of hla).trans ?_
    refine asI_of.trans ?_
    exact hr
  rcases o with o | o
  · exact ⟨-1, go _ (hu _ ((bindO_of hrun).trans (fin_pure rfl)))⟩
  · exact ⟨o, go _ (hu _ ((bindO_of hrun).trans (fin_pure rfl)))⟩
/-- what Weighing answers: a forecast for each round, the numbers of mistakes -/
theorem Weighing_ok {n : Int} (ha : IsMat ro h a x) (hl : LenOk x) (hb : IsRow ro h b z) (hz : z.length ≤ 9223372036854775807) : ∃ v1 v2 h', callX F1 ro 23 [.i .i64 n, a, b] h = some (.tup [v1, v2, .i .i64 (recE n x z)], h', h.length, h.length) ∧ Keep h h' ∧
    (recE n x z = 0 → IsRow ro h' v1 (sayM (vsay x z n.toNat) x.length x.length) ∧ IsRow ro h' v2 (misL x z n.toNat x.length)) := by
  have go : ∀ o, g23 (meansX F1 ro) ro n a b ⟨h, h.length, h.length⟩ = some o → callX F1 ro 23 [.i .i64 n, a, b] h = some o := fun o ho => g23_ok (meansX_ok F1 ro) rfl ho
  have c0 := cp0 (checkRecord_ok (n := n) ha hl hb hz)
  by_cases hr : recE n x z = 0
  case neg =>
    have e : (!eqI (recE n x z) 0) = true := by rw [eqI_eq]; simpa using hr
    refine ⟨.nsl, .nsl, h, go _ ?_, Keep.refl h, fun h0 => absurd h0 hr⟩
    unfold g23
    refine (bindP_of c0).trans ?_
    refine asI_of.trans ?_
    refine forceB_of.trans ?_
    rw [e]
    exact fin_pure (by simp [tupA, AVal.bel, bels])
  obtain ⟨N, rfl, hN1, hN2, hT, hrows, hzb, hzl⟩ := rec_facts hr
  have e : (!eqI (recE (N : Int) x z) 0) = false := by rw [eqI_eq, hr]; rfl
  obtain ⟨hb1, eb⟩ : ∃ hb1, hb1 = h ++ [some (newBlk 3 (.i .i64 0) N)] := ⟨_, rfl⟩
  have kp : Keep h hb1 := by rw [eb]; exact Keep.app _
  have hbl : hb1.length = h.length + 1 := by rw [eb]; simp
  have dS : Holds hb1 h.length (ints (misL x z N 0)) := by rw [eb, misL_zero]; exact newInts h N
  have s1 := mk_ok (ro := ro) (hp := h) (l := h.length) (p := h.length) (e := 3) (es := 1) (bytes := 8) (v := .i .i64 0) (n := N) (by omega) (by omega)
  rw [← eb] at s1
  obtain ⟨hp', lw, c1, q1, q2, q3, q4, q5⟩ := listen_ok (ro := ro) (h := h) (hp := hb1) (v0 := .ifc 76 (.agg [wSl h.length N])) (n := N) (q := h.length) (T := x.length) (say := vsay x z N) (st := misL x z N) ha hb kp (Nat.le_refl _) rfl hzl hT dS
    (fun i hi hp' u hu hw => ⟨105, .agg [wSl h.length N], rfl, vforetell_ok hu (hrows i hi).2 (fun f hf => (hrows i hi).1 f (by have := (hrows i hi).2; omega)) (by omega) hw (misL_len _ _ _ _) (fun f hf => by rw [misL_get hf]; have := mis_le x z f i; omega)⟩)
    (fun i hi hp' u hu kh hw => by
      obtain ⟨hp'', lw, c, r1, r2, r3, r4⟩ := learn_ok (ro := ro) (h := h) (say := vsay x z N i) (told := z.getD i 0) hu kh (Nat.le_refl _) (hrows i hi).2 (by omega) hw (misL_len _ _ _ _) (fun f hf => by rw [misL_get hf]; have := mis_le x z f i; omega)
      rw [misL_next] at r4
      exact ⟨100, .agg [wSl h.length N], hp'', lw, rfl, c, r1, r2, r3, r4⟩)
    rfl
  have c2 := callM_eq (call := callX F1 ro) (m := ⟨hb1, h.length, h.length⟩) c1
  have m1 : min h.length lw = h.length := by omega
  have m2 : min h.length hb1.length = h.length := by omega
  rw [m1, m2] at c2
  have kp' : Keep h hp' := ⟨by omega, fun j hj => by rw [q3 j (by omega) (by omega)]; exact kp.2 j hj⟩
  have fl : (fillA [AVal.nsl] [((0, 1), wSl h.length N)]).map AVal.agg = some (.agg [wSl h.length N]) := rfl
  have fl2 : (fillA [AVal.nsl] [((0, 1), (AVal.agg [wSl h.length N]))]).map AVal.agg = some (.agg [wSl h.length N]) := rfl
  refine ⟨wSl hb1.length x.length, wSl h.length N, hp', go _ ?_, kp', fun _ => ⟨holds_ints q5 (sayM_len _ _ _), holds_ints q4 (misL_len _ _ _ _)⟩⟩
  unfold g23
  refine (bindP_of c0).trans ?_
  refine asI_of.trans ?_
  refine forceB_of.trans ?_
  refine (cond_of e).trans ?_
  refine (bindP_of s1).trans ?_
  refine (bindO_of fl).trans ?_
  refine (bindO_of fl2).trans ?_
  refine (bindO_of rfl).trans ?_
  refine (bindP_of c2).trans ?_
  rw [hr]
  exact fin_out (sl_nb (L := h.length) (b := hb1.length) (by omega))
/-- what Best answers: the error, and the least number of mistakes -/
theorem Best_ok {n : Int} (ha : IsMat ro h a x) (hl : LenOk x) (hb : IsRow ro h b z) (hz : z.length ≤ 9223372036854775807) : ∃ r m, callX F1 ro 25 [.i .i64 n, a, b] h = some (.tup [.i .i64 r, .i .i64 m, .i .i64 (recE n x z)], h, h.length, h.length) ∧
    (recE n x z ≠ 0 → m = 0) ∧ (recE n x z = 0 → m = mnL (misL x z n.toNat x.length) (n.toNat - 1)) := by
  have go : ∀ o, g25 (meansX F1 ro) ro n a b ⟨h, h.length, h.length⟩ = some o → callX F1 ro 25 [.i .i64 n, a, b] h = some o := fun o ho => g25_ok (meansX_ok F1 ro) rfl ho
  obtain ⟨v1, v2, h', c1, k1, hrest⟩ := Weighing_ok (n := n) ha hl hb hz
  have c1' := callM_eq (call := callX F1 ro) (m := ⟨h, h.length, h.length⟩) c1
  simp only [Nat.min_self] at c1'
  by_cases hr : recE n x z = 0
  case neg =>
    have e : (!eqI (recE n x z) 0) = true := by rw [eqI_eq]; simpa using hr
    refine ⟨0, 0, go _ ?_, fun _ => rfl, fun h0 => absurd h0 hr⟩
    unfold g25
    refine (bindP_of c1').trans ?_
    refine (bindO_of (ext0 _ _)).trans ?_
    refine (bindO_of (ext1 _ _ _)).trans ?_
    refine (bindO_of (ext2 _ _ _ _)).trans ?_
    refine asI_of.trans ?_
    refine forceB_of.trans ?_
    rw [e]
    exact fin_keep k1 rfl
  obtain ⟨N, rfl, hN1, hN2, hT, hrows, hzb, hzl⟩ := rec_facts hr
  obtain ⟨-, hm⟩ := hrest hr
  have hml : (misL x z (N : Int).toNat x.length).length = N := by rw [misL_len]; rfl
  have e : (!eqI (recE (N : Int) x z) 0) = false := by rw [eqI_eq, hr]; rfl
  have cM := cp (F := F1) (l := h.length) (p := h.length) (Min_ok hm (by omega) (by omega)) k1.1 k1.1
  obtain ⟨r, cI0⟩ := Index_ok (n := mnL (misL x z (N : Int).toNat x.length) ((misL x z (N : Int).toNat x.length).length - 1)) hm (by omega)
  have cI := cp (F := F1) (l := h.length) (p := h.length) cI0 k1.1 k1.1
  refine ⟨r, _, go _ ?_, fun h0 => absurd hr h0, fun _ => rfl⟩
  unfold g25
  refine (bindP_of c1').trans ?_
  refine (bindO_of (ext0 _ _)).trans ?_
  refine (bindO_of (ext1 _ _ _)).trans ?_
  refine (bindO_of (ext2 _ _ _ _)).trans ?_
  refine asI_of.trans ?_
  refine forceB_of.trans ?_
  refine (cond_of e).trans ?_
  refine (bindP_of cM).trans ?_
  refine asI_of.trans ?_
  refine (bindP_of cI).trans ?_
  refine asI_of.trans ?_
  rw [hr, hml]
  exact fin_keep k1 rfl
end
end Go.Proofs.Ytnalgdobglfndaa.T

/- The law about the best expert and the halver. -/
open Go.Vm
set_option linter.unusedVariables false
namespace Go.Proofs.Ytnalgdobglfndaa.T
open Go

section
variable {ro : List ABlk} {h hp : Heap} {a b u v v0 : AVal} {x : List (List Int)} {z y row w : List Int}

theorem condT_of {β : Type} {c : Bool} {A B : Option β} (h : c = true) : cond c A B = A := by rw [h]; rfl
theorem law8 {n : Int} (ha : IsMat ro [] a x) (hf : Fits x) (hb : IsRow ro [] b z) : ∃ h' lw lp, callX F1 ro 8 [.i .i64 n, a, b] [] = some (.b true, h', lw, lp) := by
  have hfew := cp0 (few_ok ha hb hf.1)
  have hal := cp0 (F := F1) (alive_pure (ro := ro) (h := []))
  simp only [List.length_nil] at hfew hal
  by_cases hw : few x z
  case neg =>
    refine ⟨[], 0, 0, g8_ok (meansX_ok F1 ro) rfl ?_⟩
    unfold g8
    refine (bindP_of hfew).trans ?_
    refine asB_of.trans ?_
    refine forceB_of.trans ?_
    refine (condT_of (show (!decide (few x z)) = true by rw [dF hw]; rfl)).trans ?_
    refine (bindP_of hal).trans ?_
    exact fin_pure (h := []) rfl
  have hzl := hw.2
  have k0 : ∀ {l : Nat}, 0 ≤ l := Nat.zero_le _
  have hz' : z.length ≤ 9223372036854775807 := by omega
  obtain ⟨v4, h4, c4, k4, r4, n4⟩ := (Halving_ok (n := n) ha hf.lens hb hz').cm
  have K4 : Keep [] h4 := keep0 h4
  obtain ⟨r, m, cB0, hBe, hBm⟩ := Best_ok (n := n) (mat_by ha K4) hf.lens (row_by hb K4) hz'
  have cB := cp (F := F1) (l := 0) (p := 0) cB0 k0 k0
  have c4' := c4 (l := 0) (p := 0) k0 k0
  have hal4 := cp (F := F1) (l := 0) (p := 0) (alive_pure (ro := ro) (h := h4)) k0 k0
  have fin4 : (bindP (callM (callX F1 ro) ⟨h4, 0, 0⟩ 16 []) fun v57 m_9 => asB v57 fun c57 => some (c57, m_9)) = some (true, (⟨h4, 0, 0⟩ : Mm)) := (bindP_of hal4).trans rfl
  have hlen := len_row r4
  by_cases hr : recE n x z = 0
  case neg =>
    have e2 : halfR n x z = ([], recE n x z) := by unfold halfR; rw [if_pos hr]
    rw [e2] at c4' hlen
    have hm := hBe hr
    subst hm
    have q1 : (!eqI (recE n x z) 0) = true := by rw [eqI_eq]; simpa using hr
    have q2 : eqI (recE n x z) (recE n x z) = true := by rw [eqI_eq]; exact beq_self_eq_true _
    have hlen' : evP .e (.len false (.c v4)) = some (.i .i64 0) := hlen
    have w0 : Go.Vm.wr .i64 (0 + 0) = 0 := rfl
    generalize recE n x z = E at *
    refine ⟨h4.take 0, 0, 0, g8_ok (meansX_ok F1 ro) rfl ?_⟩
    unfold g8
    refine (bindP_of hfew).trans ?_
    refine asB_of.trans ?_
    refine forceB_of.trans ?_
    refine (cond_of (show (!decide (few x z)) = false by rw [dT hw]; rfl)).trans ?_
    refine (bindP_of c4').trans ?_
    refine (bindO_of (ext0 _ _)).trans ?_
    refine (bindO_of (ext1 _ _ _)).trans ?_
    refine asI_of.trans ?_
    refine (bindP_of cB).trans ?_
    refine (bindO_of (ext0 _ _)).trans ?_
    refine asI_of.trans ?_
    refine (bindO_of (ext1 _ _ _)).trans ?_
    refine asI_of.trans ?_
    refine (bindO_of (ext2 _ _ _ _)).trans ?_
    refine asI_of.trans ?_
    refine forceB_of.trans ?_
    refine (condT_of q1).trans ?_
    refine forceB_of.trans ?_
    have i1 : (cond (eqI E E) (bindO (evP .e (.len false (.c v4))) fun v39 => asI .i64 v39 fun x39 => forceI (Go.Vm.wr .i64 (x39 + 0)) fun x41 => forceB (eqI x41 0) fun c42 => some c42) (some false)) = some true := by
      rw [q2, hlen']; rfl
    refine (bindO_of i1).trans ?_
    refine (bindO_of fin4).trans ?_
    exact fin_take (L := 0) rfl
  obtain ⟨N, rfl, hN1, hN2, hT, hrows, hzb, hzx⟩ := rec_facts hr
  have e2 : halfR (N : Int) x z = (sayM (hsay x z N) x.length x.length, 0) := by unfold halfR; rw [if_neg (by simpa using hr)]; rfl
  rw [e2] at c4' hlen r4
  rw [hr] at cB
  have hm := hBm hr
  have cW := cp (F := F1) (l := 0) (p := 0) (Wrong_ok r4 (row_by hb K4) (by rw [sayM_len]; omega) (by omega)) k0 k0
  rw [sayM_len] at hlen
  obtain ⟨W, hW⟩ : ∃ W, W = wrN (sayM (hsay x z N) x.length x.length) z z.length := ⟨_, rfl⟩
  rw [← hW] at cW
  have hlz := len_row hb
  rw [hzx] at hlz
  have q1 : (!eqI (0 : Int) 0) = false := rfl
  have q3 : (!eqI ((x.length : Int)) ((x.length : Int))) = false := by rw [eqI_eq]; simp
  -- where the best is never wrong
  have hWN : ¬ 0 < m → 2 ^ W ≤ N ∧ W ≤ 4 := fun hm0 => by
    obtain ⟨j, hj1, hj2⟩ := mnL_mem (misL x z (N : Int).toNat x.length) ((N : Int).toNat - 1)
    have hjN : j < (N : Int).toNat := by omega
    rw [misL_get hjN] at hj2
    have hj0 : mis x z j x.length = 0 := by omega
    have hhw := half_wrong (x := x) (z := z) (n := N) (T := x.length) (fun i hi f hf => (hrows i hi).1 f (by have := (hrows i hi).2; omega)) (fun i hi => hzb i (by omega)) x.length (Nat.le_refl _)
    have hc := cnt_pos hj0 N (by omega)
    rw [← hzx] at hhw
    have hW' : wrN (sayM (hsay x z N) z.length z.length) z z.length = W := by rw [hW, hzx]
    rw [hW', hzx] at hhw
    have h1 : 2 ^ W ≤ N := Nat.le_trans (Nat.le_mul_of_pos_right _ hc) hhw
    refine ⟨h1, ?_⟩
    by_cases h5 : W ≤ 4
    · exact h5
    · have : 2 ^ 5 ≤ 2 ^ W := Nat.pow_le_pow_right (by decide) (by omega)
      omega
  refine ⟨h4.take 0, 0, 0, g8_ok (meansX_ok F1 ro) rfl ?_⟩
  unfold g8
  refine (bindP_of hfew).trans ?_
  refine asB_of.trans ?_
  refine forceB_of.trans ?_
  refine (cond_of (show (!decide (few x z)) = false by rw [dT hw]; rfl)).trans ?_
  refine (bindP_of c4').trans ?_
  refine (bindO_of (ext0 _ _)).trans ?_
  refine (bindO_of (ext1 _ _ _)).trans ?_
  refine asI_of.trans ?_
  refine (bindP_of cB).trans ?_
  refine (bindO_of (ext0 _ _)).trans ?_
  refine asI_of.trans ?_
  refine (bindO_of (ext1 _ _ _)).trans ?_
  refine asI_of.trans ?_
  refine (bindO_of (ext2 _ _ _ _)).trans ?_
  refine asI_of.trans ?_
  refine forceB_of.trans ?_
  refine (cond_of q1).trans ?_
  refine forceB_of.trans ?_
  have i1 : (cond (!eqI (0 : Int) 0) (some true) (bindO (evP .e (.len false (.c v4))) fun v51 => asI .i64 v51 fun x51 => bindO (evP .e (.len false (.c b))) fun v53 => asI .i64 v53 fun x53 => forceB (!eqI x51 x53) fun c54 => some c54)) = some false := by
    rw [hlen, hlz]
    exact (forceB_of (c := !eqI (x.length : Int) (x.length : Int)) (k := fun c54 => some c54)).trans (by rw [q3])
  refine (bindO_of i1).trans ?_
  refine (cond_of rfl).trans ?_
  refine forceB_of.trans ?_
  have i2 : ∀ hd : Bool, hd = ltI 0 m → (cond hd (some (true, (⟨h4, 0, 0⟩ : Mm))) (bindP (callM (callX F1 ro) ⟨h4, 0, 0⟩ 37 [v4, b]) fun v61 m_8 => asI .i64 v61 fun x61 => forceB (!ltI 5 x61) fun c62 => bindO (cond c62 (bindP (callM (callX F1 ro) m_8 37 [v4, b]) fun v66 m_10 => asI .i64 v66 fun x66 => chk (!ltI x66 (.ofNat 0)) <| forceI (shlV .i64 1 x66) fun x67 => forceB (!ltI (N : Int) x67) fun c69 => some (c69, m_10)) (some (false, m_8))) fun ⟨c71_1, m_9⟩ => some (c71_1, m_9))) = some (true, (⟨h4, 0, 0⟩ : Mm)) := fun hd hhd => by
    by_cases hm0 : 0 < m
    · rw [hhd, ltI_eq, dT hm0]; rfl
    · obtain ⟨hw1, hw2⟩ := hWN hm0
      rw [hhd, ltI_eq, dF hm0]
      refine (bindP_of cW).trans ?_
      refine asI_of.trans ?_
      refine forceB_of.trans ?_
      rw [show (!ltI 5 ((W : Nat) : Int)) = true by rw [ltI_eq, dF (by omega)]; rfl]
      have i3 : (bindP (callM (callX F1 ro) ⟨h4, 0, 0⟩ 37 [v4, b]) fun v66 m_10 => asI .i64 v66 fun x66 => chk (!ltI x66 (.ofNat 0)) <| forceI (shlV .i64 1 x66) fun x67 => forceB (!ltI (N : Int) x67) fun c69 => some (c69, m_10)) = some (true, (⟨h4, 0, 0⟩ : Mm)) := by
        refine (bindP_of cW).trans ?_
        refine asI_of.trans ?_
        have hsh : shlV .i64 1 ((W : Nat) : Int) = ((2 ^ W : Nat) : Int) := shl_nat W (by omega)
        rw [ltI_eq, nneg, chk_true, forceI_eq, hsh]
        refine forceB_of.trans ?_
        rw [ltI_eq, dF (by omega)]; rfl
      exact (bindO_of i3).trans rfl
  refine (bindO_of (i2 _ rfl)).trans ?_
  refine (bindO_of fin4).trans ?_
  exact fin_take (L := 0) rfl
end
end Go.Proofs.Ytnalgdobglfndaa.T

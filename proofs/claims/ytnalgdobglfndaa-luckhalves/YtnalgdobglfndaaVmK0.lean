/- Contracts of the functions: what each of them answers. -/
import Derived.Test.YtnalgdobglfndaaVmFO
import Derived.Test.YtnalgdobglfndaaVmGt
import Derived.Test.YtnalgdobglfndaaVmAE
import Derived.Test.YtnalgdobglfndaaVmAF
import Derived.Test.YtnalgdobglfndaaRows
import Derived.WalkKit
import Derived.ProofKit
import Derived.OpenShut
import Derived.Carry
import Derived.Deep.Matrix
import Derived.Deep.Slices
/- From the small machine to the statement: lists of numbers and lists of such lists, in memory that is only read. -/
open Go.Vm
set_option linter.unusedVariables false
namespace Go.Proofs.Ytnalgdobglfndaa.T
open Go Go.RowKit Go.Deep Go.WideShapes Go.ChangeShapes

/-- what every list of lists is -/
def Fits (rows : List (List Int)) : Prop := rows.length ≤ 9223372036854775807 ∧ ∀ z ∈ rows, z.length ≤ 9223372036854775807 ∧ ∀ n ∈ z, inI64 n
abbrev F1 : Tab := ⟨F, known0 16 (.b true)⟩
def IsRowK (k : IntKind) (ro : List ABlk) (h : Heap) (v : AVal) (z : List Int) : Prop :=
  (v = .nsl ∧ z = []) ∨ ∃ q cap blk, v = .sl q z.length cap ∧ rdB ro h q = some blk ∧ q.off + z.length ≤ blk.n ∧ ∀ j, j < z.length → blk.c.get (q.off + j) = .i k (z.getD j 0)

/-- what is read in the world of a list of lists: the value, the rows -/
structure OpenM (W : World) (v0 : Value) (rows : List (List Int)) : Prop where
  o : (v0 = .slice none 0 0 ∧ rows = []) ∨ ∃ (a : Addr) (cap : Nat) (A : Nat → Option Addr) (L C : Nat → Nat) (Z : Nat → List Int), v0 = .slice (some a) rows.length cap ∧
    rows.length ≤ cap ∧ rows = (List.range rows.length).map (fun r => (Z r).take (L r)) ∧
    ∀ r, r < cap → a.block < W.heap.size ∧ W.cell? (a.add r) = some (.slice (A r) (L r) (C r)) ∧ L r ≤ C r ∧ (Z r).length = C r ∧ (A r = none → C r = 0) ∧
      ∀ x, A r = some x → ∀ c, c < C r → x.block < W.heap.size ∧ W.cell? (x.add c) = some (.int .i64 ((Z r).getD c 0))
  fits : Fits rows


/-- what is read in the world of a list of numbers -/
structure OpenK (k : IntKind) (W : World) (v0 : Value) (z : List Int) : Prop where
  o : (v0 = .slice none 0 0 ∧ z = []) ∨ ∃ (a : Addr) (cap : Nat) (Z : List Int), v0 = .slice (some a) z.length cap ∧ z.length ≤ cap ∧ Z.length = cap ∧ z = Z.take z.length ∧ ∀ i, i < cap → a.block < W.heap.size ∧ W.cell? (a.add i) = some (.int k (Z.getD i 0))
  len_le : z.length ≤ 9223372036854775807
  z : ∀ n ∈ z, (Lit.int k n).wf = true

theorem cells23 : Try.prog.cellsOf 23 = 1 := by kernel_rfl
theorem cells3 : Try.prog.cellsOf 3 = 1 := by kernel_rfl
theorem laidOut : laidOutB Try.prog = true := by kernel_rfl
theorem own : ownKnob Try.prog.godebug = none := by kernel_rfl

section
variable {H : Type} {enc : TypeId × Value → H} {W : World} {v0 : Value} {d : DataW H} {p : List MemPlace}
theorem opened_ints (hs : ∃ a len cap, v0 = .slice a len cap) (h : DataW.Trod enc Try.prog W 0 (fun _ => true) true 23 v0 d p) : ∃ z, OpenK .i64 W v0 z := by
  obtain ⟨a0, len, cap, rfl⟩ := hs
  obtain ⟨fuel, hf⟩ := h
  have hml : maxLen = 9223372036854775807 := rfl
  rcases open_ints Try.underlying23 Try.underlying3 cells3 hf with ⟨hcs0, hx⟩ | ⟨a, len', cap', zs, hcs0, _, hl, hm, hz, hx, hcell, hw⟩
  · simp [Value.cells] at hcs0
    obtain ⟨rfl, rfl, rfl⟩ := hcs0
    exact ⟨[], .inl ⟨rfl, rfl⟩, by simp, by simp⟩
  · simp [Value.cells] at hcs0
    obtain ⟨rfl, rfl, rfl⟩ := hcs0
    simp only [if_true] at hz
    have hlen : (zs.take len).length = len := by simp; omega
    refine ⟨zs.take len, .inr ⟨a, cap, zs, by rw [hlen], by omega, by omega, by rw [hlen], fun i hi => ?_⟩, by omega, fun n hn => hw n (List.mem_of_mem_take hn)⟩
    have h1 := hcell i (by omega)
    exact ⟨World.block_lt_of_cell? _ _ h1 |> fun h => by simpa [addr_block] using h, h1⟩
end

/-- the reading of a list of lists -/
theorem opened_mat {H : Type} {enc : TypeId × Value → H} {W : World} {v0 : Value} {d : DataW H} {p : List MemPlace} (hs : ∃ a len cap, v0 = .slice a len cap) (h : DataW.Trod enc Try.prog W 0 (fun _ => true) true 22 v0 d p) : ∃ rows, OpenM W v0 rows := by
  obtain ⟨a0, len, cap, rfl⟩ := hs
  obtain ⟨fuel, hf⟩ := h
  rcases open_int_rows Try.underlying22 Try.underlying23 Try.underlying3 cells23 cells3 hf with ⟨hcs0, hx⟩ | ⟨a, len', cap', A, L, C, Z, hcs0, _, hl, hm, hx, hrows⟩
  · simp [Value.cells] at hcs0
    obtain ⟨rfl, rfl, rfl⟩ := hcs0
    exact ⟨[], .inl ⟨rfl, rfl⟩, by simp [Fits]⟩
  · simp [Value.cells] at hcs0
    obtain ⟨rfl, rfl, rfl⟩ := hcs0
    have hml : maxLen = 9223372036854775807 := rfl
    refine ⟨(List.range len).map fun r => (Z r).take (L r), .inr ⟨a, cap, A, L, C, Z, by simp, by simpa using hl, by simp, fun r hr => ?_⟩, ?_⟩
    · obtain ⟨h1, h2, h3, h4, h5, h6, h7⟩ := hrows r hr
      refine ⟨World.block_lt_of_cell? _ _ h1 |> fun h => by simpa [addr_block] using h, h1, h2, h4, h6, fun x hx c hc => ?_⟩
      obtain ⟨-, h8⟩ := h7 x hx
      have := World.block_lt_of_cell? _ _ (h8 c hc)
      exact ⟨by simpa [addr_block] using this, h8 c hc⟩
    · refine ⟨by simp; omega, fun z hz => ?_⟩
      obtain ⟨r, hr, rfl⟩ := List.mem_map.1 hz
      have hr := List.mem_range.1 hr
      obtain ⟨h1, h2, h3, h4, h5, h6, h7⟩ := hrows r (by omega)
      refine ⟨by simp; omega, fun n hn => wf_i64 (h5 n (List.mem_of_mem_take hn))⟩

/-- of an argument: read-only memory for it -/
theorem ro_mat {W : World} {v0 : Value} {rows : List (List Int)} (h : OpenM W v0 rows) (pre : List ABlk) (prl : Rl) (hp : pre.length = prl.length) : ∃ (ro : List ABlk) (rl : Rl) (v : AVal), ro.length = rl.length ∧ (∀ x y h, IsMat (pre ++ ro ++ x) h v rows ∧ VR (prl ++ rl ++ y) [] v v0) ∧
    ∀ (i : Nat) (b : ABlk), ro[i]? = some b → ∃ x, rl[i]? = some x ∧ ∀ j, j < b.n → x.block < W.heap.size ∧ ∃ v', W.cell? (x.add j) = some v' ∧ ∀ y, VR (prl ++ rl ++ y) [] (b.c.get j) v' := by
  rcases h.o with ⟨rfl, rfl⟩ | ⟨a, cap, A, L, C, Z, rfl, hcap, hrows, hcell⟩
  · exact ⟨[], [], .nsl, rfl, fun x y h => ⟨.inl ⟨rfl, rfl⟩, .nsl⟩, fun i b hb => by simp at hb⟩
  · have hro : ∀ (x : List ABlk) (r : Nat), r < cap → (pre ++ roMat pre.length cap A L C Z ++ x)[pre.length + 1 + r]? = some ⟨0, cond (A r).isSome (C r) 0, Tr.mk ((Z r).map (AVal.i .i64)), none⟩ := fun x r hr => by
      rw [List.append_assoc, List.getElem?_append_right (by omega), show pre.length + 1 + r - pre.length = r + 1 by omega]
      simp [roMat, hr, List.getElem?_append_left]
    have hro0 : ∀ (x : List ABlk), (pre ++ roMat pre.length cap A L C Z ++ x)[pre.length]? = some ⟨0, cap, Tr.mk ((List.range cap).map (roCell pre.length A L C)), none⟩ := fun x => by
      rw [List.append_assoc, List.getElem?_append_right (by omega)]
      simp [roMat]
    have hrl : ∀ (y : Rl) (r : Nat), r < cap → (prl ++ rlMat a cap A ++ y)[pre.length + 1 + r]? = some ((A r).getD a) := fun y r hr => by
      rw [List.append_assoc, List.getElem?_append_right (by omega), show pre.length + 1 + r - prl.length = r + 1 by omega]
      simp [rlMat, hr, List.getElem?_append_left]
    have hrl0 : ∀ (y : Rl), (prl ++ rlMat a cap A ++ y)[pre.length]? = some a := fun y => by
      rw [List.append_assoc, List.getElem?_append_right (by omega), show pre.length - prl.length = 0 by omega]
      simp [rlMat]
    have hvr : ∀ (y : Rl) (r : Nat), r < cap → VR (prl ++ rlMat a cap A ++ y) [] (roCell pre.length A L C r) (.slice (A r) (L r) (C r)) := fun y r hr => by
      obtain ⟨-, -, h1, h2, h3, -⟩ := hcell r hr
      unfold roCell
      cases hA : A r with
      | none =>
        have := h3 hA
        have h0 : L r = 0 := by omega
        rw [this, h0]
        exact .nsl
      | some x =>
        refine .slk _ _ _ _ ?_
        have := hrl y r hr
        rw [hA] at this
        show (((prl ++ rlMat a cap A ++ y)[pre.length + 1 + r]?).map fun x => x.add 0) = some x
        rw [this]; simp [Addr.add]
    refine ⟨roMat pre.length cap A L C Z, rlMat a cap A, .sl ⟨true, pre.length, 0⟩ rows.length (.known cap), by simp [roMat, rlMat], fun x y h => ⟨.inr ⟨_, _, ⟨0, cap, Tr.mk ((List.range cap).map (roCell pre.length A L C)), none⟩, rfl, ?_, ?_, ?_⟩, ?_⟩, ?_⟩
    · simp only [rdB, cond_true, lget_eq]; exact hro0 x
    · simpa using hcap
    · intro r hr
      have hr' : r < cap := by omega
      obtain ⟨-, -, h1, h2, h3, h4⟩ := hcell r hr'
      have hg : (Tr.mk ((List.range cap).map (roCell pre.length A L C))).get (0 + r) = roCell pre.length A L C r := by
        rw [get_mk]; simp [List.getD, hr']
      have hrow : rows.getD r [] = (Z r).take (L r) := by
        rw [List.getD_eq_getElem?_getD]
        conv => lhs; rw [hrows]
        simp [hr]
      simp only [hg, hrow]
      unfold roCell
      cases hA : A r with
      | none =>
        have := h3 hA
        have h0 : L r = 0 := by omega
        exact .inl ⟨rfl, by simp [h0]⟩
      | some y =>
        refine .inr ⟨⟨true, pre.length + 1 + r, 0⟩, .known (C r), ⟨0, cond (A r).isSome (C r) 0, Tr.mk ((Z r).map (AVal.i .i64)), none⟩, ?_, ?_, ?_, ?_⟩
        · simp; omega
        · simp only [rdB, cond_true, lget_eq]; exact hro x r hr'
        · simp [hA]; omega
        · intro j hj
          simp only [List.length_take] at hj
          rw [get_mk]
          have hj2 : j < (Z r).length := by omega
          have hj3 : j < L r := by omega
          simp [List.getD, hj2, hj3]
    · refine .slk _ _ _ _ ?_
      show (((prl ++ rlMat a cap A ++ y)[pre.length]?).map fun x => x.add 0) = some a
      rw [hrl0 y]; simp [Addr.add]
    · intro i b hb
      cases i with
      | zero =>
        simp [roMat] at hb
        subst hb
        refine ⟨a, by simp [rlMat], fun j hj => ?_⟩
        obtain ⟨h0, h1, -⟩ := hcell j hj
        refine ⟨h0, _, h1, fun y => ?_⟩
        have hg : (Tr.mk ((List.range cap).map (roCell pre.length A L C))).get j = roCell pre.length A L C j := by
          rw [get_mk]; simp [List.getD, show j < cap from hj]
        simp only [hg]
        exact hvr y j hj
      | succ r =>
        simp only [roMat, List.getElem?_cons_succ, List.getElem?_map, Option.map_eq_some_iff] at hb
        obtain ⟨r', hr', rfl⟩ := hb
        obtain ⟨hlt, he⟩ := List.getElem?_eq_some_iff.1 hr'
        simp only [List.length_range] at hlt
        simp only [List.getElem_range] at he
        subst he
        refine ⟨(A r).getD a, by simp [rlMat, hlt], fun j hj => ?_⟩
        obtain ⟨-, -, h1, h2, h3, h4⟩ := hcell r hlt
        cases hA : A r with
        | none => simp [hA] at hj
        | some x =>
          simp only [hA, Option.isSome_some, cond_true] at hj
          obtain ⟨h5, h6⟩ := h4 x hA j hj
          refine ⟨h5, _, h6, fun y => ?_⟩
          have hg : (Tr.mk ((Z r).map (AVal.i .i64))).get j = .i .i64 ((Z r).getD j 0) := by
            rw [get_mk]; simp [List.getD, show j < (Z r).length by omega]
          simp only [hg]
          exact .i _ _


/-- a slice's room is at least its length -/
def CapO (v : AVal) : Prop := ∀ q n c, v = .sl q n (.known c) → n ≤ c
theorem ro_flat {k : IntKind} {W : World} {v0 : Value} {z : List Int} (h : OpenK k W v0 z) (pre : List ABlk) (prl : Rl) (hp : pre.length = prl.length) : ∃ (ro : List ABlk) (rl : Rl) (v : AVal), ro.length = rl.length ∧ CapO v ∧
    (∀ x y h, IsRowK k (pre ++ ro ++ x) h v z ∧ VR (prl ++ rl ++ y) [] v v0) ∧
    ∀ (i : Nat) (b : ABlk), ro[i]? = some b → ∃ x, rl[i]? = some x ∧ ∀ j, j < b.n → x.block < W.heap.size ∧ ∃ v', W.cell? (x.add j) = some v' ∧ ∀ y, VR y [] (b.c.get j) v' := by
  rcases h.o with ⟨rfl, rfl⟩ | ⟨a, cap, Z, rfl, hcap, hlen, hz, hcell⟩
  · exact ⟨[], [], .nsl, rfl, (fun q n c e => by cases e), fun x y h => ⟨.inl ⟨rfl, rfl⟩, .nsl⟩, fun i b hb => by simp at hb⟩
  · have hget : ∀ j, j < cap → (Tr.mk (Z.map (AVal.i k))).get j = .i k (Z.getD j 0) := fun j hj => by
      rw [get_mk]; simp [List.getD, show j < Z.length by omega]
    refine ⟨[⟨0, cap, Tr.mk (Z.map (AVal.i k)), none⟩], [a], .sl ⟨true, pre.length, 0⟩ z.length (.known cap), rfl, (fun q n c e => by cases e; exact hcap), fun x y h => ⟨.inr ⟨⟨true, pre.length, 0⟩, .known cap, ⟨0, cap, Tr.mk (Z.map (AVal.i k)), none⟩, rfl, ?_, ?_, fun j hj => ?_⟩, ?_⟩, fun i b hb => ?_⟩
    · simp only [rdB, cond_true, lget_eq, List.append_assoc]
      rw [List.getElem?_append_right (Nat.le_refl _)]; simp
    · simpa using hcap
    · have e := hget j (by omega)
      have e2 : Z.getD j 0 = z.getD j 0 := by
        rw [hz, List.getD_eq_getElem?_getD, List.getD_eq_getElem?_getD, List.getElem?_take_of_lt hj]
      rw [e2] at e
      simpa using e
    · refine .slk _ _ _ _ ?_
      show (((prl ++ [a] ++ y)[pre.length]?).map fun x => x.add 0) = some a
      rw [List.append_assoc, List.getElem?_append_right (by omega), hp]; simp [Addr.add]
    · cases i with
      | zero =>
        simp at hb
        subst hb
        refine ⟨a, rfl, fun j hj => ?_⟩
        obtain ⟨h1, h2⟩ := hcell j hj
        refine ⟨h1, _, h2, fun y => ?_⟩
        have := hget j hj
        simp only [this]
        exact .i _ _
      | succ i => simp at hb

theorem env_ok {W : World} {ro : List ABlk} {rl : Rl} (h : ∀ (i : Nat) (b : ABlk), ro[i]? = some b → ∃ x, rl[i]? = some x ∧ ∀ j, j < b.n → x.block < W.heap.size ∧ ∃ v', W.cell? (x.add j) = some v' ∧ VR rl [] (b.c.get j) v') :
    (Env.mk Try.prog W.heap.size W ro rl).Ok := ⟨fun i b hb => h i b hb, Nat.le_refl _⟩
/-- what lies in the read-only blocks; more may come behind -/
def RoP (W : World) (ro : List ABlk) (rl : Rl) : Prop := ∀ (i : Nat) (b : ABlk), ro[i]? = some b → ∃ x, rl[i]? = some x ∧ ∀ j, j < b.n → x.block < W.heap.size ∧ ∃ v', W.cell? (x.add j) = some v' ∧ ∀ y, VR (rl ++ y) [] (b.c.get j) v'
theorem RoP.nil (W : World) : RoP W [] [] := fun i b hb => by simp at hb
theorem RoP.env {W : World} {ro : List ABlk} {rl : Rl} (h : RoP W ro rl) : (Env.mk Try.prog W.heap.size W ro rl).Ok := env_ok fun i b hb => by
  obtain ⟨y, h1, h2⟩ := h i b hb
  refine ⟨y, h1, fun j hj => ?_⟩
  obtain ⟨h3, v', h4, h5⟩ := h2 j hj
  exact ⟨h3, v', h4, by have := h5 []; simpa using this⟩
theorem RoP.snoc {W : World} {ro ro' : List ABlk} {rl rl' : Rl} (hl : ro.length = rl.length) (h : RoP W ro rl)
    (h' : ∀ (i : Nat) (b : ABlk), ro'[i]? = some b → ∃ x, rl'[i]? = some x ∧ ∀ j, j < b.n → x.block < W.heap.size ∧ ∃ v', W.cell? (x.add j) = some v' ∧ ∀ y, VR y [] (b.c.get j) v') : RoP W (ro ++ ro') (rl ++ rl') := by
  intro i b hb
  rcases Nat.lt_or_ge i ro.length with hi | hi
  · rw [List.getElem?_append_left hi] at hb
    obtain ⟨x, h1, h2⟩ := h i b hb
    refine ⟨x, by rw [List.getElem?_append_left (by omega)]; exact h1, fun j hj => ?_⟩
    obtain ⟨h3, v', h4, h5⟩ := h2 j hj
    exact ⟨h3, v', h4, fun y => by rw [List.append_assoc]; exact h5 _⟩
  · rw [List.getElem?_append_right hi] at hb
    obtain ⟨x, h1, h2⟩ := h' _ b hb
    refine ⟨x, by rw [List.getElem?_append_right (by omega), ← hl]; exact h1, fun j hj => ?_⟩
    obtain ⟨h3, v', h4, h5⟩ := h2 j hj
    exact ⟨h3, v', h4, fun y => h5 _⟩

/-- the call of the model: true, and below nothing has turned -/
theorem call_of {W : World} {ro : List ABlk} {rl : Rl} (hE : (Env.mk Try.prog W.heap.size W ro rl).Ok) {K : Nat} {vs : List AVal} {args : Array Value}
    (hv : LR rl [] vs args) {h' : Heap} {lw lp : Nat} (hc : callX F1 ro K vs [] = some (.b true, h', lw, lp)) : Calls Try.prog K args W fun e W' => e = .returned (.bool true) ∧ Below W.heap.size W W' := by
  have hm : (Env.mk Try.prog W.heap.size W ro rl).P.follows .mixedOrders = true := Try.checked.mixed
  have hO : CallOk (Env.mk Try.prog W.heap.size W ro rl) (known0 16 (.b true)) := known0_of hE hm fok alive0 rfl
  obtain ⟨-, h2⟩ := callX_sound hE hm (F := F1) fok hO K vs [] _ _ _ _ hc
  refine Calls.mono (h2 [] W args ⟨Below.refl _ _, rfl, by simp, fun i b r K hl => by simp [Live] at hl, fun i j b b' r K K' hl => by simp [Live] at hl⟩ hv) fun e w' hq => ?_
  obtain ⟨v', rfl, m', hvr, T⟩ := hq
  exact ⟨by rw [hvr.inv_b], T.hr.below⟩
theorem alive_pure {ro : List ABlk} {h : Heap} : callX F1 ro 16 [] h = some (.b true, h, h.length, h.length) := callX_ov rfl
end Go.Proofs.Ytnalgdobglfndaa.T

/- Blocks that a function makes for itself; loops whose state is known. -/
open Go.Vm
set_option linter.unusedVariables false
namespace Go.Proofs.Ytnalgdobglfndaa.T
open Go

/-- a block of the heap that holds these values -/
def Holds (hp : Heap) (b : Nat) (vs : List AVal) : Prop := ∃ blk : ABlk, lget hp b = some (some blk) ∧ blk.n = vs.length ∧ ∀ j, j < vs.length → blk.c.get j = vs.getD j und
/-- what was there is still there -/
def Keep (h hp : Heap) : Prop := h.length ≤ hp.length ∧ ∀ i, i < h.length → hp[i]? = h[i]?

section
variable {ro : List ABlk} {h hp hp' : Heap} {b k e n l p : Nat} {vs : List AVal}
theorem Keep.refl (h : Heap) : Keep h h := ⟨Nat.le_refl _, fun _ _ => rfl⟩
theorem Keep.trans {h1 : Heap} (a : Keep h h1) (c : Keep h1 hp) : Keep h hp := ⟨Nat.le_trans a.1 c.1, fun i hi => by rw [c.2 i (by have := a.1; omega), a.2 i hi]⟩
theorem Keep.app (x : Heap) : Keep h (h ++ x) := ⟨by simp, fun i hi => List.getElem?_append_left hi⟩
theorem Keep.set (a : Keep h hp) (hb : h.length ≤ b) (x : Option ABlk) : Keep h (hp.set b x) := ⟨by simpa using a.1, fun i hi => by rw [List.getElem?_set_ne (by omega)]; exact a.2 i hi⟩
theorem Keep.eq (a : Keep h hp) : hp.take h.length = h := by
  refine List.ext_getElem? fun i => ?_
  rcases Nat.lt_or_ge i h.length with hi | hi
  · rw [List.getElem?_take_of_lt hi, a.2 i hi]
  · rw [List.getElem?_eq_none (by simp; omega), List.getElem?_eq_none hi]
theorem fin_keep {v : AVal} (a : Keep h hp) (hv : v.bel h.length = true) : finM h.length v ⟨hp, h.length, h.length⟩ = some (v, h, h.length, h.length) := by
  rw [fin_take hv, a.eq]
theorem Holds.lt (a : Holds hp b vs) : b < hp.length := by obtain ⟨blk, h1, -⟩ := a; exact lget_lt h1
theorem Holds.new (hp : Heap) (e : Nat) (vs : List AVal) : Holds (hp ++ [some (blkOf e vs)]) hp.length vs := ⟨_, lget_last _ _, rfl, fun j _ => get_blk e vs j⟩
theorem Holds.keep (a : Holds hp b vs) (hk : hp'[b]? = hp[b]?) : Holds hp' b vs := by
  obtain ⟨blk, h1, h2⟩ := a
  exact ⟨blk, by rw [lget_of hk]; exact h1, h2⟩
theorem Holds.ext (a : Holds hp b vs) (x : Heap) : Holds (hp ++ x) b vs := a.keep (List.getElem?_append_left a.lt)
theorem Holds.by (a : Holds hp b vs) (k : Keep hp hp') : Holds hp' b vs := a.keep (k.2 b a.lt)
theorem Holds.one (a : Holds hp b vs) (hk : k < vs.length) : ldM ro ⟨hp, l, p⟩ true 1 (.p (some ⟨false, b, 0 + k⟩)) = some (vs.getD k und) := by
  obtain ⟨blk, h1, h2, h3⟩ := a
  rw [ld_heap rfl h1 (by omega), ← h3 k hk, Nat.zero_add]
theorem Holds.oneA (a : Holds hp b vs) (hk : k < vs.length) : ldA ro hp true 1 (.p (some ⟨false, b, 0 + k⟩)) = some (vs.getD k und) := by
  obtain ⟨blk, h1, h2, h3⟩ := a
  rw [lda_heap h1 (by omega), ← h3 k hk, Nat.zero_add]
theorem row_list {t : Tr} : ∀ (vs : List AVal) (i : Nat), (∀ j, j < vs.length → t.get (i + j) = vs.getD j und) → t.row i vs.length = vs
  | [], i, _ => rfl
  | v :: vs, i, h => by
    simp only [List.length_cons, Tr.row]
    rw [show t.get i = v by simpa using h 0 (by simp), row_list vs (i + 1) fun j hj => by have := h (j + 1) (by simp; omega); rw [show i + 1 + j = i + (j + 1) by omega, this]; simp]
theorem Holds.rd (a : Holds hp b vs) (hn : n = vs.length) : Go.Vm.rd ro hp false n ⟨false, b, 0⟩ = some (.agg vs) := by
  subst hn
  obtain ⟨blk, h1, h2, h3⟩ := a
  have hc : Nat.ble (0 + vs.length) blk.n = true := by rw [Nat.ble_eq]; omega
  simp only [Go.Vm.rd, rdB_heap h1, cond_false, hc, cond_true]
  rw [row_list vs 0 fun j hj => by rw [Nat.zero_add]; exact h3 j hj]
theorem Holds.all (a : Holds hp b vs) (hn : n = vs.length) : ldM ro ⟨hp, l, p⟩ false n (.p (some ⟨false, b, 0⟩)) = some (.agg vs) := by
  simp only [ldM, a.rd hn]
theorem spliceGet (t : Tr) : ∀ (vs : List AVal) (i j : Nat), (t.splice i vs).get j = if i ≤ j ∧ j < i + vs.length then vs.getD (j - i) und else t.get j
  | [], i, j => by simp [Tr.splice]; intro h1 h2; omega
  | v :: vs, i, j => by
    rw [Tr.splice, spliceGet (t.set i v) vs (i + 1) j, get_set]
    by_cases e : i = j
    · subst e
      rw [if_neg (by omega), if_pos rfl, if_pos (by simp)]; simp
    · by_cases h2 : i ≤ j ∧ j < i + (v :: vs).length
      · have h3 : i + 1 ≤ j ∧ j < i + 1 + vs.length := by simp at h2; omega
        rw [if_pos h2, if_pos h3]
        obtain ⟨q, rfl⟩ : ∃ q, j = i + 1 + q := ⟨j - (i + 1), by omega⟩
        rw [show i + 1 + q - i = q + 1 by omega, show i + 1 + q - (i + 1) = q by omega]
        simp
      · have h3 : ¬ (i + 1 ≤ j ∧ j < i + 1 + vs.length) := by simp at h2; omega
        rw [if_neg h2, if_neg h3, if_neg e]
theorem wrH_all {blk : ABlk} (hb : lget hp b = some (some blk)) (hn : vs.length ≤ blk.n) (ho : ones vs = true) : wrH hp ⟨false, b, 0⟩ vs = some (hp.set b (some { blk with c := blk.c.splice 0 vs })) := by
  have : (Nat.ble (0 + vs.length) blk.n && ones vs) = true := by rw [ho, Bool.and_true, Nat.ble_eq]; omega
  simp only [wrH, cond_false, hb, this, cond_true, lset_eq]
/-- a block is written whole -/
theorem Holds.st {vs' : List AVal} {v : AVal} (a : Holds hp b vs) (hv : v.cells = vs') (hn : n = vs'.length) (hl : vs'.length = vs.length) (ho : ones vs' = true) (hL : h.length ≤ b) (kp : Keep h hp) :
    ∃ hp', stepM ro ⟨hp, h.length, h.length⟩ (.st n (.c (.p (some ⟨false, b, 0⟩))) (.c v)) = some (und, ⟨hp', h.length, h.length⟩) ∧ Holds hp' b vs' ∧ hp'.length = hp.length ∧ (∀ i, i ≠ b → hp'[i]? = hp[i]?) ∧ Keep h hp' := by
  obtain ⟨blk, h1, h2, h3⟩ := a
  subst hv hn
  have hw := wrH_all h1 (vs := v.cells) (by omega) ho
  refine ⟨hp.set b (some { blk with c := blk.c.splice 0 v.cells }), ?_, ⟨_, lget_set h1 _, by simpa using (h2.trans hl.symm), fun j hj => ?_⟩, by simp, fun i hi => List.getElem?_set_ne (Ne.symm hi), kp.set hL _⟩
  · have hbq : Nat.beq v.cells.length v.cells.length = true := Nat.beq_refl _
    have e : (cond (nonp v.cells) h.length h.length) = h.length := by cases nonp v.cells <;> rfl
    simp only [stepM, stepK, opd, st_st, hbq, cond_true, hw, St.mm, Nat.min_eq_left hL, e]
  · show (blk.c.splice 0 v.cells).get j = _
    rw [spliceGet, if_pos (by omega)]; simp
theorem bx_ok (e : Nat) (hn : vs.length = n) : stepM ro ⟨hp, l, p⟩ (.bx e n (.c (.agg vs))) = some (.p (some ⟨false, hp.length, 0⟩), ⟨hp ++ [some (blkOf e vs)], l, p⟩) := by
  subst hn
  have hbq : Nat.beq vs.length vs.length = true := Nat.beq_refl _
  simp only [stepM, stepK, opd, st_bx, AVal.cells, hbq, cond_true, newB, St.mm]
end

theorem ext0 (a : AVal) (l : List AVal) : evP .e (.ext 0 (.c (.tup (a :: l)))) = some a := rfl
theorem ext1 (a b : AVal) (l : List AVal) : evP .e (.ext 1 (.c (.tup (a :: b :: l)))) = some b := rfl
section
variable {ro : List ABlk} {h : Heap} {v : AVal}
theorem row_by {hp : Heap} {z : List Int} (a : IsRow ro h v z) (k : Keep h hp) : IsRow ro hp v z := by
  rw [take_eq k.1 k.2]; exact a.ext _
end

/-- one cell of a block is written -/
theorem Holds.set {ro : List ABlk} {h hp : Heap} {b k : Nat} {vs : List AVal} {v : AVal} (a : Holds hp b vs) (hk : k < vs.length) (hv : v.one = true) (hc : v.cells = [v]) (hn : nonp [v] = true) (hL : h.length ≤ b) (kp : Keep h hp) :
    ∃ hp', stepM ro ⟨hp, h.length, h.length⟩ (.st 1 (.c (.p (some ⟨false, b, 0 + k * 1⟩))) (.c v)) = some (und, ⟨hp', h.length, h.length⟩) ∧ Holds hp' b (vs.set k v) ∧ hp'.length = hp.length ∧ (∀ i, i ≠ b → hp'[i]? = hp[i]?) ∧ Keep h hp' := by
  obtain ⟨blk, h1, h2, h3⟩ := a
  have e : 0 + k * 1 = k := by omega
  refine ⟨hp.set b (some { blk with c := blk.c.set k v }), ?_, ⟨_, lget_set h1 _, by simpa using h2, fun j hj => ?_⟩, by simp, fun i hi => List.getElem?_set_ne (Ne.symm hi), kp.set hL _⟩
  · rw [e, st_heap h1 (by omega) hv hc hn, Nat.min_eq_left hL]
  · show (blk.c.set k v).get j = _
    rw [get_set]
    simp only [List.length_set] at hj
    by_cases e : k = j
    · subst e; simp [List.getD, hj]
    · rw [if_neg e, h3 j hj]
      simp [List.getD, List.getElem?_set_ne e]


/-- a loop whose state is known for each round -/
theorem loop_st {S R : Type} {b : S → Option (S ⊕ R)} (st : Nat → S) (n : Nat) (step : Nat → Option R) (r0 : R) (hout : b (st n) = some (.inr r0)) (hin : ∀ i, i < n → b (st i) = some (match step i with | some r => .inr r | none => .inl (st (i + 1)))) :
    ∀ (k i : Nat), i + k = n → loopX b (st i) = some ((firstS step k i).getD r0)
  | 0, i, hi => by
    simp only [Nat.add_zero] at hi
    subst hi
    exact loopX_out hout
  | k + 1, i, hi => by
    have h1 := hin i (by omega)
    unfold firstS
    cases hs : step i with
    | some r => rw [hs] at h1; exact loopX_out h1
    | none =>
      rw [hs] at h1
      exact loopX_on h1 (loop_st st n step r0 hout hin k (i + 1) (by omega))
/-- one that runs to its end -/
theorem loop_run {S R : Type} {b : S → Option (S ⊕ R)} (st : Nat → S) (n : Nat) {r0 : R} (hout : b (st n) = some (.inr r0)) (hin : ∀ i, i < n → b (st i) = some (.inl (st (i + 1)))) : loopX b (st 0) = some r0 := by
  have := loop_st st n (fun _ => none) r0 hout hin n 0 (by omega)
  rw [firstS_none.2 fun _ _ _ => rfl] at this
  exact this
/-- one that looks for something -/
theorem loop_if {S R : Type} {b : S → Option (S ⊕ R)} (st : Nat → S) (n : Nat) (P : Nat → Prop) [DecidablePred P] (r0 r1 : R) (hout : b (st n) = some (.inr r0)) (hin : ∀ i, i < n → P i → b (st i) = some (.inl (st (i + 1)))) (hno : ∀ i, i < n → ¬ P i → b (st i) = some (.inr r1)) :
    loopX b (st 0) = some (if (∀ i, i < n → P i) then r0 else r1) := by
  have := loop_st st n (fun i => if P i then none else some r1) r0 hout (fun i hi => by
    by_cases hp : P i
    · rw [if_pos hp]; exact hin i hi hp
    · rw [if_neg hp]; exact hno i hi hp) n 0 (by omega)
  rw [this]
  by_cases hall : ∀ i, i < n → P i
  · rw [if_pos hall, firstS_none.2 fun j _ h2 => by rw [if_pos (hall j (by omega))]]; rfl
  · rw [if_neg hall]
    cases hf : firstS (fun i => if P i then none else some r1) n 0 with
    | none =>
      refine absurd (fun i hi => ?_) hall
      have := firstS_none.1 hf i (by omega) (by omega)
      simpa using this
    | some r =>
      obtain ⟨j, -, -, h3, -⟩ := firstS_some hf
      by_cases hc : P j
      · rw [if_pos hc] at h3; cases h3
      · rw [if_neg hc] at h3; cases h3; rfl

theorem dT {p : Prop} [Decidable p] (h : p) : decide p = true := decide_eq_true h
theorem dF {p : Prop} [Decidable p] (h : ¬ p) : decide p = false := decide_eq_false h
theorem row_bel {ro : List ABlk} {h : Heap} {v : AVal} {z : List Int} (a : IsRow ro h v z) : v.bel h.length = true := by
  rcases a with ⟨rfl, -⟩ | ⟨q, cap, blk, rfl, hb, -⟩
  · rfl
  · simpa [AVal.bel] using rdB_lt hb
theorem mat_by {ro : List ABlk} {h hp : Heap} {v : AVal} {z : List (List Int)} (a : IsMat ro h v z) (k : Keep h hp) : IsMat ro hp v z := by
  rw [take_eq k.1 k.2]; exact a.ext _
theorem at_rowK {ro : List ABlk} {h : Heap} {v : AVal} {z : List Int} (hr : IsRow ro h v z) {i : Nat} (hi : i < z.length) : ∃ p, evP .e (.ixS 1 (.c v) (.c (.i .i64 (i : Int)))) = some p ∧ ∀ {hp : Heap} {l q : Nat}, Keep h hp → ldM ro ⟨hp, l, q⟩ true 1 p = some (.i .i64 (z.getD i 0)) ∧ ldA ro hp true 1 p = some (.i .i64 (z.getD i 0)) := by
  obtain ⟨p, h1, -⟩ := at_row (m := ⟨h, 0, 0⟩) rfl hr hi
  refine ⟨p, h1, fun {hp l q} k => ?_⟩
  obtain ⟨p', g1, g2, g3⟩ := at_row (m := ⟨hp, l, q⟩) rfl (row_by hr k) hi
  rw [h1] at g1; cases g1
  exact ⟨g2, g3⟩
theorem at_matK {ro : List ABlk} {h : Heap} {v : AVal} {x : List (List Int)} (hr : IsMat ro h v x) {i : Nat} (hi : i < x.length) : ∃ p u, evP .e (.ixS 1 (.c v) (.c (.i .i64 (i : Int)))) = some p ∧ (∀ {hp : Heap} {l q : Nat}, Keep h hp → ldM ro ⟨hp, l, q⟩ true 1 p = some u ∧ ldA ro hp true 1 p = some u) ∧ IsRow ro h u (x.getD i []) := by
  rcases hr with ⟨rfl, rfl⟩ | ⟨q, cap, blk, rfl, hb, hn, hc⟩
  · simp at hi
  · refine ⟨_, _, ixS_eq hi, fun {hp l q'} k => ?_, hc i hi⟩
    have hb' : rdB ro hp q = some blk := by rw [take_eq k.1 k.2]; exact rdB_ext _ hb
    have h1 := rd_one (i := i) hb' (by omega)
    refine ⟨h1, ?_⟩
    have := rdB_lt hb'
    simp only [ldA, this, cond_true, h1]
abbrev nthR (x : List (List Int)) (i : Nat) : List Int := x.getD i []
theorem cp {F : Tab} {ro : List ABlk} {h : Heap} {f : Nat} {a : List AVal} {v : AVal} {l p : Nat} (e : callX F ro f a h = some (v, h, h.length, h.length)) (hl : l ≤ h.length) (hp : p ≤ h.length) : callM (callX F ro) ⟨h, l, p⟩ f a = some (v, ⟨h, l, p⟩) :=
  callM_pure e hl hp
theorem cp0 {F : Tab} {ro : List ABlk} {h : Heap} {f : Nat} {a : List AVal} {v : AVal} (e : callX F ro f a h = some (v, h, h.length, h.length)) : callM (callX F ro) ⟨h, h.length, h.length⟩ f a = some (v, ⟨h, h.length, h.length⟩) :=
  callM_pure e (Nat.le_refl _) (Nat.le_refl _)

/- the laws' own: few, same -/
def few (x : List (List Int)) (z : List Int) : Prop := (∀ i, i < x.length → i < 250 ∧ (nthR x i).length ≤ 40) ∧ z.length ≤ 1100
instance (x : List (List Int)) (z : List Int) : Decidable (few x z) := inferInstanceAs (Decidable ((∀ i, i < x.length → i < 250 ∧ (nthR x i).length ≤ 40) ∧ z.length ≤ 1100))
theorem few.len {x : List (List Int)} {z : List Int} (h : few x z) : x.length ≤ 250 := by
  by_cases h1 : x.length = 0
  · omega
  · have := (h.1 (x.length - 1) (by omega)).1
    omega
theorem few_ok {ro : List ABlk} {h : Heap} {a b : AVal} {x : List (List Int)} {z : List Int} (ha : IsMat ro h a x) (hb : IsRow ro h b z) (hx : x.length ≤ 9223372036854775807) : callX F1 ro 15 [a, b] h = some (.b (decide (few x z)), h, h.length, h.length) := by
  refine g15_ok (meansX_ok F1 ro) rfl ?_
  unfold g15
  simp only [meansX_loop]
  have hloop := loop_if (b := fun s => g15_b0 (meansX F1 ro) ro a b ⟨h, h.length, h.length⟩ s) (fun i => (i : Int)) x.length (fun i => i < 250 ∧ (nthR x i).length ≤ 40) (.inl ()) (.inr false) ?_ ?_ ?_
  · have e0 : ((0 : Nat) : Int) = 0 := rfl
    rw [e0] at hloop
    rw [hloop]
    by_cases hf : ∀ i, i < x.length → i < 250 ∧ (nthR x i).length ≤ 40
    · rw [if_pos hf]
      simp only [bindO_some, len_row hb, asI_i, forceB_eq, ltI_eq, tupA]
      have e : decide (few x z) = !decide ((1100 : Int) < (z.length : Int)) := by
        rw [← decide_not]; exact decide_eq_decide.2 ⟨fun hh => by have := hh.2; omega, fun hh => ⟨hf, by omega⟩⟩
      rw [e]
      exact fin_pure rfl
    · rw [if_neg hf]
      have e : decide (few x z) = false := by simp only [decide_eq_false_iff_not]; exact fun hh => hf hh.1
      simp only [bindO_some, e, tupA]
      exact fin_pure rfl
  · simp only [g15_b0, len_mat ha, bindO_some, asI_i, forceB_eq, ltI_eq]
    simp
  · intro i hi hp
    obtain ⟨p, u, h1, h2, h3, h4⟩ := at_mat (m := ⟨h, h.length, h.length⟩) rfl ha hi
    have e := lt_yes hi
    have e2 : (!decide ((i : Int) < 250)) = false := by have := hp.1; simp; omega
    have h5 : (x.getD i []).length ≤ 40 := hp.2
    have e3 : decide ((40 : Int) < ((x.getD i []).length : Int)) = false := dF (by omega)
    simp only [g15_b0, len_mat ha, bindO_some, asI_i, forceB_eq, ltI_eq, e, cond_true, e2, cond_false, h1, h2, len_row h4, e3, forceI_eq]
    rw [wr_id' (by omega) (by omega)]
    rfl
  · intro i hi hp
    obtain ⟨p, u, h1, h2, h3, h4⟩ := at_mat (m := ⟨h, h.length, h.length⟩) rfl ha hi
    have e := lt_yes hi
    by_cases h250 : i < 250
    · have e2 : (!decide ((i : Int) < 250)) = false := by simp; omega
      have e3 : decide ((40 : Int) < ((x.getD i []).length : Int)) = true := by
        have : ¬ (x.getD i []).length ≤ 40 := fun hh => hp ⟨h250, hh⟩
        exact dT (by omega)
      simp only [g15_b0, len_mat ha, bindO_some, asI_i, forceB_eq, ltI_eq, e, cond_true, e2, cond_false, h1, h2, len_row h4, e3]
    · have e2 : (!decide ((i : Int) < 250)) = true := by simp; omega
      simp only [g15_b0, len_mat ha, bindO_some, asI_i, forceB_eq, ltI_eq, e, cond_true, e2]

theorem same_ok {ro : List ABlk} {h : Heap} {a b : AVal} {x y : List Int} (ha : IsRow ro h a x) (hb : IsRow ro h b y) (hx : x.length ≤ 1000000) :
    callX F1 ro 20 [a, b] h = some (.b (decide (x = y)), h, h.length, h.length) := by
  refine g20_ok (meansX_ok F1 ro) rfl ?_
  unfold g20
  simp only [len_row ha, len_row hb, bindO_some, asI_i, forceB_eq, eqI_eq, meansX_loop]
  by_cases hl : x.length = y.length
  · have e : ((x.length : Int) == (y.length : Int)) = true := by simp [hl]
    simp only [e, Bool.not_true, cond_false]
    have hloop := loop_if (b := fun s => g20_b0 (meansX F1 ro) ro a b ⟨h, h.length, h.length⟩ s) (fun i => (i : Int)) x.length (fun i => x.getD i 0 = y.getD i 0) (.inl ()) (.inr false) ?_ ?_ ?_
    · have e0 : ((0 : Nat) : Int) = 0 := rfl
      rw [e0] at hloop
      rw [hloop]
      by_cases hxy : x = y
      · rw [if_pos (fun i _ => by rw [hxy])]
        simp only [bindO_some, hxy, decide_true, tupA]
        exact fin_pure rfl
      · rw [if_neg (fun hall => hxy (List.ext_getElem hl fun i h1 h2 => by have := hall i h1; simpa [List.getD, h1, h2] using this))]
        simp only [bindO_some, hxy, decide_false, tupA]
        exact fin_pure rfl
    · simp only [g20_b0, len_row ha, bindO_some, asI_i, forceB_eq, ltI_eq]
      simp
    · intro i hi hp
      obtain ⟨p, h1, h2, h3⟩ := at_row (m := ⟨h, h.length, h.length⟩) rfl ha hi
      obtain ⟨p', h1', h2', h3'⟩ := at_row (m := ⟨h, h.length, h.length⟩) rfl hb (by omega : i < y.length)
      have e := lt_yes hi
      have e2 : (!(x.getD i 0 == y.getD i 0)) = false := by rw [hp]; simp
      simp only [g20_b0, len_row ha, bindO_some, asI_i, forceB_eq, ltI_eq, e, cond_true, h1, h3, h1', h3', eqI_eq, e2, cond_false, forceI_eq]
      rw [wr_id' (by omega) (by omega)]
      rfl
    · intro i hi hp
      obtain ⟨p, h1, h2, h3⟩ := at_row (m := ⟨h, h.length, h.length⟩) rfl ha hi
      obtain ⟨p', h1', h2', h3'⟩ := at_row (m := ⟨h, h.length, h.length⟩) rfl hb (by omega : i < y.length)
      have e := lt_yes hi
      have e2 : (!(x.getD i 0 == y.getD i 0)) = true := by simpa using hp
      simp only [g20_b0, len_row ha, bindO_some, asI_i, forceB_eq, ltI_eq, e, cond_true, h1, h3, h1', h3', eqI_eq, e2]
  · have e : ((x.length : Int) == (y.length : Int)) = false := by simp; omega
    have hxy : ¬ (x = y) := fun e => hl (by rw [e])
    simp only [e, Bool.not_false, cond_true, hxy, decide_false, tupA]
    exact fin_pure rfl
end Go.Proofs.Ytnalgdobglfndaa.T

/- Lists that a function makes by append. -/
open Go.Vm
set_option linter.unusedVariables false
namespace Go.Proofs.Ytnalgdobglfndaa.T
open Go

/-- a list made by append, in a block from L on -/
def GV (hp : Heap) (L e es : Nat) (v : AVal) (k : Nat) (cs : List AVal) : Prop :=
  (v = .nsl ∧ k = 0 ∧ cs = []) ∨ ∃ b blk, v = .sl ⟨false, b, 0⟩ k .grow ∧ 0 < k ∧ L ≤ b ∧ lget hp b = some (some blk) ∧ blk.e = e ∧ cs.length = k * es ∧ k * es ≤ blk.n ∧ ∀ j, j < k * es → blk.c.get j = cs.getD j und
theorem GV.nil (hp : Heap) (L e es : Nat) : GV hp L e es .nsl 0 [] := .inl ⟨rfl, rfl, rfl⟩
theorem GV.clen {hp : Heap} {L e es k : Nat} {v : AVal} {cs : List AVal} (g : GV hp L e es v k cs) : cs.length = k * es := by
  rcases g with ⟨-, rfl, rfl⟩ | ⟨b, blk, -, -, -, -, -, h, -⟩
  · simp
  · exact h
/-- blocks below L, and those above that are kept, hold the list as before -/
theorem GV.by {hp hp' : Heap} {L e es k : Nat} {v : AVal} {cs : List AVal} (g : GV hp L e es v k cs) (kp : Keep hp hp') : GV hp' L e es v k cs := by
  rcases g with h | ⟨b, blk, h1, h2, h3, h4, h5⟩
  · exact .inl h
  · exact .inr ⟨b, blk, h1, h2, h3, by rw [lget_of (kp.2 b (lget_lt h4))]; exact h4, h5⟩
theorem row_row {t : Tr} : ∀ (n i : Nat) (cs : List AVal), cs.length = n → (∀ j, j < n → t.get (i + j) = cs.getD j und) → t.row i n = cs := by
  intro n i cs hl h
  subst hl
  exact row_list cs i h
theorem GV.push {ro : List ABlk} {hp : Heap} {L0 L e es bytes k : Nat} {z : List AVal} {v w : AVal} {cs ws : List AVal} (g : GV hp L e es v k cs) (hL0 : L0 ≤ L) (hL : L ≤ hp.length) (hk : k ≤ 100000) (hb : bytes ≤ 1000) (hes : 0 < es) (hz : z.length = es) (hw : w.cells = ws) (hwl : ws.length = es) (ho : ones ws = true) (hsp : splice z 0 ws = ws) :
    ∃ v2 hp2 v3 hp3, stepM ro ⟨hp, L0, L0⟩ (.bsl e es z 1 [((0, es), .c w)]) = some (v2, ⟨hp2, L0, L0⟩) ∧ stepM ro ⟨hp2, L0, L0⟩ (.app e es bytes z (.c v) (.c v2)) = some (v3, ⟨hp3, L0, L0⟩) ∧
      GV hp3 L e es v3 (k + 1) (cs ++ ws) ∧ hp.length ≤ hp3.length ∧ ∀ i, i < L → hp3[i]? = hp[i]? := by
  have s1 : stepM ro ⟨hp, L0, L0⟩ (.bsl e es z 1 [((0, es), .c w)]) = some (.sl ⟨false, hp.length, 0⟩ 1 (.known 1), ⟨hp ++ [some (blkOf e ws)], L0, L0⟩) := by
    simp [stepM, stepK, st_bsl, rep, fillA, opd, hw, hwl, hz, hsp, newB, St.mm]
  have src : app_src ro (hp ++ [some (blkOf e ws)]) es (.sl ⟨false, hp.length, 0⟩ 1 (.known 1)) = some (ws, 1) := by
    have hbq : rdB ro (hp ++ [some (blkOf e ws)]) ⟨false, hp.length, 0⟩ = some (blkOf e ws) := by simp [rdB, lget_eq]
    have hg : (blkOf e ws).c.row 0 es = ws := row_row es 0 ws hwl fun j hj => by rw [Nat.zero_add, get_blk]
    have hble : Nat.ble (0 + 1 * es) (blkOf e ws).n = true := by rw [Nat.ble_eq]; show 0 + 1 * es ≤ ws.length; omega
    simp only [app_src, hbq, hble, cond_true]
    rw [show 1 * es = es by omega, hg]
  rcases g with ⟨rfl, rfl, rfl⟩ | ⟨b, blk, rfl, hpos, hLb, hbk, hbe, hcl, hbn, hrows⟩
  · refine ⟨_, _, .sl ⟨false, hp.length + 1, 0⟩ 1 .grow, hp ++ [some (blkOf e ws)] ++ [some (blkOf e ws)], s1, ?_, .inr ⟨hp.length + 1, blkOf e ws, rfl, by omega, by omega, ?_, rfl, by simp; omega, by show 1 * es ≤ ws.length; omega, fun j hj => ?_⟩, by simp, fun i hi => ?_⟩
    · have hb1 : Nat.beq 1 0 = false := rfl
      simp only [stepM, stepK, opd, st_app, src, hb1, cond_false, fits_small (by omega : 1 ≤ 1000000) hb, cond_true, newB, St.mm, List.length_append, List.length_cons, List.length_nil, Nat.zero_add]
    · have := lget_last (hp ++ [some (blkOf e ws)]) (some (blkOf e ws))
      rwa [List.length_append, List.length_singleton] at this
    · rw [get_blk]; simp
    · rw [List.append_assoc, List.getElem?_append_left (by omega)]
  · obtain ⟨hp2, e2⟩ : ∃ hp2, hp2 = hp ++ [some (blkOf e ws)] := ⟨_, rfl⟩
    rw [← e2] at src s1
    have hlt : b < hp.length := lget_lt hbk
    have hb2 : lget hp2 b = some (some blk) := by rw [e2]; exact lget_ext hbk _
    have hlen2 : hp2.length = hp.length + 1 := by rw [e2]; simp
    have hrow : blk.c.row 0 (k * es) = cs := row_row (k * es) 0 cs hcl fun j hj => by rw [Nat.zero_add]; exact hrows j hj
    have hke : 0 < k * es := Nat.mul_pos hpos hes
    refine ⟨_, _, .sl ⟨false, hp2.length, 0⟩ (k + 1) .grow, lset none hp2 b ++ [some (blkOf e (cs ++ ws))], s1, ?_, .inr ⟨hp2.length, blkOf e (cs ++ ws), rfl, by omega, by omega, ?_, rfl, ?_, ?_, fun j hj => ?_⟩, ?_, fun i hi => ?_⟩
    · have h1 : (Nat.beq blk.e e && Nat.ble (k * es) blk.n && fits (k + 1) bytes && ones ws) = true := by
        rw [hbe, fits_small (by omega : k + 1 ≤ 1000000) hb]
        simp [ho, Nat.ble_eq]; omega
      have h2 : (false || !Nat.beq 0 0 || Nat.beq 1 0) = false := rfl
      have h3 : Nat.blt 0 blk.n = true := by rw [Nat.blt_eq]; omega
      simp only [stepM, stepK, opd, st_app, src, app_grow, h2, cond_false, hb2, h1, h3, Bool.and_self, cond_true, St.mm, hrow, Nat.min_eq_left (Nat.le_trans hL0 hLb)]
    · rw [lget_eq, lset_eq, List.getElem?_append_right (by simp)]
      simp
    · rw [List.length_append, hcl, hwl, Nat.add_mul]; omega
    · show (k + 1) * es ≤ (cs ++ ws).length
      rw [List.length_append, hcl, hwl, Nat.add_mul]; omega
    · rw [get_blk]
    · simp [lset_eq]; omega
    · rw [lset_eq, List.getElem?_append_left (by simp; omega), List.getElem?_set_ne (by omega), e2, List.getElem?_append_left (by omega)]
theorem GV.row {ro : List ABlk} {hp : Heap} {L e : Nat} {v : AVal} {k : Nat} {z : List Int} (g : GV hp L e 1 v k (z.map (AVal.i .i64))) (hk : z.length = k) : IsRow ro hp v z := by
  subst hk
  rcases g with ⟨rfl, h2, -⟩ | ⟨b, blk, rfl, hpos, hLb, hbk, hbe, hcl, hbn, hrows⟩
  · exact .inl ⟨rfl, List.length_eq_zero_iff.1 h2⟩
  · refine .inr ⟨_, _, blk, rfl, rdB_heap hbk 0, by simpa using hbn, fun j hj => ?_⟩
    rw [Nat.zero_add, hrows j (by omega), map_getD hj]
end Go.Proofs.Ytnalgdobglfndaa.T

/- What a record is: the program's checks and the reference's. -/
open Go.Vm
set_option linter.unusedVariables false
namespace Go.Proofs.Ytnalgdobglfndaa.T
open Go

def bitP (x : Int) : Prop := x = 0 ∨ x = 1
instance (x : Int) : Decidable (bitP x) := inferInstanceAs (Decidable (_ ∨ _))
def bitsP (z : List Int) : Prop := ∀ j, j < z.length → bitP (z.getD j 0)
instance (z : List Int) : Decidable (bitsP z) := inferInstanceAs (Decidable (∀ j, j < z.length → bitP (z.getD j 0)))
/-- a row of so many numbers 0 or 1 -/
def rowP (z : List Int) (n : Int) : Prop := bitsP z ∧ (z.length : Int) = n
instance (z : List Int) (n : Int) : Decidable (rowP z n) := inferInstanceAs (Decidable (_ ∧ _))
def matP (x : List (List Int)) (k n : Int) : Prop := (∀ i, i < x.length → rowP (nthR x i) n) ∧ (x.length : Int) = k
instance (x : List (List Int)) (k n : Int) : Decidable (matP x k n) := inferInstanceAs (Decidable (_ ∧ _))

section
variable {ro : List ABlk} {h : Heap} {a b : AVal} {x : List (List Int)} {z : List Int}

theorem bit_ok {n : Int} : callX F1 ro 65 [.i .i64 n] h = some (.b (decide (bitP n)), h, h.length, h.length) := by
  refine g65_ok (meansX_ok F1 ro) rfl ?_
  unfold g65
  simp only [forceB_eq, eqI_eq]
  have e : decide (bitP n) = ((n == 0) || (n == 1)) := by
    by_cases h0 : n = 0
    · subst h0; rfl
    · by_cases h1 : n = 1
      · subst h1; rfl
      · rw [dF (show ¬ bitP n from fun hh => by rcases hh with hh | hh <;> contradiction)]; simp [h0, h1]
  rw [e]
  cases h0 : (n == 0)
  · simp only [cond_false, bindO_some, Bool.false_or, tupA]; exact fin_pure rfl
  · simp only [cond_true, bindO_some, Bool.true_or, tupA]; exact fin_pure rfl

theorem areBits_ok {n : Int} (hb : IsRow ro h b z) (hz : z.length ≤ 9223372036854775807) : callX F1 ro 61 [b, .i .i64 n] h = some (.b (decide (rowP z n)), h, h.length, h.length) := by
  refine g61_ok (meansX_ok F1 ro) rfl ?_
  unfold g61
  simp only [len_row hb, bindO_some, asI_i, meansX_loop]
  have hloop := loop_if (b := fun s => g61_b0 (meansX F1 ro) ro b n z.length ⟨h, h.length, h.length⟩ s) (fun i => (i : Int)) z.length (fun i => bitP (z.getD i 0)) (.inl ()) (.inr false) ?_ ?_ ?_
  · have e0 : ((0 : Nat) : Int) = 0 := rfl
    rw [e0] at hloop
    rw [hloop]
    by_cases hf : bitsP z
    · rw [if_pos (show ∀ i, i < z.length → bitP (z.getD i 0) from hf)]
      simp only [bindO_some, forceB_eq, eqI_eq, tupA]
      have e : decide (rowP z n) = ((z.length : Int) == n) := by
        by_cases hn : (z.length : Int) = n
        · rw [dT (show rowP z n from ⟨hf, hn⟩)]; simp [hn]
        · rw [dF (show ¬ rowP z n from fun hh => hn hh.2)]; simp [hn]
      rw [e]
      exact fin_pure rfl
    · rw [if_neg (show ¬ ∀ i, i < z.length → bitP (z.getD i 0) from hf)]
      simp only [bindO_some, dF (show ¬ rowP z n from fun hh => hf hh.1), tupA]
      exact fin_pure rfl
  · simp only [g61_b0, forceB_eq, ltI_eq, lt_no, cond_false]
  · intro i hi hp
    obtain ⟨p, h1, h2, h3⟩ := at_row (m := ⟨h, h.length, h.length⟩) rfl hb hi
    simp only [g61_b0, forceB_eq, ltI_eq, lt_yes hi, cond_true, h1, h2, bindO_some, asI_i, eqI_eq]
    rcases hp with hp | hp
    · simp only [hp, beq_self_eq_true, Bool.not_true, cond_false, bindO_some, forceI_eq]
      rw [wr_id' (by omega) (by omega)]; rfl
    · have e0 : ((1 : Int) == 0) = false := rfl
      simp only [hp, e0, Bool.not_false, cond_true, beq_self_eq_true, Bool.not_true, cond_false, bindO_some, forceI_eq]
      rw [wr_id' (by omega) (by omega)]; rfl
  · intro i hi hp
    obtain ⟨p, h1, h2, h3⟩ := at_row (m := ⟨h, h.length, h.length⟩) rfl hb hi
    have e0 : (z.getD i 0 == 0) = false := by rw [beq_eq_false_iff_ne]; exact fun hh => hp (.inl hh)
    have e1 : (z.getD i 0 == 1) = false := by rw [beq_eq_false_iff_ne]; exact fun hh => hp (.inr hh)
    simp only [g61_b0, forceB_eq, ltI_eq, lt_yes hi, cond_true, h1, h2, bindO_some, asI_i, eqI_eq, e0, e1, Bool.not_false]

/-- how long the rows and the list are: no more than an int can count -/
def LenOk (x : List (List Int)) : Prop := x.length ≤ 9223372036854775807 ∧ ∀ i, i < x.length → (nthR x i).length ≤ 9223372036854775807
theorem areSaid_ok {k n : Int} (ha : IsMat ro h a x) (hl : LenOk x) : callX F1 ro 68 [a, .i .i64 k, .i .i64 n] h = some (.b (decide (matP x k n)), h, h.length, h.length) := by
  refine g68_ok (meansX_ok F1 ro) rfl ?_
  unfold g68
  simp only [len_mat ha, bindO_some, asI_i, meansX_loop]
  have hloop := loop_if (b := fun s : Int × Mm => g68_b0 (meansX F1 ro) ro a k n x.length s.1 s.2) (fun i => ((i : Int), (⟨h, h.length, h.length⟩ : Mm))) x.length (fun i => rowP (nthR x i) n) (.inl ⟨h, h.length, h.length⟩) (.inr (false, ⟨h, h.length, h.length⟩)) ?_ ?_ ?_
  · have e0 : ((0 : Nat) : Int) = 0 := rfl
    rw [e0] at hloop
    rw [hloop]
    by_cases hf : ∀ i, i < x.length → rowP (nthR x i) n
    · rw [if_pos hf]
      simp only [bindO_some, forceB_eq, eqI_eq, tupA]
      have e : decide (matP x k n) = ((x.length : Int) == k) := by
        by_cases hn : (x.length : Int) = k
        · rw [dT (show matP x k n from ⟨hf, hn⟩)]; simp [hn]
        · rw [dF (show ¬ matP x k n from fun hh => hn hh.2)]; simp [hn]
      rw [e]
      exact fin_pure rfl
    · rw [if_neg hf]
      simp only [bindO_some, dF (show ¬ matP x k n from fun hh => hf hh.1), tupA]
      exact fin_pure rfl
  · simp only [g68_b0, forceB_eq, ltI_eq, lt_no, cond_false]
  · intro i hi hp
    obtain ⟨p, u, h1, h2, h3, h4⟩ := at_mat (m := ⟨h, h.length, h.length⟩) rfl ha hi
    have := hl.1
    simp only [g68_b0, forceB_eq, ltI_eq, lt_yes hi, cond_true, h1, h2, bindO_some, meansX_call, cp0 (areBits_ok (n := n) h4 (hl.2 i hi)), bindP_some, asB_b, dT hp, Bool.not_true, cond_false, forceI_eq]
    rw [wr_id' (by omega) (by omega)]; rfl
  · intro i hi hp
    obtain ⟨p, u, h1, h2, h3, h4⟩ := at_mat (m := ⟨h, h.length, h.length⟩) rfl ha hi
    simp only [g68_b0, forceB_eq, ltI_eq, lt_yes hi, cond_true, h1, h2, bindO_some, meansX_call, cp0 (areBits_ok (n := n) h4 (hl.2 i hi)), bindP_some, asB_b, dF hp, Bool.not_false]

/-- the errors of a record -/
def recE (n : Int) (x : List (List Int)) (z : List Int) : Int :=
  if n < 1 ∨ 20 < n then 2 else if 200 < x.length then 3 else if matP x x.length n ∧ rowP z x.length then 0 else 2

theorem checkRecord_ok {n : Int} (ha : IsMat ro h a x) (hl : LenOk x) (hb : IsRow ro h b z) (hz : z.length ≤ 9223372036854775807) : callX F1 ro 49 [.i .i64 n, a, b] h = some (.i .i64 (recE n x z), h, h.length, h.length) := by
  refine g49_ok (meansX_ok F1 ro) rfl ?_
  unfold g49
  simp only [forceB_eq, ltI_eq, len_mat ha, bindO_some, asI_i, meansX_call]
  by_cases h1 : n < 1
  · simp only [dT h1, cond_true, bindO_some, recE, if_pos (show n < 1 ∨ 20 < n from .inl h1), tupA]; exact fin_pure rfl
  · by_cases h2 : 20 < n
    · simp only [dF h1, cond_false, dT h2, bindO_some, cond_true, recE, if_pos (show n < 1 ∨ 20 < n from .inr h2), tupA]; exact fin_pure rfl
    · have hn : ¬ (n < 1 ∨ 20 < n) := by omega
      simp only [dF h1, cond_false, dF h2, bindO_some, recE, if_neg hn]
      by_cases h3 : 200 < x.length
      · simp only [dT (show (200 : Int) < (x.length : Int) by omega), cond_true, if_pos h3, tupA]; exact fin_pure rfl
      · simp only [dF (show ¬ (200 : Int) < (x.length : Int) by omega), cond_false, if_neg h3, cp0 (areSaid_ok (k := x.length) (n := n) ha hl), bindP_some, asB_b]
        by_cases h4 : matP x x.length n
        · simp only [dT h4, Bool.not_true, cond_false, cp0 (areBits_ok (n := x.length) hb hz), bindP_some, asB_b]
          by_cases h5 : rowP z x.length
          · simp only [dT h5, Bool.not_true, bindO_some, cond_false, if_pos (show matP x x.length n ∧ rowP z x.length from ⟨h4, h5⟩), tupA]; exact fin_pure rfl
          · simp only [dF h5, Bool.not_false, bindO_some, cond_true, if_neg (show ¬ (matP x x.length n ∧ rowP z x.length) from fun hh => h5 hh.2), tupA]; exact fin_pure rfl
        · simp only [dF h4, Bool.not_false, cond_true, bindO_some, if_neg (show ¬ (matP x x.length n ∧ rowP z x.length) from fun hh => h4 hh.1), tupA]; exact fin_pure rfl

/-- the bits of one row, as the reference looks at them -/
theorem rowLoop {R : Type} {n : Nat} (r : R) {b0 : Int × Mm → Option ((Int × Mm) ⊕ (Mm ⊕ R))} {m : Mm} {zz : List Int} (hn : n = zz.length)
    (hin : ∀ i, i < n → b0 ((i : Int), m) = some (cond (decide (bitP (zz.getD i 0))) (.inl (((i + 1 : Nat) : Int), m)) (.inr (.inr r)))) (hout : b0 ((n : Int), m) = some (.inr (.inl m))) :
    loopX b0 (0, m) = some (if bitsP zz then .inl m else .inr r) := by
  subst hn
  have hloop := loop_if (b := b0) (fun i => ((i : Int), m)) zz.length (fun i => bitP (zz.getD i 0)) (.inl m) (.inr r) hout (fun i hi hp => by rw [hin i hi, dT hp]; rfl) (fun i hi hp => by rw [hin i hi, dF hp]; rfl)
  have e0 : ((0 : Nat) : Int) = 0 := rfl
  rw [e0] at hloop
  exact hloop

theorem Record_ok {n : Int} (ha : IsMat ro h a x) (hl : LenOk x) (hb : IsRow ro h b z) (hz : z.length ≤ 9223372036854775807) : callX F1 ro 38 [.i .i64 n, a, b] h = some (.i .i64 (recE n x z), h, h.length, h.length) := by
  refine g38_ok (meansX_ok F1 ro) rfl ?_
  unfold g38
  simp only [forceB_eq, ltI_eq, len_mat ha, bindO_some, asI_i, meansX_loop]
  by_cases h1 : n < 1
  · simp only [dT h1, cond_true, bindO_some, recE, if_pos (show n < 1 ∨ 20 < n from .inl h1), tupA]; exact fin_pure rfl
  by_cases h2 : 20 < n
  · simp only [dF h1, cond_false, dT h2, bindO_some, cond_true, recE, if_pos (show n < 1 ∨ 20 < n from .inr h2), tupA]; exact fin_pure rfl
  have hn : ¬ (n < 1 ∨ 20 < n) := by omega
  simp only [dF h1, cond_false, dF h2, bindO_some, recE, if_neg hn]
  by_cases h3 : 200 < x.length
  · simp only [dT (show (200 : Int) < (x.length : Int) by omega), cond_true, if_pos h3, tupA]; exact fin_pure rfl
  simp only [dF (show ¬ (200 : Int) < (x.length : Int) by omega), cond_false, if_neg h3]
  have hloop := loop_if (b := fun s : Int × Mm => g38_b1 (meansX F1 ro) ro n a b s.1 s.2) (fun i => ((i : Int), (⟨h, h.length, h.length⟩ : Mm))) x.length (fun i => rowP (nthR x i) n) (.inl ⟨h, h.length, h.length⟩) (.inr (2, ⟨h, h.length, h.length⟩)) ?_ ?_ ?_
  · have e0 : ((0 : Nat) : Int) = 0 := rfl
    rw [e0] at hloop
    rw [hloop]
    by_cases hf : ∀ i, i < x.length → rowP (nthR x i) n
    · have hm : matP x x.length n := ⟨hf, rfl⟩
      rw [if_pos hf]
      simp only [bindO_some, len_row hb, asI_i, eqI_eq]
      by_cases h4 : (z.length : Int) = x.length
      · have e4 : (!((z.length : Int) == (x.length : Int))) = false := by rw [h4]; simp
        have hl3 := rowLoop (r := ((2 : Int), (⟨h, h.length, h.length⟩ : Mm))) (b0 := fun s : Int × Mm => g38_b3 (meansX F1 ro) ro b s.1 s.2) (m := ⟨h, h.length, h.length⟩) (zz := z) rfl ?_ ?_
        · simp only [e4, cond_false, hl3]
          by_cases h5 : bitsP z
          · simp only [if_pos h5, bindO_some, if_pos (show matP x x.length n ∧ rowP z x.length from ⟨hm, h5, h4⟩), tupA]; exact fin_pure rfl
          · simp only [if_neg h5, bindO_some, if_neg (show ¬ (matP x x.length n ∧ rowP z x.length) from fun hh => h5 hh.2.1), tupA]; exact fin_pure rfl
        · intro i hi
          obtain ⟨p, h1', h2', h3'⟩ := at_row (m := ⟨h, h.length, h.length⟩) rfl hb hi
          simp only [g38_b3, len_row hb, bindO_some, asI_i, forceB_eq, ltI_eq, lt_yes hi, cond_true, h1', h2', meansX_call, cp0 bit_ok, bindP_some, asB_b]
          cases decide (bitP (z.getD i 0))
          · rfl
          · simp only [Bool.not_true, cond_false, cond_true, forceI_eq]
            rw [wr_id' (by omega) (by omega)]; rfl
        · simp only [g38_b3, len_row hb, bindO_some, asI_i, forceB_eq, ltI_eq, lt_no, cond_false]
      · have e4 : (!((z.length : Int) == (x.length : Int))) = true := by simpa using h4
        simp only [e4, cond_true, if_neg (show ¬ (matP x x.length n ∧ rowP z x.length) from fun hh => h4 hh.2.2), tupA]; exact fin_pure rfl
    · rw [if_neg hf]
      simp only [bindO_some, if_neg (show ¬ (matP x x.length n ∧ rowP z x.length) from fun hh => hf hh.1.1), tupA]; exact fin_pure rfl
  · simp only [g38_b1, len_mat ha, bindO_some, asI_i, forceB_eq, ltI_eq, lt_no, cond_false]
  all_goals
    intro i hi hp
    obtain ⟨p, u, h1', h2', h3', h4'⟩ := at_mat (m := ⟨h, h.length, h.length⟩) rfl ha hi
    simp only [g38_b1, len_mat ha, bindO_some, asI_i, forceB_eq, ltI_eq, lt_yes hi, cond_true, h1', h2', len_row h4', eqI_eq, meansX_loop]
    by_cases h4 : ((nthR x i).length : Int) = n
    · have e4 : (!(((x.getD i []).length : Int) == n)) = false := by rw [show ((x.getD i []).length : Int) = n from h4]; simp
      have hl3 := rowLoop (r := ((2 : Int), (⟨h, h.length, h.length⟩ : Mm))) (b0 := fun s : Int × Mm => g38_b2 (meansX F1 ro) ro n a b (i : Int) s.1 s.2) (m := ⟨h, h.length, h.length⟩) (zz := nthR x i) rfl (fun j hj => by
          obtain ⟨p', h1'', h2'', h3''⟩ := at_row (m := ⟨h, h.length, h.length⟩) rfl h4' hj
          have hjn : decide ((j : Int) < n) = true := dT (by rw [← h4]; omega)
          have hll := hl.2 i hi
          simp only [g38_b2, forceB_eq, ltI_eq, hjn, cond_true, h1', h2', bindO_some, h1'', h2'', asI_i, meansX_call, cp0 bit_ok, bindP_some, asB_b]
          cases decide (bitP ((nthR x i).getD j 0))
          · rfl
          · simp only [Bool.not_true, cond_false, cond_true, forceI_eq]
            rw [wr_id' (by omega) (by omega)]; rfl) (by
          have hjn : decide (((nthR x i).length : Int) < n) = false := dF (by omega)
          simp only [g38_b2, forceB_eq, ltI_eq, hjn, cond_false])
      simp only [e4, cond_false, hl3]
      by_cases h5 : bitsP (nthR x i)
      · simp only [if_pos h5, bindO_some, forceI_eq]
        first
        | (rw [wr_id' (by omega) (by omega)]; rfl)
        | exact absurd ⟨h5, h4⟩ hp
      · first
        | exact absurd hp.1 h5
        | simp only [if_neg h5, bindO_some]
    · have e4 : (!(((x.getD i []).length : Int) == n)) = true := by
        have h4 : ¬ ((x.getD i []).length : Int) = n := h4
        simpa using h4
      first
      | exact absurd hp.2 h4
      | simp only [e4, cond_true]
end
end Go.Proofs.Ytnalgdobglfndaa.T

/- Ratios in lowest terms; what foretellers say; how many bits a number has. -/
open Go.Vm
set_option linter.unusedVariables false
namespace Go.Proofs.Ytnalgdobglfndaa.T
open Go

def saidP (k n : Int) (x : List (List Int)) : Prop := 1 ≤ k ∧ k ≤ 10 ∧ 1 ≤ n ∧ n ≤ 20 ∧ matP x k n
instance (k n : Int) (x : List (List Int)) : Decidable (saidP k n x) := inferInstanceAs (Decidable (_ ∧ _))

section
variable {ro : List ABlk} {h hp : Heap} {a b : AVal} {x : List (List Int)} {z : List Int}

theorem wr_nat {n : Nat} (hn : n ≤ 9223372036854775807) : wr .i64 (n : Int) = (n : Int) := wr_id' (by omega) (by omega)
/- bits -/
end
end Go.Proofs.Ytnalgdobglfndaa.T

/- How often foretellers are wrong: by bits, and one by one. -/
open Go.Vm
set_option linter.unusedVariables false
namespace Go.Proofs.Ytnalgdobglfndaa.T
open Go

section
variable {ro : List ABlk} {h hp : Heap} {a b v : AVal} {x : List (List Int)} {z : List Int}

theorem wr_u64_id {n : Nat} (hn : n < 1024) : wr .u64 (n : Int) = (n : Int) := by
  show IntKind.u64.wrap (n : Int) = _
  rw [IntKind.wrap_u64]; omega
end
end Go.Proofs.Ytnalgdobglfndaa.T

/- Regret: the program's and the reference's. -/
open Go.Vm
set_option linter.unusedVariables false
namespace Go.Proofs.Ytnalgdobglfndaa.T
open Go

section
variable {ro : List ABlk} {h hp : Heap} {a b v : AVal} {x : List (List Int)} {z : List Int}

theorem holds_row {hp : Heap} {q n : Nat} {vs : List AVal} {z : List Int} (a : Holds hp q vs) (hz : vs = z.map (AVal.i .i64)) (hn : z.length = n) {cap : Cap} : IsRow ro hp (.sl ⟨false, q, 0⟩ n cap) z := by
  subst hz; subst hn
  obtain ⟨blk, h1, h2, h3⟩ := a
  refine .inr ⟨_, cap, blk, rfl, rdB_heap h1 0, by simpa using (Nat.le_of_eq h2.symm), fun j hj => ?_⟩
  rw [show (0 + j) = j by omega, h3 j (by simpa using hj), map_getD hj]

theorem Fits.lens {x : List (List Int)} (hf : Fits x) : LenOk x := ⟨hf.1, fun i hi => by
  have : nthR x i ∈ x := by
    have : nthR x i = x[i] := by simp [nthR, List.getD, hi]
    rw [this]; exact List.getElem_mem hi
  exact (hf.2 _ this).1⟩
end
end Go.Proofs.Ytnalgdobglfndaa.T

/- What points are: the program's checks and the reference's. -/
open Go.Vm
set_option linter.unusedVariables false
namespace Go.Proofs.Ytnalgdobglfndaa.T
open Go

def coordP (z : List Int) : Prop := ∀ j, j < z.length → -100 ≤ z.getD j 0 ∧ z.getD j 0 ≤ 100
instance (z : List Int) : Decidable (coordP z) := inferInstanceAs (Decidable (∀ j, j < z.length → -100 ≤ z.getD j 0 ∧ z.getD j 0 ≤ 100))
def pointP (z : List Int) : Prop := 1 ≤ z.length ∧ z.length ≤ 6 ∧ coordP z
instance (z : List Int) : Decidable (pointP z) := inferInstanceAs (Decidable (_ ∧ _))
def signP (n : Int) : Prop := n = 1 ∨ n = -1
instance (n : Int) : Decidable (signP n) := inferInstanceAs (Decidable (_ ∨ _))
def ptP (x : List (List Int)) (z : List Int) (i : Nat) : Prop := (nthR x i).length = (nthR x 0).length ∧ pointP (nthR x i) ∧ signP (z.getD i 0)
instance (x : List (List Int)) (z : List Int) (i : Nat) : Decidable (ptP x z i) := inferInstanceAs (Decidable (_ ∧ _))
def ptsP (x : List (List Int)) (z : List Int) : Prop := 0 < x.length ∧ z.length = x.length ∧ ∀ i, i < x.length → ptP x z i
instance (x : List (List Int)) (z : List Int) : Decidable (ptsP x z) := inferInstanceAs (Decidable (_ ∧ _ ∧ ∀ i, i < x.length → ptP x z i))
section
variable {ro : List ABlk} {h : Heap} {a b : AVal} {x : List (List Int)} {z : List Int}

end
end Go.Proofs.Ytnalgdobglfndaa.T

/- Perceptron: the program's and the reference's. -/
open Go.Vm
set_option linter.unusedVariables false
namespace Go.Proofs.Ytnalgdobglfndaa.T
open Go

def ints (w : List Int) : List AVal := w.map (AVal.i .i64)
theorem ints_len (w : List Int) : (ints w).length = w.length := by simp [ints]
theorem ints_get {w : List Int} {j : Nat} (hj : j < w.length) : (ints w).getD j und = .i .i64 (w.getD j 0) := map_getD hj
theorem ints_set (w : List Int) (j : Nat) (n : Int) : (ints w).set j (.i .i64 n) = ints (w.set j n) := by simp [ints, List.map_set]

/-- the sum of the coordinates times the weights -/
def dotN (p w : List Int) : Nat → Int
  | 0 => 0
  | k + 1 => wr .i64 (dotN p w k + wr .i64 (p.getD k 0 * w.getD k 0))
/-- is the point at which a round is, on its side? -/
def hitP (x : List (List Int)) (z : List Int) (i : Nat) (w : List Int) : Prop := 0 < wr .i64 (z.getD i 0 * dotN (nthR x i) w w.length)
instance (x : List (List Int)) (z : List Int) (i : Nat) (w : List Int) : Decidable (hitP x z i w) := inferInstanceAs (Decidable (_ < _))
def zeros (n : Nat) : List Int := List.replicate n 0
section
variable {ro : List ABlk} {h hp : Heap} {a b v : AVal} {x : List (List Int)} {z : List Int}

theorem Holds.wr {b k : Nat} {vs : List AVal} {v : AVal} (a : Holds hp b vs) (hk : k < vs.length) (hv : v.one = true) (hc : v.cells = [v]) (hn : nonp [v] = true) (hL : h.length ≤ b) (kp : Keep h hp) :
    ∃ hp', writesM ro [] [(⟨false, b, 0 + k⟩, AVal.cells v)] ⟨hp, h.length, h.length⟩ = some ⟨hp', h.length, h.length⟩ ∧ Holds hp' b (vs.set k v) ∧ hp'.length = hp.length ∧ (∀ i, i ≠ b → hp'[i]? = hp[i]?) ∧ Keep h hp' := by
  obtain ⟨blk, h1, h2, h3⟩ := a
  refine ⟨hp.set b (some { blk with c := blk.c.set (0 + k) v }), ?_, ⟨_, lget_set h1 _, by simpa using h2, fun j hj => ?_⟩, by simp, fun i hi => List.getElem?_set_ne (Ne.symm hi), kp.set hL _⟩
  · rw [hc, wr_heap h1 (by omega) hv hn, Nat.min_eq_left hL]
  · show (blk.c.set (0 + k) v).get j = _
    rw [get_set]
    simp only [List.length_set] at hj
    by_cases e : 0 + k = j
    · have e' : k = j := by omega
      subst e'; simp [List.getD, hj]
    · rw [if_neg e, h3 j hj]
      simp [List.getD, List.getElem?_set_ne (show k ≠ j by omega)]
theorem getD_self {α : Type} {l : List α} {k : Nat} {v d : α} (h : k < l.length) : (l.set k v).getD k d = v := by simp [List.getD, h]
theorem getD_ne {α : Type} {l : List α} {k j : Nat} {v d : α} (h : k ≠ j) : (l.set k v).getD j d = l.getD j d := by simp [List.getD, List.getElem?_set_ne h]
theorem Holds.wrG {b k l p : Nat} {vs : List AVal} {v : AVal} (a : Holds hp b vs) (hk : k < vs.length) (hv : v.one = true) (hc : v.cells = [v]) (hn : nonp [v] = true) :
    ∃ hp', writesM ro [] [(⟨false, b, 0 + k⟩, AVal.cells v)] ⟨hp, l, p⟩ = some ⟨hp', min l b, p⟩ ∧ Holds hp' b (vs.set k v) ∧ hp'.length = hp.length ∧ (∀ i, i ≠ b → hp'[i]? = hp[i]?) := by
  obtain ⟨blk, h1, h2, h3⟩ := a
  refine ⟨hp.set b (some { blk with c := blk.c.set (0 + k) v }), ?_, ⟨_, lget_set h1 _, by simpa using h2, fun j hj => ?_⟩, by simp, fun i hi => List.getElem?_set_ne (Ne.symm hi)⟩
  · rw [hc, wr_heap h1 (by omega) hv hn]
  · show (blk.c.set (0 + k) v).get j = _
    rw [get_set]
    simp only [List.length_set] at hj
    by_cases e : 0 + k = j
    · have e' : k = j := by omega
      subst e'; rw [getD_self hj, if_pos (by omega)]
    · rw [if_neg e, h3 j hj, getD_ne (by omega)]
theorem Holds.setG {b k l p : Nat} {vs : List AVal} {v : AVal} (a : Holds hp b vs) (hk : k < vs.length) (hv : v.one = true) (hc : v.cells = [v]) (hn : nonp [v] = true) :
    ∃ hp', stepM ro ⟨hp, l, p⟩ (.st 1 (.c (.p (some ⟨false, b, 0 + k⟩))) (.c v)) = some (und, ⟨hp', min l b, p⟩) ∧ Holds hp' b (vs.set k v) ∧ hp'.length = hp.length ∧ (∀ i, i ≠ b → hp'[i]? = hp[i]?) := by
  obtain ⟨blk, h1, h2, h3⟩ := a
  refine ⟨hp.set b (some { blk with c := blk.c.set (0 + k) v }), ?_, ⟨_, lget_set h1 _, by simpa using h2, fun j hj => ?_⟩, by simp, fun i hi => List.getElem?_set_ne (Ne.symm hi)⟩
  · rw [st_heap h1 (by omega) hv hc hn]
  · show (blk.c.set (0 + k) v).get j = _
    rw [get_set]
    simp only [List.length_set] at hj
    by_cases e : 0 + k = j
    · have e' : k = j := by omega
      subst e'; rw [getD_self hj, if_pos (by omega)]
    · rw [if_neg e, h3 j hj, getD_ne (by omega)]
theorem fin_out {L : Nat} {v : AVal} {l p : Nat} (hv : v.bel L = false) : finM L v ⟨hp, l, p⟩ = some (v, hp, l, p) := by
  simp [finM, gc, hv]
theorem keep_o {h0 hp' : Heap} {q : Nat} (k : Keep h0 hp) (hq : h0.length ≤ q) (hl : hp'.length = hp.length) (ho : ∀ i, i ≠ q → hp'[i]? = hp[i]?) : Keep h0 hp' :=
  ⟨by rw [hl]; exact k.1, fun j hj => by rw [ho j (by omega)]; exact k.2 j hj⟩
theorem sl_nb {L b n : Nat} {cap : Cap} {l : List AVal} (h : L ≤ b) : (AVal.tup (.sl ⟨false, b, 0⟩ n cap :: l)).bel L = false := by
  simp only [AVal.bel, bels, Bool.false_or]
  have : Nat.blt b L = false := by rw [Bool.eq_false_iff]; simp [Nat.blt_eq]; omega
  simp [this]

/-- the weights as a slice of a block -/
abbrev wSl (q d : Nat) : AVal := .sl ⟨false, q, 0⟩ d (.known d)

end
end Go.Proofs.Ytnalgdobglfndaa.T

/- Perceptron whole; the law that compares both. -/
open Go.Vm
set_option linter.unusedVariables false
namespace Go.Proofs.Ytnalgdobglfndaa.T
open Go

section
variable {ro : List ABlk} {h hp : Heap} {a b v : AVal} {x : List (List Int)} {z : List Int}

/-- a call that answers a list in new memory, and more -/
def RetL (ro : List ABlk) (h : Heap) (f : Nat) (args : List AVal) (z : List Int) (rest : List AVal) : Prop :=
  ∃ v h', callX F1 ro f args h = some (.tup (v :: rest), h', h.length, h.length) ∧ Keep h h' ∧ IsRow ro h' v z ∧ z.length ≤ 1000
theorem holds_ints {q d : Nat} {w : List Int} (a : Holds hp q (ints w)) (hd : w.length = d) : IsRow ro hp (wSl q d) w := holds_row a rfl hd
theorem newInts (h : Heap) (d : Nat) : Holds (h ++ [some (newBlk 3 (.i .i64 0) d)]) h.length (ints (zeros d)) := by
  have e : rep [(AVal.i .i64 0)] d = ints (zeros d) := by
    have : ∀ d, rep [(AVal.i .i64 0)] d = ints (zeros d) := by
      intro d
      induction d with
      | zero => rfl
      | succ d ih => simp only [rep, ih, zeros, ints, List.replicate_succ, List.map_cons]; rfl
    exact this d
  show Holds (h ++ [some (blkOf 3 (rep [(AVal.i .i64 0)] d))]) _ _
  rw [e]
  exact Holds.new h 3 _
theorem nil_bel (l : List Int) (L : Nat) : (AVal.tup (.nsl :: l.map (AVal.i .i64))).bel L = true := by
  have : ∀ l : List Int, bels L (l.map (AVal.i .i64)) = true := by
    intro l
    induction l with
    | nil => rfl
    | cons a l ih => simp [bels, AVal.bel, ih]
  simp [AVal.bel, bels, this]

theorem RetL.cm {f : Nat} {args : List AVal} {zz : List Int} {rest : List AVal} (r : RetL ro hp f args zz rest) : ∃ v h', (∀ {l p : Nat}, l ≤ hp.length → p ≤ hp.length → callM (callX F1 ro) ⟨hp, l, p⟩ f args = some (.tup (v :: rest), ⟨h', l, p⟩)) ∧ Keep hp h' ∧ IsRow ro h' v zz ∧ zz.length ≤ 1000 := by
  obtain ⟨v, h', h1, h2, h3, h4⟩ := r
  refine ⟨v, h', fun {l p} hl hp => ?_, h2, h3, h4⟩
  rw [callM_eq (m := ⟨_, l, p⟩) h1]
  simp [Nat.min_eq_left hl, Nat.min_eq_left hp]

end
end Go.Proofs.Ytnalgdobglfndaa.T

/- Goals: what they are, their halves, room, guess. -/
open Go.Vm
set_option linter.unusedVariables false
namespace Go.Proofs.Ytnalgdobglfndaa.T
open Go

def goalP (k : Int) (z : List Int) : Prop := 1 ≤ k ∧ k ≤ 10 ∧ z.length = 2 ^ k.toNat ∧ ∀ j, j < z.length → 0 ≤ z.getD j 0 ∧ z.getD j 0 ≤ k * 60
instance (k : Int) (z : List Int) : Decidable (goalP k z) := inferInstanceAs (Decidable (_ ∧ _ ∧ _ ∧ ∀ j, j < z.length → 0 ≤ z.getD j 0 ∧ z.getD j 0 ≤ k * 60))
/-- part i of 2^j numbers each -/
def subL (z : List Int) (j i : Nat) : List Int := (List.range (2 ^ j)).map fun t => z.getD (i * 2 ^ j + t) 0
theorem subL_len (z : List Int) (j i : Nat) : (subL z j i).length = 2 ^ j := by simp [subL]
/-- the sum of the numbers t of a part -/
def sumT (z : List Int) (j i : Nat) : Nat → Int
  | 0 => 0
  | t + 1 => sumT z j i t + z.getD (i * 2 ^ j + t) 0
def sumO (z : List Int) (j i : Nat) : Int := sumT z j i (2 ^ j)
section
variable {ro : List ABlk} {h hp : Heap} {a b v : AVal} {x : List (List Int)} {z : List Int}

/-- a part of a goal in memory -/
def IsSub (ro : List ABlk) (h : Heap) (v : AVal) (z : List Int) (j i : Nat) : Prop := IsRow ro h v (subL z j i) ∧ CapO v
theorem IsSub.bel {j i : Nat} (a : IsSub ro h v z j i) : v.bel h.length = true := row_bel a.1
theorem IsSub.len {j i : Nat} (a : IsSub ro h v z j i) : evP .e (.len false (.c v)) = some (.i .i64 ((2 ^ j : Nat) : Int)) := by
  have := len_row a.1
  rwa [subL_len] at this

end
end Go.Proofs.Ytnalgdobglfndaa.T

/- Can: the program's and the reference's. -/
open Go.Vm
set_option linter.unusedVariables false
namespace Go.Proofs.Ytnalgdobglfndaa.T
open Go

section
variable {ro : List ABlk} {h hp : Heap} {a b v : AVal} {x : List (List Int)} {z : List Int}

theorem push1 {L0 L k : Nat} {zs : List Int} {n : Int} (g : GV hp L 3 1 v k (ints zs)) (hL0 : L0 ≤ L) (hL : L ≤ hp.length) (hk : k ≤ 100000) :
    ∃ v2 hp2 v3 hp3, stepM ro ⟨hp, L0, L0⟩ (.bsl 3 1 [(AVal.i IntKind.i64 0)] 1 [((0, 1), .c (.i .i64 n))]) = some (v2, ⟨hp2, L0, L0⟩) ∧ stepM ro ⟨hp2, L0, L0⟩ (.app 3 1 8 [(AVal.i IntKind.i64 0)] (.c v) (.c v2)) = some (v3, ⟨hp3, L0, L0⟩) ∧
      GV hp3 L 3 1 v3 (k + 1) (ints (zs ++ [n])) ∧ hp.length ≤ hp3.length ∧ ∀ i, i < L → hp3[i]? = hp[i]? := by
  have := GV.push (ro := ro) (z := [(AVal.i IntKind.i64 0)]) (bytes := 8) (w := .i .i64 n) (ws := [.i .i64 n]) g hL0 hL hk (by omega) (by omega) rfl rfl rfl rfl rfl
  simpa [ints] using this
theorem GV.len {L k : Nat} {zs : List Int} (g : GV hp L 3 1 v k (ints zs)) : evP .e (.len false (.c v)) = some (.i .i64 (k : Int)) := by
  rcases g with ⟨rfl, rfl, -⟩ | ⟨b, blk, rfl, -⟩
  · rfl
  · simp [evP, ev_len, opd, mkI_eq]
theorem range_snoc {α : Type} (f : Nat → α) (n : Nat) : (List.range (n + 1)).map f = (List.range n).map f ++ [f n] := by simp [List.range_succ]
end
end Go.Proofs.Ytnalgdobglfndaa.T

/- Can, Guess and Loss: the program's and the reference's. -/
open Go.Vm
set_option linter.unusedVariables false
namespace Go.Proofs.Ytnalgdobglfndaa.T
open Go

section
variable {ro : List ABlk} {h hp : Heap} {a b c v : AVal} {x : List (List Int)} {z y : List Int}

end
end Go.Proofs.Ytnalgdobglfndaa.T

/- The law that compares Can, Guess and Loss. -/
open Go.Vm
set_option linter.unusedVariables false
namespace Go.Proofs.Ytnalgdobglfndaa.T
open Go

section
variable {ro : List ABlk} {h hp : Heap} {a b c v : AVal} {x : List (List Int)} {z y : List Int}

/-- append to an empty slice: a copy in new memory -/
theorem copy_ok (hb : IsRow ro h b z) (hz : z.length ≤ 100000) : ∃ v2 h2 v3 h3, (∀ l p, stepM ro ⟨h, l, p⟩ (.bsl 3 1 [(AVal.i IntKind.i64 0)] 0 []) = some (v2, ⟨h2, l, p⟩)) ∧ (∀ l p, stepM ro ⟨h2, l, p⟩ (.app 3 1 8 [(AVal.i IntKind.i64 0)] (.c v2) (.c b)) = some (v3, ⟨h3, l, p⟩)) ∧
    Keep h h3 ∧ IsRow ro h3 v3 z ∧ CapO v3 := by
  obtain ⟨h2, e2⟩ : ∃ h2, h2 = h ++ [some (blkOf 3 [])] := ⟨_, rfl⟩
  have s1 : ∀ l p, stepM ro ⟨h, l, p⟩ (.bsl 3 1 [(AVal.i IntKind.i64 0)] 0 []) = some (.sl ⟨false, h.length, 0⟩ 0 (.known 0), ⟨h2, l, p⟩) := fun l p => by
    rw [e2]; rfl
  have k2 : Keep h h2 := by rw [e2]; exact Keep.app _
  have src := src_row (row_by hb k2)
  by_cases h0 : z.length = 0
  · refine ⟨_, h2, .sl ⟨false, h.length, 0⟩ 0 (.known 0), h2, s1, fun l p => ?_, k2, .inr ⟨⟨false, h.length, 0⟩, .known 0, blkOf 3 [], by rw [h0], by rw [e2]; simp [rdB, lget_eq], by rw [h0]; exact Nat.le_refl _, fun j hj => by omega⟩, fun q n c e => by cases e; exact Nat.le_refl _⟩
    have e3 : Nat.ble (0 + z.length) 0 = true := by rw [h0]; rfl
    have e4 : Nat.beq (z.length * 1) 0 = true := by rw [h0]; rfl
    simp only [stepM, stepK, opd, Mm.st, st_app, src, app_known, e3, e4, cond_true]
    rw [h0]; rfl
  · refine ⟨_, h2, .sl ⟨false, h2.length, 0⟩ z.length .grow, h2 ++ [some (blkOf 3 (ints z))], s1, fun l p => ?_, k2.trans (Keep.app _), holds_row (Holds.new h2 3 (ints z)) rfl rfl, fun q n c e => by cases e⟩
    have e3 : Nat.ble (0 + z.length) 0 = false := by rw [Bool.eq_false_iff, Ne, Nat.ble_eq]; omega
    have hrd : rdB ro h2 ⟨false, h.length, 0⟩ = some (blkOf 3 []) := by rw [e2]; simp [rdB, lget_eq]
    have e5 : (Nat.ble (0 + 0 * 1) (blkOf 3 []).n && fits (0 + z.length) 8) = true := by
      rw [Nat.zero_add, fits_small (by omega) (by omega)]; rfl
    simp only [stepM, stepK, opd, Mm.st, st_app, src, app_known, e3, cond_false, hrd, e5, cond_true, newB, St.mm]
    rw [Nat.zero_add]
    rfl

end
end Go.Proofs.Ytnalgdobglfndaa.T

/- Goals whose means are near: room, guess and loss are known; the law about Cover's theorem. -/
open Go.Vm
set_option linter.unusedVariables false
namespace Go.Proofs.Ytnalgdobglfndaa.T
open Go

def nearJ (z : List Int) (j i : Nat) : Prop := sumO z j (2 * i) - sumO z j (2 * i + 1) ≤ 60 * 2 ^ j ∧ sumO z j (2 * i + 1) - sumO z j (2 * i) ≤ 60 * 2 ^ j
instance (z : List Int) (j i : Nat) : Decidable (nearJ z j i) := inferInstanceAs (Decidable (_ ∧ _))
def nearL (z : List Int) (k j : Nat) : Prop := ∀ i, i < 2 ^ (k - 1 - j) → nearJ z j i
instance (z : List Int) (k j : Nat) : Decidable (nearL z k j) := inferInstanceAs (Decidable (∀ i, i < 2 ^ (k - 1 - j) → nearJ z j i))
def nearP (z : List Int) (k : Nat) : Prop := ∀ j, j < k → nearL z k j
instance (z : List Int) (k : Nat) : Decidable (nearP z k) := inferInstanceAs (Decidable (∀ j, j < k → nearL z k j))

section
variable {ro : List ABlk} {h hp : Heap} {a b c v : AVal} {x : List (List Int)} {z y : List Int}

end
end Go.Proofs.Ytnalgdobglfndaa.T

/- Lists of rows that a function makes by append; a row cut; rows of an argument with their room. -/
open Go.Vm
set_option linter.unusedVariables false
namespace Go.Proofs.Ytnalgdobglfndaa.T
open Go

section
variable {ro : List ABlk} {h hp hp' : Heap} {a b v : AVal} {x : List (List Int)} {z : List Int}

/-- the block of a slice -/
def bno : AVal → Option Nat
  | .sl q _ _ => some q.b
  | _ => none
theorem GV.bno {L e es k : Nat} {cs : List AVal} (g : GV hp L e es v k cs) : ∀ i, T.bno v = some i → L ≤ i ∧ i < hp.length := by
  intro i hi
  rcases g with ⟨rfl, -⟩ | ⟨b, blk, rfl, h2, h3, h4, h5⟩
  · cases hi
  · cases hi
    exact ⟨h3, lget_lt h4⟩
theorem GV.byB {L e es k : Nat} {cs : List AVal} (g : GV hp L e es v k cs) (ho : ∀ i, i < hp.length → T.bno v = some i → hp'[i]? = hp[i]?) : GV hp' L e es v k cs := by
  rcases g with h | ⟨b, blk, rfl, h2, h3, h4, h5⟩
  · exact .inl h
  · exact .inr ⟨b, blk, rfl, h2, h3, by rw [lget_of (ho b (lget_lt h4) rfl)]; exact h4, h5⟩
/-- one more, from any memory: only the list's own block goes -/
theorem GV.pushS {L0 P0 L e es bytes k : Nat} {z : List AVal} {v w : AVal} {cs ws : List AVal} (g : GV hp L e es v k cs) (hL : L ≤ hp.length) (hk : k ≤ 100000) (hb : bytes ≤ 1000) (hes : 0 < es) (hz : z.length = es) (hw : w.cells = ws) (hwl : ws.length = es) (ho : ones ws = true) (hsp : splice z 0 ws = ws) :
    ∃ v2 hp2 v3 hp3 l3 p3 b3, stepM ro ⟨hp, L0, P0⟩ (.bsl e es z 1 [((0, es), .c w)]) = some (v2, ⟨hp2, L0, P0⟩) ∧ stepM ro ⟨hp2, L0, P0⟩ (.app e es bytes z (.c v) (.c v2)) = some (v3, ⟨hp3, l3, p3⟩) ∧
      GV hp3 L e es v3 (k + 1) (cs ++ ws) ∧ T.bno v3 = some b3 ∧ hp.length ≤ b3 ∧ hp.length ≤ hp3.length ∧ (∀ i, i < hp.length → T.bno v ≠ some i → hp3[i]? = hp[i]?) ∧ (L ≤ L0 → L ≤ l3) ∧ l3 ≤ L0 ∧ (L ≤ P0 → L ≤ p3) ∧ p3 ≤ P0 := by
  have s1 : stepM ro ⟨hp, L0, P0⟩ (.bsl e es z 1 [((0, es), .c w)]) = some (.sl ⟨false, hp.length, 0⟩ 1 (.known 1), ⟨hp ++ [some (blkOf e ws)], L0, P0⟩) := by
    simp [stepM, stepK, st_bsl, rep, fillA, opd, hw, hwl, hz, hsp, newB, St.mm]
  have src : app_src ro (hp ++ [some (blkOf e ws)]) es (.sl ⟨false, hp.length, 0⟩ 1 (.known 1)) = some (ws, 1) := by
    have hbq : rdB ro (hp ++ [some (blkOf e ws)]) ⟨false, hp.length, 0⟩ = some (blkOf e ws) := by simp [rdB, lget_eq]
    have hg : (blkOf e ws).c.row 0 es = ws := row_row es 0 ws hwl fun j hj => by rw [Nat.zero_add, get_blk]
    have hble : Nat.ble (0 + 1 * es) (blkOf e ws).n = true := by rw [Nat.ble_eq]; show 0 + 1 * es ≤ ws.length; omega
    simp only [app_src, hbq, hble, cond_true]
    rw [show 1 * es = es by omega, hg]
  rcases g with ⟨rfl, rfl, rfl⟩ | ⟨b, blk, rfl, hpos, hLb, hbk, hbe, hcl, hbn, hrows⟩
  · refine ⟨_, _, .sl ⟨false, hp.length + 1, 0⟩ 1 .grow, hp ++ [some (blkOf e ws)] ++ [some (blkOf e ws)], L0, P0, hp.length + 1, s1, ?_, .inr ⟨hp.length + 1, blkOf e ws, rfl, by omega, by omega, ?_, rfl, by simp; omega, by show 1 * es ≤ ws.length; omega, fun j hj => ?_⟩, rfl, by omega, by simp, fun i hi _ => ?_, fun h => h, Nat.le_refl _, fun h => h, Nat.le_refl _⟩
    · have hb1 : Nat.beq 1 0 = false := rfl
      simp only [stepM, stepK, opd, st_app, src, hb1, cond_false, fits_small (by omega : 1 ≤ 1000000) hb, cond_true, newB, St.mm, List.length_append, List.length_cons, List.length_nil, Nat.zero_add]
    · have := lget_last (hp ++ [some (blkOf e ws)]) (some (blkOf e ws))
      rwa [List.length_append, List.length_singleton] at this
    · rw [get_blk]; simp
    · rw [List.append_assoc, List.getElem?_append_left (by omega)]
  · obtain ⟨hp2, e2⟩ : ∃ hp2, hp2 = hp ++ [some (blkOf e ws)] := ⟨_, rfl⟩
    rw [← e2] at src s1
    have hlt : b < hp.length := lget_lt hbk
    have hb2 : lget hp2 b = some (some blk) := by rw [e2]; exact lget_ext hbk _
    have hlen2 : hp2.length = hp.length + 1 := by rw [e2]; simp
    have hrow : blk.c.row 0 (k * es) = cs := row_row (k * es) 0 cs hcl fun j hj => by rw [Nat.zero_add]; exact hrows j hj
    have hke : 0 < k * es := Nat.mul_pos hpos hes
    refine ⟨_, _, .sl ⟨false, hp2.length, 0⟩ (k + 1) .grow, lset none hp2 b ++ [some (blkOf e (cs ++ ws))], min L0 b, min P0 b, hp2.length, s1, ?_, .inr ⟨hp2.length, blkOf e (cs ++ ws), rfl, by omega, by omega, ?_, rfl, ?_, ?_, fun j hj => ?_⟩, rfl, by omega, ?_, fun i hi hne => ?_, fun h => by omega, Nat.min_le_left _ _, fun h => by omega, Nat.min_le_left _ _⟩
    · have h1 : (Nat.beq blk.e e && Nat.ble (k * es) blk.n && fits (k + 1) bytes && ones ws) = true := by
        rw [hbe, fits_small (by omega : k + 1 ≤ 1000000) hb]
        simp [ho, Nat.ble_eq]; omega
      have h2 : (false || !Nat.beq 0 0 || Nat.beq 1 0) = false := rfl
      have h3 : Nat.blt 0 blk.n = true := by rw [Nat.blt_eq]; omega
      simp only [stepM, stepK, opd, st_app, src, app_grow, h2, cond_false, hb2, h1, h3, Bool.and_self, cond_true, St.mm, hrow]
    · rw [lget_eq, lset_eq, List.getElem?_append_right (by simp)]
      simp
    · rw [List.length_append, hcl, hwl, Nat.add_mul]; omega
    · show (k + 1) * es ≤ (cs ++ ws).length
      rw [List.length_append, hcl, hwl, Nat.add_mul]; omega
    · rw [get_blk]
    · simp [lset_eq]; omega
    · have hib : b ≠ i := fun e => hne (by rw [e]; rfl)
      rw [lset_eq, List.getElem?_append_left (by simp; omega), List.getElem?_set_ne hib, e2, List.getElem?_append_left (by omega)]
/-- a list of rows made by append -/
theorem GV.mat {L e k : Nat} {cs : List AVal} (g : GV hp L e 1 v k cs) (hk : x.length = k) (hr : ∀ j, j < k → IsRow ro hp (cs.getD j und) (x.getD j [])) : IsMat ro hp v x := by
  subst hk
  rcases g with ⟨rfl, h2, -⟩ | ⟨b, blk, rfl, hpos, hLb, hbk, hbe, hcl, hbn, hrows⟩
  · exact .inl ⟨rfl, List.length_eq_zero_iff.1 h2⟩
  · refine .inr ⟨_, _, blk, rfl, rdB_heap hbk 0, by simpa using hbn, fun j hj => ?_⟩
    rw [Nat.zero_add, hrows j (by omega)]
    exact hr j hj

end
end Go.Proofs.Ytnalgdobglfndaa.T

/- Series and walks: what fewer foretellers, one alone, and two that always differ come to. -/
open Go.Vm
set_option linter.unusedVariables false
namespace Go.Proofs.Ytnalgdobglfndaa.T
open Go

theorem take_getD {z : List Int} {m f : Nat} (hf : f < m) : (z.take m).getD f 0 = z.getD f 0 := by simp [List.getD, hf]
end Go.Proofs.Ytnalgdobglfndaa.T

/- The law about walks. -/
open Go.Vm
set_option linter.unusedVariables false
namespace Go.Proofs.Ytnalgdobglfndaa.T
open Go

section
variable {ro : List ABlk} {h hp hp' : Heap} {a b v : AVal} {x : List (List Int)} {z : List Int}

theorem keep0 (hp : Heap) : Keep [] hp := ⟨Nat.zero_le _, fun i hi => absurd hi (Nat.not_lt_zero _)⟩
theorem getD_old {α : Type} {l : List α} {w d : α} {j : Nat} (hj : j < l.length) : (l ++ [w]).getD j d = l.getD j d := by simp [List.getD, List.getElem?_append_left hj]
theorem getD_new {α : Type} {l : List α} {w d : α} {j : Nat} (hj : j = l.length) : (l ++ [w]).getD j d = w := by subst hj; simp [List.getD]
end
end Go.Proofs.Ytnalgdobglfndaa.T

/- The law about walks: the function. -/
open Go.Vm
set_option linter.unusedVariables false
namespace Go.Proofs.Ytnalgdobglfndaa.T
open Go

section
variable {ro : List ABlk} {h hp hp' : Heap} {a b v : AVal} {x : List (List Int)} {z : List Int}

end
end Go.Proofs.Ytnalgdobglfndaa.T

/- An argument that is a list of rows: each with its room. -/
open Go.Vm
set_option linter.unusedVariables false
namespace Go.Proofs.Ytnalgdobglfndaa.T
open Go Go.RowKit Go.Deep Go.WideShapes Go.ChangeShapes

end Go.Proofs.Ytnalgdobglfndaa.T

/- The halver's methods: what it foretells, what it learns. -/
open Go.Vm
set_option linter.unusedVariables false
namespace Go.Proofs.Ytnalgdobglfndaa.T
open Go

/-- how often a foreteller was wrong in the first i rounds -/
def mis (x : List (List Int)) (z : List Int) (f : Nat) : Nat → Nat
  | 0 => 0
  | i + 1 => mis x z f i + (if (nthR x i).getD f 0 ≠ z.getD i 0 then 1 else 0)
def misL (x : List (List Int)) (z : List Int) (n i : Nat) : List Int := (List.range n).map fun f => ((mis x z f i : Nat) : Int)
theorem misL_len (x : List (List Int)) (z : List Int) (n i : Nat) : (misL x z n i).length = n := by simp [misL]
theorem misL_get {x : List (List Int)} {z : List Int} {n i f : Nat} (hf : f < n) : (misL x z n i).getD f 0 = ((mis x z f i : Nat) : Int) := by simp [misL, List.getD, hf]
theorem mis_le (x : List (List Int)) (z : List Int) (f : Nat) : ∀ i, mis x z f i ≤ i
  | 0 => Nat.le_refl _
  | i + 1 => by
    have := mis_le x z f i
    simp only [mis]; split <;> omega
theorem misL_zero (x : List (List Int)) (z : List Int) (n : Nat) : misL x z n 0 = zeros n := by
  refine List.ext_getElem (by simp [misL, zeros]) fun j h1 h2 => by simp [misL, zeros, mis]
/-- the sum of the votes of those that were never wrong -/
def hvN (w row : List Int) : Nat → Int
  | 0 => 0
  | f + 1 => if w.getD f 0 = 0 then hvN w row f + (2 * row.getD f 0 - 1) else hvN w row f
def sideV (n : Int) : Int := if 0 < n then 1 else 0
theorem hv_rng {w row : List Int} {n : Nat} (hb : ∀ f, f < n → bitP (row.getD f 0)) : ∀ f, f ≤ n → -(f : Int) ≤ hvN w row f ∧ hvN w row f ≤ (f : Int)
  | 0, _ => by simp [hvN]
  | f + 1, hf => by
    have h1 := hv_rng (w := w) hb f (by omega)
    have h2 := hb f (by omega)
    unfold bitP at h2
    simp only [hvN]
    split <;> omega
/-- the numbers of mistakes after the first c foretellers -/
def lrn (w row : List Int) (told : Int) (c : Nat) : List Int := (List.range w.length).map fun f => if f < c ∧ row.getD f 0 ≠ told then w.getD f 0 + 1 else w.getD f 0
theorem lrn_len (w row : List Int) (told : Int) (c : Nat) : (lrn w row told c).length = w.length := by simp [lrn]
theorem lrn_get {w row : List Int} {told : Int} {c f : Nat} (hf : f < w.length) : (lrn w row told c).getD f 0 = if f < c ∧ row.getD f 0 ≠ told then w.getD f 0 + 1 else w.getD f 0 := by simp [lrn, List.getD, hf]
theorem lrn_zero (w row : List Int) (told : Int) : lrn w row told 0 = w := by
  refine List.ext_getElem (by simp [lrn]) fun j h1 h2 => ?_
  simp [lrn, List.getD, h2]
theorem lrn_same {w row : List Int} {told : Int} {c : Nat} (he : row.getD c 0 = told) : lrn w row told (c + 1) = lrn w row told c := by
  unfold lrn
  refine List.map_congr_left fun f _ => ?_
  by_cases e : f = c
  · subst e; rw [if_neg (fun hh => hh.2 he), if_neg (fun hh => by omega)]
  · by_cases h : f < c ∧ row.getD f 0 ≠ told
    · rw [if_pos h, if_pos ⟨by omega, h.2⟩]
    · rw [if_neg h, if_neg (fun hh => h ⟨by omega, hh.2⟩)]
theorem lrn_set {w row : List Int} {told : Int} {c : Nat} (hc : c < w.length) (he : row.getD c 0 ≠ told) : (lrn w row told c).set c (w.getD c 0 + 1) = lrn w row told (c + 1) := by
  refine List.ext_getElem (by simp [lrn]) fun j h1 h2 => ?_
  have hj : j < w.length := by simpa [lrn] using h2
  rw [List.getElem_set]
  by_cases e : c = j
  · subst e
    rw [if_pos rfl]
    simp only [lrn, List.getElem_map, List.getElem_range]
    rw [if_pos ⟨by omega, he⟩]
  · rw [if_neg e]
    simp only [lrn, List.getElem_map, List.getElem_range]
    by_cases h : j < c ∧ row.getD j 0 ≠ told
    · rw [if_pos h, if_pos ⟨by omega, h.2⟩]
    · rw [if_neg h, if_neg (fun hh => h ⟨by omega, hh.2⟩)]
theorem misL_next (x : List (List Int)) (z : List Int) (n i : Nat) : lrn (misL x z n i) (nthR x i) (z.getD i 0) n = misL x z n (i + 1) := by
  refine List.ext_getElem (by simp [lrn, misL]) fun j h1 h2 => ?_
  have hj : j < n := by simpa [misL] using h2
  simp only [lrn, misL, List.getElem_map, List.getElem_range, List.length_map, List.length_range]
  have e1 : ((List.range n).map fun f => ((mis x z f i : Nat) : Int)).getD j 0 = ((mis x z j i : Nat) : Int) := misL_get hj
  rw [e1]
  simp only [mis]
  by_cases h : (nthR x i).getD j 0 ≠ z.getD i 0
  · rw [if_pos ⟨hj, h⟩, if_pos h]; omega
  · rw [if_neg (fun hh => h hh.2), if_neg h]; omega

section
variable {ro : List ABlk} {h hp : Heap} {a b u v : AVal} {x : List (List Int)} {z row w : List Int}

theorem vote_ok {n : Int} (hb : bitP n) : callX F1 ro 101 [.i .i64 n] h = some (.i .i64 (2 * n - 1), h, h.length, h.length) := by
  refine g101_ok (meansX_ok F1 ro) rfl ?_
  unfold g101
  unfold bitP at hb
  have w1 : Go.Vm.wr .i64 (2 * n) = 2 * n := wr_id' (by omega) (by omega)
  have w2 : Go.Vm.wr .i64 (2 * n - 1) = 2 * n - 1 := wr_id' (by omega) (by omega)
  simp only [forceI_eq, w1, w2, tupA]
  exact fin_pure rfl
theorem side_ok {n : Int} : callX F1 ro 102 [.i .i64 n] h = some (.i .i64 (sideV n), h, h.length, h.length) := by
  refine g102_ok (meansX_ok F1 ro) rfl ?_
  unfold g102 sideV
  simp only [forceB_eq, ltI_eq]
  by_cases h0 : 0 < n
  · simp only [dT h0, cond_true, if_pos h0, tupA]; exact fin_pure rfl
  · simp only [dF h0, cond_false, if_neg h0, tupA]; exact fin_pure rfl
/-- what a halver foretells -/
theorem foretell_ok {n q : Nat} (hu : IsRow ro hp u row) (hrl : row.length = n) (hb : ∀ f, f < n → bitP (row.getD f 0)) (hn : n ≤ 100) (hw : Holds hp q (ints w)) (hwl : w.length = n) :
    callX F1 ro 99 [.agg [wSl q n], u] hp = some (.i .i64 (sideV (hvN w row n)), hp, hp.length, hp.length) := by
  refine g99_ok (meansX_ok F1 ro) rfl ?_
  unfold g99
  have s1 := bx_ok (ro := ro) (hp := hp) (l := hp.length) (p := hp.length) (vs := [wSl q n]) (n := 1) 71 rfl
  obtain ⟨hb1, eb⟩ : ∃ hb1, hb1 = hp ++ [some (blkOf 71 [wSl q n])] := ⟨_, rfl⟩
  rw [← eb] at s1
  have kp : Keep hp hb1 := by rw [eb]; exact Keep.app _
  have dB : Holds hb1 hp.length [wSl q n] := by rw [eb]; exact Holds.new hp 71 _
  have dW := hw.by kp
  have f1 := dB.one (ro := ro) (l := hp.length) (p := hp.length) (k := 0) (by simp)
  simp only [Nat.zero_add] at f1
  have f1' : ldM ro ⟨hb1, hp.length, hp.length⟩ true 1 (.p (some ⟨false, hp.length, 0⟩)) = some (.sl ⟨false, q, 0⟩ n (.known n)) := f1
  have hloop := loop_run (b := fun s : Int × Int × Mm => g99_b0 (meansX F1 ro) ro (.p (some ⟨false, hp.length, 0⟩)) u row.length s.1 s.2.1 s.2.2) (fun f => (hvN w row f, (f : Int), (⟨hb1, hp.length, hp.length⟩ : Mm))) n (r0 := (hvN w row n, (⟨hb1, hp.length, hp.length⟩ : Mm)))
    (by simp only [g99_b0, hrl, forceB_eq, ltI_eq, lt_no, cond_false])
    (fun f hf => by
      obtain ⟨p1, h1, hld⟩ := at_rowK hu (show f < row.length by omega)
      have h2 := (hld (l := hp.length) (q := hp.length) kp).1
      have g4 := ixS_eq (q := ⟨false, q, 0⟩) (cap := .known n) hf
      have g5 := dW.one (ro := ro) (l := hp.length) (p := hp.length) (k := f) (by rw [ints_len]; omega)
      rw [ints_get (by omega)] at g5
      simp only [Nat.zero_add] at g4 g5
      have hbf := hb f hf
      have hr := hv_rng (w := w) hb f (by omega)
      have cv := cp (F := F1) (l := hp.length) (p := hp.length) (vote_ok (ro := ro) (h := hb1) hbf) kp.1 kp.1
      by_cases h0 : w.getD f 0 = 0
      · have e0 : (w.getD f 0 == 0) = true := by rw [h0]; rfl
        have e1 : hvN w row (f + 1) = hvN w row f + (2 * row.getD f 0 - 1) := by show (if w.getD f 0 = 0 then _ else _) = _; rw [if_pos h0]
        have w1 : Go.Vm.wr .i64 (hvN w row f + (2 * row.getD f 0 - 1)) = hvN w row f + (2 * row.getD f 0 - 1) := by
          unfold bitP at hbf
          exact wr_id' (by omega) (by omega)
        simp only [g99_b0, hrl, forceB_eq, ltI_eq, lt_yes hf, cond_true, h1, h2, bindO_some, asI_i, p_faddr, Nat.zero_add, f1', g4, g5, eqI_eq, e0, meansX_call, cv, bindP_some, forceI_eq, w1, e1]
        rw [wr_next (by omega)]
      · have e0 : (w.getD f 0 == 0) = false := by rw [beq_eq_false_iff_ne]; exact h0
        have e1 : hvN w row (f + 1) = hvN w row f := by show (if w.getD f 0 = 0 then _ else _) = _; rw [if_neg h0]
        simp only [g99_b0, hrl, forceB_eq, ltI_eq, lt_yes hf, cond_true, h1, h2, bindO_some, asI_i, p_faddr, Nat.zero_add, f1', g4, g5, eqI_eq, e0, cond_false, forceI_eq, e1]
        rw [wr_next (by omega)])
  have e0 : ((0 : Nat) : Int) = 0 := rfl
  have e1 : hvN w row 0 = 0 := rfl
  rw [e0, e1] at hloop
  have cs := cp (F := F1) (l := hp.length) (p := hp.length) (side_ok (ro := ro) (h := hb1) (n := hvN w row n)) kp.1 kp.1
  simp only [s1, bindP_some, len_row hu, bindO_some, asI_i, meansX_loop, hloop, meansX_call, cs, tupA]
  exact fin_keep kp rfl
/-- what a halver learns -/
theorem learn_ok {n q : Nat} {say told : Int} (hu : IsRow ro h u row) (kh : Keep h hp) (hqh : h.length ≤ q) (hrl : row.length = n) (hn : n ≤ 100) (hw : Holds hp q (ints w)) (hwl : w.length = n) (hwr : ∀ f, f < n → 0 ≤ w.getD f 0 ∧ w.getD f 0 ≤ 1000) :
    ∃ hp' lw, callX F1 ro 100 [.agg [wSl q n], u, .i .i64 say, .i .i64 told] hp = some (.tup [], hp', lw, hp.length) ∧ q ≤ lw ∧ hp'.length = hp.length ∧ (∀ i, i ≠ q → hp'[i]? = hp[i]?) ∧ Holds hp' q (ints (lrn w row told n)) := by
  have hq := hw.lt
  have s1 := bx_ok (ro := ro) (hp := hp) (l := hp.length) (p := hp.length) (vs := [wSl q n]) (n := 1) 71 rfl
  obtain ⟨hb1, eb⟩ : ∃ hb1, hb1 = hp ++ [some (blkOf 71 [wSl q n])] := ⟨_, rfl⟩
  rw [← eb] at s1
  have kp : Keep hp hb1 := by rw [eb]; exact Keep.app _
  have hbl : hb1.length = hp.length + 1 := by rw [eb]; simp
  have dB : Holds hb1 hp.length [wSl q n] := by rw [eb]; exact Holds.new hp 71 _
  have dW := hw.by kp
  have kh1 := kh.trans kp
  obtain ⟨m', hrun, hp3, lw3, rfl, hlw3, hl3, ho3, hw3⟩ := loop_all (b := fun s : Int × Mm => g100_b0 (meansX F1 ro) ro told (.p (some ⟨false, hp.length, 0⟩)) u row.length s.1 s.2) n
    (fun c m => ∃ hp2 lw2, m = ⟨hp2, lw2, hp.length⟩ ∧ q ≤ lw2 ∧ hp2.length = hb1.length ∧ (∀ i, i ≠ q → hp2[i]? = hb1[i]?) ∧ Holds hp2 q (ints (lrn w row told c)))
    (fun c m hc hI => by
      obtain ⟨hp2, lw2, rfl, hlw2, hl2, ho2, hw2⟩ := hI
      have kp2 : Keep h hp2 := keep_o kh1 hqh hl2 ho2
      obtain ⟨p1, h1, hld⟩ := at_rowK hu (show c < row.length by omega)
      have h2 := (hld (l := lw2) (q := hp.length) kp2).1
      by_cases he : row.getD c 0 = told
      · have e0 : (row.getD c 0 == told) = true := by rw [he]; exact beq_self_eq_true _
        refine ⟨⟨hp2, lw2, hp.length⟩, ?_, hp2, lw2, rfl, hlw2, hl2, ho2, by rw [lrn_same he]; exact hw2⟩
        simp only [g100_b0, hrl, forceB_eq, ltI_eq, lt_yes hc, cond_true, h1, h2, bindO_some, asI_i, eqI_eq, e0, Bool.not_true, cond_false, forceI_eq]
        rw [wr_next (by omega)]
      · have e0 : (row.getD c 0 == told) = false := by rw [beq_eq_false_iff_ne]; exact he
        have dB2 : Holds hp2 hp.length [wSl q n] := dB.keep (ho2 _ (by omega))
        have f1 := dB2.one (ro := ro) (l := lw2) (p := hp.length) (k := 0) (by simp)
        simp only [Nat.zero_add] at f1
        have f1' : ldM ro ⟨hp2, lw2, hp.length⟩ true 1 (.p (some ⟨false, hp.length, 0⟩)) = some (.sl ⟨false, q, 0⟩ n (.known n)) := f1
        have g4 := ixS_eq (q := ⟨false, q, 0⟩) (cap := .known n) hc
        have hul : c < (lrn w row told c).length := by rw [lrn_len]; omega
        have g5 := hw2.one (ro := ro) (l := lw2) (p := hp.length) (k := c) (by rw [ints_len]; exact hul)
        rw [ints_get hul, lrn_get (by omega), if_neg (fun hh => Nat.lt_irrefl c hh.1)] at g5
        have hwc := hwr c hc
        have w1 : Go.Vm.wr .i64 (w.getD c 0 + 1) = w.getD c 0 + 1 := wr_id' (by omega) (by omega)
        obtain ⟨hp3, hst, hw3, hl3, ho3⟩ := hw2.setG (ro := ro) (l := lw2) (p := hp.length) (k := c) (v := .i .i64 (w.getD c 0 + 1)) (by rw [ints_len]; exact hul) rfl rfl rfl
        simp only [Nat.zero_add] at g4 g5 hst
        refine ⟨⟨hp3, min lw2 q, hp.length⟩, ?_, hp3, min lw2 q, rfl, by omega, by omega, fun j hj => by rw [ho3 j hj]; exact ho2 j hj, by rw [ints_set, lrn_set (by omega) he] at hw3; exact hw3⟩
        simp only [g100_b0, hrl, forceB_eq, ltI_eq, lt_yes hc, cond_true, h1, h2, bindO_some, asI_i, eqI_eq, e0, Bool.not_false, p_faddr, Nat.zero_add, f1', g4, g5, forceI_eq, w1, hst, bindP_some]
        rw [wr_next (by omega)])
    (fun m hI => by simp only [g100_b0, hrl, forceB_eq, ltI_eq, lt_no, cond_false]) n 0 ⟨hb1, hp.length, hp.length⟩ (by omega) ⟨hb1, hp.length, rfl, by omega, rfl, fun _ _ => rfl, by rw [lrn_zero]; exact dW⟩
  have e0 : ((0 : Nat) : Int) = 0 := rfl
  rw [e0] at hrun
  have hkeep : ∀ i, i < hp.length → i ≠ q → hp3[i]? = hp[i]? := fun i hi hne => by rw [ho3 i hne]; exact kp.2 i hi
  refine ⟨hp3.take hp.length, lw3, g100_ok (meansX_ok F1 ro) rfl ?_, hlw3, by rw [List.length_take]; omega, fun i hne => ?_, hw3.keep (by rw [List.getElem?_take, if_pos hq])⟩
  · unfold g100
    simp only [s1, bindP_some, len_row (row_by hu kh), bindO_some, asI_i, meansX_loop, hrun, tupA]
    exact fin_take rfl
  · rw [List.getElem?_take]
    by_cases hi : i < hp.length
    · rw [if_pos hi]; exact hkeep i hi hne
    · rw [if_neg hi, List.getElem?_eq_none (by omega)]
end
end Go.Proofs.Ytnalgdobglfndaa.T

/- A program that foretells and learns, round by round. -/
open Go.Vm
set_option linter.unusedVariables false
namespace Go.Proofs.Ytnalgdobglfndaa.T
open Go

abbrev tabF : List MRow := [(71, (99, [])), (74, (103, [])), (75, (99, [(0, (1, false))])), (76, (105, []))]
abbrev tabL : List MRow := [(71, (100, [])), (74, (104, [])), (75, (100, [(0, (1, false))])), (76, (100, [(0, (1, false))]))]
abbrev tabN : List (String × List MRow) := [("Error", [(8, (84, [])), (10, (86, [])), (11, (88, [])), (14, (90, [])), (19, (97, []))]), ("RuntimeError", [(8, (85, [])), (10, (87, [])), (11, (89, [])), (14, (91, [])), (19, (98, []))]), ("dibber/luck.foretell", [(71, (99, [])), (74, (103, [])), (75, (99, [(0, (1, false))])), (76, (105, []))]), ("dibber/luck.learn", [(71, (100, [])), (74, (104, [])), (75, (100, [(0, (1, false))])), (76, (100, [(0, (1, false))]))]), ("String", [(116, (106, []))])]
def sayM (say : Nat → Int) (T i : Nat) : List Int := (List.range T).map fun j => if j < i then say j else 0
theorem sayM_len (say : Nat → Int) (T i : Nat) : (sayM say T i).length = T := by simp [sayM]
theorem sayM_zero (say : Nat → Int) (T : Nat) : sayM say T 0 = zeros T := by
  refine List.ext_getElem (by simp [sayM, zeros]) fun j h1 h2 => by simp [sayM, zeros]
theorem sayM_set {say : Nat → Int} {T i : Nat} (hi : i < T) : (sayM say T i).set i (say i) = sayM say T (i + 1) := by
  refine List.ext_getElem (by simp [sayM]) fun j h1 h2 => ?_
  rw [List.getElem_set]
  by_cases e : i = j
  · subst e; rw [if_pos rfl]; simp [sayM]
  · rw [if_neg e]
    simp only [sayM, List.getElem_map, List.getElem_range]
    by_cases h : j < i
    · rw [if_pos h, if_pos (by omega)]
    · rw [if_neg h, if_neg (by omega)]
theorem sayM_get {say : Nat → Int} {T i j : Nat} (hj : j < T) (hi : j < i) : (sayM say T i).getD j 0 = say j := by simp [sayM, List.getD, hj, hi]

section
variable {ro : List ABlk} {h hp : Heap} {a b u v v0 : AVal} {x : List (List Int)} {z row w : List Int}

/-- a program whose state is a list of numbers in a block -/
theorem listen_ok {n q T : Nat} {say : Nat → Int} {st : Nat → List Int} (ha : IsMat ro h a x) (hb : IsRow ro h b z) (kh : Keep h hp) (hqh : h.length ≤ q) (hT : x.length = T) (hz : z.length = T) (hT2 : T ≤ 200) (hw : Holds hp q (ints (st 0)))
    (hF : ∀ i, i < T → ∀ (hp' : Heap) (u : AVal), IsRow ro hp' u (nthR x i) → Holds hp' q (ints (st i)) → ∃ f r, mget tabF v0 = some (f, r) ∧ callX F1 ro f [r, u] hp' = some (.i .i64 (say i), hp', hp'.length, hp'.length))
    (hLn : ∀ i, i < T → ∀ (hp' : Heap) (u : AVal), IsRow ro h u (nthR x i) → Keep h hp' → Holds hp' q (ints (st i)) → ∃ f r hp'' lw, mget tabL v0 = some (f, r) ∧ callX F1 ro f [r, u, .i .i64 (say i), .i .i64 (z.getD i 0)] hp' = some (.tup [], hp'', lw, hp'.length) ∧ q ≤ lw ∧ hp''.length = hp'.length ∧ (∀ j, j ≠ q → hp''[j]? = hp'[j]?) ∧ Holds hp'' q (ints (st (i + 1))))
    (hN : evP .e (.nilm tabN (.c (.bm "dibber/luck.learn" v0))) = some (.bm "dibber/luck.learn" v0)) :
    ∃ hp' lw, callX F1 ro 50 [v0, a, b] hp = some (wSl hp.length T, hp', lw, hp.length) ∧ q ≤ lw ∧ hp'.length = hp.length + 1 ∧ (∀ i, i ≠ q → i ≠ hp.length → hp'[i]? = hp[i]?) ∧ Holds hp' q (ints (st T)) ∧ Holds hp' hp.length (ints (sayM say T T)) := by
  have hq := hw.lt
  obtain ⟨hb1, eb⟩ : ∃ hb1, hb1 = hp ++ [some (newBlk 3 (.i .i64 0) T)] := ⟨_, rfl⟩
  have kp : Keep hp hb1 := by rw [eb]; exact Keep.app _
  have hbl : hb1.length = hp.length + 1 := by rw [eb]; simp
  have hnew : ∀ j, j ≠ hp.length → hb1[j]? = hp[j]? := fun j hj => by
    by_cases hlt : j < hp.length
    · exact kp.2 j hlt
    · rw [List.getElem?_eq_none (by omega), List.getElem?_eq_none (by omega)]
  have dS : Holds hb1 hp.length (ints (zeros T)) := by rw [eb]; exact newInts hp T
  obtain ⟨m', hrun, hp3, lw3, rfl, hlw3, hlw3', hl3, ho3, hw3, hs3⟩ := loop_all (b := fun s : Int × Mm => g50_b0 (meansX F1 ro) ro v0 b (wSl hp.length T) a (T : Int) s.1 s.2) T
    (fun i m => ∃ hp2 lw2, m = ⟨hp2, lw2, hp.length⟩ ∧ q ≤ lw2 ∧ lw2 ≤ hp.length ∧ hp2.length = hp.length + 1 ∧ (∀ j, j ≠ q → j ≠ hp.length → hp2[j]? = hp[j]?) ∧ Holds hp2 q (ints (st i)) ∧ Holds hp2 hp.length (ints (sayM say T i)))
    (fun i m hi hI => by
      obtain ⟨hp2, lw2, rfl, hlw2, hlw2', hl2, ho2, hw2, hs2⟩ := hI
      have kp2 : Keep h hp2 := ⟨by have := kh.1; omega, fun j hj => by rw [ho2 j (by omega) (by have := kh.1; omega)]; exact kh.2 j hj⟩
      obtain ⟨p1, u, e1, eld, hu⟩ := at_matK ha (show i < x.length by omega)
      have e2 := (eld (l := lw2) (q := hp.length) kp2).1
      obtain ⟨f, r, hm1, hc1⟩ := hF i hi hp2 u (row_by hu kp2) hw2
      have c1 := callM_pure (l := lw2) (p := hp.length) hc1 (by omega) (by omega)
      have g4 := ixS_eq (q := ⟨false, hp.length, 0⟩) (cap := .known T) hi
      obtain ⟨hp4, hst, hs4, hl4, ho4⟩ := hs2.setG (ro := ro) (l := lw2) (p := hp.length) (k := i) (v := .i .i64 (say i)) (by rw [ints_len, sayM_len]; exact hi) rfl rfl rfl
      rw [ints_set, sayM_set hi] at hs4
      have hw4 : Holds hp4 q (ints (st i)) := hw2.keep (ho4 q (by omega))
      have kp4 : Keep h hp4 := ⟨by have := kh.1; omega, fun j hj => by rw [ho4 j (by have := kh.1; omega)]; exact kp2.2 j hj⟩
      obtain ⟨p2, e3, eld2⟩ := at_rowK hb (show i < z.length by omega)
      have e4 := (eld2 (l := 0) (q := 0) kp4).2
      have g5 := hs4.oneA (ro := ro) (k := i) (by rw [ints_len, sayM_len]; exact hi)
      rw [ints_get (by rw [sayM_len]; exact hi), sayM_get hi (by omega)] at g5
      obtain ⟨f', r', hp5, lw5, hm2, hc2, q1, q2, q3, q4⟩ := hLn i hi hp4 u hu kp4 hw4
      have c2 := callM_eq (call := callX F1 ro) (m := ⟨hp4, min lw2 hp.length, hp.length⟩) hc2
      have hp45 : min hp.length hp4.length = hp.length := by omega
      rw [hp45] at c2
      simp only [Nat.zero_add] at g4 g5 hst
      refine ⟨⟨hp5, min (min lw2 hp.length) lw5, hp.length⟩, ?_, hp5, min (min lw2 hp.length) lw5, rfl, by omega, by omega, by omega, fun j h1 h2 => by rw [q3 j h1, ho4 j h2, ho2 j h1 h2], q4, hs4.keep (q3 _ (by omega))⟩
      simp only [g50_b0, forceB_eq, ltI_eq, lt_yes hi, cond_true, e1, e2, bindO_some, calliM, hm1, meansX_call, c1, bindP_some, asI_i, g4, hst, e3, hN, g5, e4, hm2, c2, forceI_eq]
      rw [wr_next (by omega)])
    (fun m hI => by simp only [g50_b0, forceB_eq, ltI_eq, lt_no, cond_false]) T 0 ⟨hb1, hp.length, hp.length⟩ (by omega) ⟨hb1, hp.length, rfl, by omega, Nat.le_refl _, hbl, (fun j _ h2 => hnew j h2), hw.by kp, by rw [sayM_zero]; exact dS⟩
  have e0 : ((0 : Nat) : Int) = 0 := rfl
  rw [e0] at hrun
  refine ⟨hp3, lw3, g50_ok (meansX_ok F1 ro) rfl ?_, hlw3, hl3, ho3, hw3, hs3⟩
  unfold g50
  have s1 := mk_ok (ro := ro) (hp := hp) (l := hp.length) (p := hp.length) (e := 3) (es := 1) (bytes := 8) (v := .i .i64 0) (n := T) (by omega) (by omega)
  rw [← eb] at s1
  have hl := len_mat (mat_by ha kh)
  rw [hT] at hl
  have hbel : (wSl hp.length T).bel hp.length = false := by
    have : Nat.blt hp.length hp.length = false := by rw [Bool.eq_false_iff]; simp [Nat.blt_eq]
    simp [AVal.bel, this]
  simp only [hl, bindO_some, asI_i, s1, bindP_some, meansX_loop, hrun, tupA]
  exact fin_out hbel
end
end Go.Proofs.Ytnalgdobglfndaa.T

/- Halving: the program and the reference answer the same. -/
open Go.Vm
set_option linter.unusedVariables false
namespace Go.Proofs.Ytnalgdobglfndaa.T
open Go

def hsay (x : List (List Int)) (z : List Int) (n i : Nat) : Int := sideV (hvN (misL x z n i) (nthR x i) n)
/-- what Halving answers -/
def halfR (n : Int) (x : List (List Int)) (z : List Int) : List Int × Int :=
  if recE n x z ≠ 0 then ([], recE n x z) else (sayM (hsay x z n.toNat) x.length x.length, 0)
theorem rec_facts {n : Int} {x : List (List Int)} {z : List Int} (h : recE n x z = 0) : ∃ N : Nat, n = (N : Int) ∧ 1 ≤ N ∧ N ≤ 20 ∧ x.length ≤ 200 ∧ (∀ i, i < x.length → bitsP (nthR x i) ∧ (nthR x i).length = N) ∧ bitsP z ∧ z.length = x.length := by
  unfold recE at h
  split at h
  · cases h
  split at h
  · cases h
  split at h
  · rename_i h1 h2 h3
    refine ⟨n.toNat, by omega, by omega, by omega, by omega, fun i hi => ?_, h3.2.1, ?_⟩
    · have := h3.1.1 i hi
      exact ⟨this.1, by have := this.2; omega⟩
    · have := h3.2.2; omega
  · cases h
/-- how many of those that were never wrong say 1, how many say 0 -/
def pN (w row : List Int) : Nat → Int
  | 0 => 0
  | f + 1 => if w.getD f 0 = 0 then pN w row f + row.getD f 0 else pN w row f
def qN (w row : List Int) : Nat → Int
  | 0 => 0
  | f + 1 => if w.getD f 0 = 0 then qN w row f + (1 - row.getD f 0) else qN w row f
theorem pq_hv (w row : List Int) : ∀ f, hvN w row f = pN w row f - qN w row f
  | 0 => rfl
  | f + 1 => by
    have := pq_hv w row f
    simp only [hvN, pN, qN]
    split <;> omega
theorem pq_rng {w row : List Int} {n : Nat} (hb : ∀ f, f < n → bitP (row.getD f 0)) : ∀ f, f ≤ n → 0 ≤ pN w row f ∧ pN w row f ≤ (f : Int) ∧ 0 ≤ qN w row f ∧ qN w row f ≤ (f : Int)
  | 0, _ => by simp [pN, qN]
  | f + 1, hf => by
    have h1 := pq_rng (w := w) hb f (by omega)
    have h2 := hb f (by omega)
    unfold bitP at h2
    simp only [pN, qN]
    split <;> omega
/-- who was wrong: after the first c of round i -/
def outL (x : List (List Int)) (z : List Int) (n i c : Nat) : List AVal := (List.range n).map fun f => .b (decide (mis x z f (if f < c then i + 1 else i) ≠ 0))
theorem outL_len (x : List (List Int)) (z : List Int) (n i c : Nat) : (outL x z n i c).length = n := by simp [outL]
theorem outL_get {x : List (List Int)} {z : List Int} {n i c f : Nat} (hf : f < n) : (outL x z n i c).getD f und = .b (decide (mis x z f (if f < c then i + 1 else i) ≠ 0)) := by simp [outL, List.getD, hf]
theorem outL_set {x : List (List Int)} {z : List Int} {n i c : Nat} (hc : c < n) : (outL x z n i c).set c (.b (decide (mis x z c (i + 1) ≠ 0))) = outL x z n i (c + 1) := by
  refine List.ext_getElem (by simp [outL]) fun j h1 h2 => ?_
  rw [List.getElem_set]
  by_cases e : c = j
  · subst e
    rw [if_pos rfl]
    simp only [outL, List.getElem_map, List.getElem_range]
    rw [if_pos (by omega)]
  · rw [if_neg e]
    simp only [outL, List.getElem_map, List.getElem_range]
    by_cases h : j < c
    · rw [if_pos h, if_pos (by omega)]
    · rw [if_neg h, if_neg (by omega)]
theorem outL_end (x : List (List Int)) (z : List Int) (n i : Nat) : outL x z n i n = outL x z n (i + 1) 0 := by
  refine List.ext_getElem (by simp [outL]) fun j h1 h2 => ?_
  have hj : j < n := by simpa [outL] using h1
  simp only [outL, List.getElem_map, List.getElem_range]
  rw [if_pos hj, if_neg (by omega)]

section
variable {ro : List ABlk} {h hp : Heap} {a b u v v0 : AVal} {x : List (List Int)} {z row w : List Int}

theorem err_bel (e : Int) (L : Nat) : (AVal.tup (.nsl :: [.i .i64 e])).bel L = true := nil_bel [e] L
theorem Halving_ok {n : Int} (ha : IsMat ro h a x) (hl : LenOk x) (hb : IsRow ro h b z) (hz : z.length ≤ 9223372036854775807) : RetL ro h 18 [.i .i64 n, a, b] (halfR n x z).1 [.i .i64 (halfR n x z).2] := by
  unfold RetL
  suffices hs : ∃ v h', g18 (meansX F1 ro) ro n a b ⟨h, h.length, h.length⟩ = some (.tup (v :: [.i .i64 (halfR n x z).2]), h', h.length, h.length) ∧ Keep h h' ∧ IsRow ro h' v (halfR n x z).1 ∧ (halfR n x z).1.length ≤ 1000 by
    obtain ⟨v, h', h1, h2⟩ := hs
    exact ⟨v, h', g18_ok (meansX_ok F1 ro) rfl h1, h2⟩
  unfold g18
  simp only [meansX_call, cp0 (checkRecord_ok (n := n) ha hl hb hz), bindP_some, asI_i, forceB_eq, eqI_eq]
  by_cases hr : recE n x z = 0
  case neg =>
    have e : (!(recE n x z == 0)) = true := by simpa using hr
    have e2 : halfR n x z = ([], recE n x z) := by unfold halfR; rw [if_pos hr]
    rw [e2]
    simp only [e, cond_true, tupA]
    exact ⟨.nsl, h, fin_pure (err_bel _ _), Keep.refl h, .inl ⟨rfl, rfl⟩, by simp⟩
  obtain ⟨N, rfl, hN1, hN2, hT, hrows, hzb, hzl⟩ := rec_facts hr
  have e : (!(recE (N : Int) x z == 0)) = false := by rw [hr]; rfl
  have e2 : halfR (N : Int) x z = (sayM (hsay x z N) x.length x.length, 0) := by unfold halfR; rw [if_neg (by simpa using hr)]; rfl
  rw [e2]
  obtain ⟨hb1, eb⟩ : ∃ hb1, hb1 = h ++ [some (newBlk 3 (.i .i64 0) N)] := ⟨_, rfl⟩
  have kp : Keep h hb1 := by rw [eb]; exact Keep.app _
  have hbl : hb1.length = h.length + 1 := by rw [eb]; simp
  have dS : Holds hb1 h.length (ints (misL x z N 0)) := by rw [eb, misL_zero]; exact newInts h N
  have s1 := mk_ok (ro := ro) (hp := h) (l := h.length) (p := h.length) (e := 3) (es := 1) (bytes := 8) (v := .i .i64 0) (n := N) (by omega) (by omega)
  rw [← eb] at s1
  obtain ⟨hp', lw, c1, q1, q2, q3, q4, q5⟩ := listen_ok (ro := ro) (h := h) (hp := hb1) (v0 := .ifc 71 (.agg [wSl h.length N])) (n := N) (q := h.length) (T := x.length) (say := hsay x z N) (st := misL x z N) ha hb kp (Nat.le_refl _) rfl hzl hT dS
    (fun i hi hp' u hu hw => ⟨99, .agg [wSl h.length N], rfl, foretell_ok hu (hrows i hi).2 (fun f hf => (hrows i hi).1 f (by have := (hrows i hi).2; omega)) (by omega) hw (misL_len _ _ _ _)⟩)
    (fun i hi hp' u hu kh hw => by
      obtain ⟨hp'', lw, c, r1, r2, r3, r4⟩ := learn_ok (ro := ro) (h := h) (say := hsay x z N i) (told := z.getD i 0) hu kh (Nat.le_refl _) (hrows i hi).2 (by omega) hw (misL_len _ _ _ _) (fun f hf => by rw [misL_get hf]; have := mis_le x z f i; omega)
      rw [misL_next] at r4
      exact ⟨100, .agg [wSl h.length N], hp'', lw, rfl, c, r1, r2, r3, r4⟩)
    rfl
  have c2 := callM_eq (call := callX F1 ro) (m := ⟨hb1, h.length, h.length⟩) c1
  have m1 : min h.length lw = h.length := by omega
  have m2 : min h.length hb1.length = h.length := by omega
  rw [m1, m2] at c2
  have kp' : Keep h hp' := ⟨by omega, fun j hj => by rw [q3 j (by omega) (by omega)]; exact kp.2 j hj⟩
  have fl : (fillA [AVal.nsl] [((0, 1), wSl h.length N)]).map AVal.agg = some (.agg [wSl h.length N]) := rfl
  simp only [e, cond_false, s1, bindP_some, fl, bindO_some, c2, tupA]
  exact ⟨_, hp', fin_out (sl_nb (by omega)), kp', holds_ints q5 (sayM_len _ _ _), by rw [sayM_len]; omega⟩

theorem refHalving_ok {n : Int} (ha : IsMat ro h a x) (hl : LenOk x) (hb : IsRow ro h b z) (hz : z.length ≤ 9223372036854775807) : RetL ro h 19 [.i .i64 n, a, b] (halfR n x z).1 [.i .i64 (halfR n x z).2] := by
  unfold RetL
  suffices hs : ∃ v h', g19 (meansX F1 ro) ro n a b ⟨h, h.length, h.length⟩ = some (.tup (v :: [.i .i64 (halfR n x z).2]), h', h.length, h.length) ∧ Keep h h' ∧ IsRow ro h' v (halfR n x z).1 ∧ (halfR n x z).1.length ≤ 1000 by
    obtain ⟨v, h', h1, h2⟩ := hs
    exact ⟨v, h', g19_ok (meansX_ok F1 ro) rfl h1, h2⟩
  unfold g19
  simp only [meansX_call, cp0 (Record_ok (n := n) ha hl hb hz), bindP_some, asI_i, forceB_eq, eqI_eq]
  by_cases hr : recE n x z = 0
  case neg =>
    have e : (!(recE n x z == 0)) = true := by simpa using hr
    have e2 : halfR n x z = ([], recE n x z) := by unfold halfR; rw [if_pos hr]
    rw [e2]
    simp only [e, cond_true, tupA]
    exact ⟨.nsl, h, fin_pure (err_bel _ _), Keep.refl h, .inl ⟨rfl, rfl⟩, by simp⟩
  obtain ⟨N, rfl, hN1, hN2, hT, hrows, hzb, hzl⟩ := rec_facts hr
  have e : (!(recE (N : Int) x z == 0)) = false := by rw [hr]; rfl
  have e2 : halfR (N : Int) x z = (sayM (hsay x z N) x.length x.length, 0) := by unfold halfR; rw [if_neg (by simpa using hr)]; rfl
  rw [e2]
  obtain ⟨hb1, eb⟩ : ∃ hb1, hb1 = h ++ [some (newBlk 4 (.b false) N)] := ⟨_, rfl⟩
  have kp : Keep h hb1 := by rw [eb]; exact Keep.app _
  have hbl : hb1.length = h.length + 1 := by rw [eb]; simp
  have dS : Holds hb1 h.length (outL x z N 0 0) := by
    have e : rep [(AVal.b false)] N = outL x z N 0 0 := by
      refine List.ext_getElem (by rw [rep_len, outL_len]) fun j h1 h2 => ?_
      have hj : j < N := by rw [rep_len] at h1; exact h1
      have e1 := rep_get (AVal.b false) N j hj
      have e2 := outL_get (x := x) (z := z) (i := 0) (c := 0) hj
      rw [if_neg (by omega)] at e2
      rw [List.getD_eq_getElem?_getD, List.getElem?_eq_getElem h1] at e1
      rw [List.getD_eq_getElem?_getD, List.getElem?_eq_getElem h2] at e2
      simp only [Option.getD_some] at e1 e2
      rw [e1, e2]; simp [mis]
    rw [eb]
    show Holds (h ++ [some (blkOf 4 (rep [(AVal.b false)] N))]) _ _
    rw [e]
    exact Holds.new h 4 _
  have s1 := mk_ok (ro := ro) (hp := h) (l := h.length) (p := h.length) (e := 4) (es := 1) (bytes := 1) (v := .b false) (n := N) (by omega) (by omega)
  rw [← eb] at s1
  obtain ⟨v1, m1, hrun1, hp1, rfl, k1, g1⟩ := loop_all3 (b := fun s : AVal × Int × Mm => g19_b0 (meansX F1 ro) ro (N : Int) a b (.sl ⟨false, h.length, 0⟩ N (.known N)) s.1 s.2.1 s.2.2) x.length
    (fun i v m => ∃ hp, m = ⟨hp, h.length, h.length⟩ ∧ (Keep h hp ∧ h.length + 1 ≤ hp.length ∧ Holds hp h.length (outL x z N i 0)) ∧ GV hp (h.length + 1) 3 1 v i (ints ((List.range i).map (hsay x z N))))
    (fun i v m hi hI => by
      obtain ⟨hp, rfl, ⟨kp, hlen, ho⟩, g⟩ := hI
      obtain ⟨p1, u, a1, ald, hu⟩ := at_matK ha hi
      obtain ⟨p2, b1, bld⟩ := at_rowK hb (show i < z.length by omega)
      obtain ⟨hrb, hrl⟩ := hrows i hi
      have hbits : ∀ f, f < N → bitP ((nthR x i).getD f 0) := fun f hf => hrb f (by omega)
      -- the inner loop
      obtain ⟨o, hrun, hp2, rfl, kp2, hl2, ho2, g2⟩ : ∃ o, loopX (fun s : Int × Int × Int × Mm => g19_b1 (meansX F1 ro) ro (N : Int) a b (.sl ⟨false, h.length, 0⟩ N (.known N)) v (i : Int) s.1 s.2.1 s.2.2.1 s.2.2.2) (0, 0, 0, (⟨hp, h.length, h.length⟩ : Mm)) = some o ∧
          ∃ hp2, o = (pN (misL x z N i) (nthR x i) N, qN (misL x z N i) (nthR x i) N, (⟨hp2, h.length, h.length⟩ : Mm)) ∧ Keep h hp2 ∧ hp2.length = hp.length ∧ Holds hp2 h.length (outL x z N i N) ∧ GV hp2 (h.length + 1) 3 1 v i (ints ((List.range i).map (hsay x z N))) := by
        refine loopX_rule (b := fun s : Int × Int × Int × Mm => g19_b1 (meansX F1 ro) ro (N : Int) a b (.sl ⟨false, h.length, 0⟩ N (.known N)) v (i : Int) s.1 s.2.1 s.2.2.1 s.2.2.2)
          (fun s => ∃ (f : Nat) (hp2 : Heap), f ≤ N ∧ s = (pN (misL x z N i) (nthR x i) f, qN (misL x z N i) (nthR x i) f, (f : Int), (⟨hp2, h.length, h.length⟩ : Mm)) ∧ Keep h hp2 ∧ hp2.length = hp.length ∧ Holds hp2 h.length (outL x z N i f) ∧ GV hp2 (h.length + 1) 3 1 v i (ints ((List.range i).map (hsay x z N))))
          (fun o => ∃ hp2, o = (pN (misL x z N i) (nthR x i) N, qN (misL x z N i) (nthR x i) N, (⟨hp2, h.length, h.length⟩ : Mm)) ∧ Keep h hp2 ∧ hp2.length = hp.length ∧ Holds hp2 h.length (outL x z N i N) ∧ GV hp2 (h.length + 1) 3 1 v i (ints ((List.range i).map (hsay x z N))))
          (fun s => N - s.2.2.1.toNat) ?_ _ ⟨0, hp, Nat.zero_le _, rfl, kp, rfl, ho, g⟩
        rintro s ⟨f, hp2, hf, rfl, kp2, hl2, ho2, g2⟩
        by_cases hfN : f = N
        · subst hfN
          right
          refine ⟨_, ?_, hp2, rfl, kp2, hl2, ho2, g2⟩
          simp only [g19_b1, forceB_eq, ltI_eq, lt_no, cond_false]
        left
        have hf' : f < N := by omega
        have a2 := (ald (l := h.length) (q := h.length) kp2).1
        have a2' := (ald (l := h.length) (q := h.length) kp2).2
        have b2' := (bld (l := h.length) (q := h.length) kp2).2
        obtain ⟨p3, c1, cld⟩ := at_rowK hu (show f < (nthR x i).length by omega)
        have c2 := (cld (l := h.length) (q := h.length) kp2).1
        have c2' := (cld (l := h.length) (q := h.length) kp2).2
        have g4 := ixS_eq (q := ⟨false, h.length, 0⟩) (cap := .known N) hf'
        have g5 := ho2.one (ro := ro) (l := h.length) (p := h.length) (k := f) (by rw [outL_len]; exact hf')
        have g6 := ho2.oneA (ro := ro) (k := f) (by rw [outL_len]; exact hf')
        rw [outL_get hf', if_neg (Nat.lt_irrefl f)] at g5 g6
        obtain ⟨hp3, hwr, ho3, hl3, hk3⟩ := ho2.wrG (ro := ro) (l := h.length) (p := h.length) (k := f) (v := .b (decide (mis x z f (i + 1) ≠ 0))) (by rw [outL_len]; exact hf') rfl rfl rfl
        rw [outL_set hf'] at ho3
        rw [Nat.min_self] at hwr
        simp only [Nat.zero_add] at g4 g5 g6 hwr
        have hbf := hbits f hf'
        have hpq := pq_rng (w := misL x z N i) hbits f (by omega)
        have hmg := misL_get (x := x) (z := z) (i := i) hf'
        have kp3 : Keep h hp3 := keep_o kp2 (Nat.le_refl _) hl3 hk3
        have g3 : GV hp3 (h.length + 1) 3 1 v i (ints ((List.range i).map (hsay x z N))) := g2.byB fun j hj hb => hk3 j (by have := g2.bno j hb; omega)
        have hcb : (bindO (cond (decide (mis x z f i ≠ 0)) (some true) (some (!((nthR x i).getD f 0 == z.getD i 0)))) fun c79 => some c79) = some (decide (mis x z f (i + 1) ≠ 0)) := by
          by_cases h0 : mis x z f i = 0
          · rw [dF (show ¬ mis x z f i ≠ 0 by omega)]
            simp only [cond_false, bindO_some]
            congr 1
            by_cases he : (nthR x i).getD f 0 = z.getD i 0
            · have : mis x z f (i + 1) = 0 := by simp only [mis]; rw [if_neg (by simpa using he)]; omega
              rw [this, he]; simp
            · have : mis x z f (i + 1) ≠ 0 := by simp only [mis]; rw [if_pos he]; omega
              rw [dT this]
              simpa using he
          · rw [dT (show mis x z f i ≠ 0 from h0)]
            have : mis x z f (i + 1) ≠ 0 := by simp only [mis]; omega
            rw [dT this]; rfl
        refine ⟨(pN (misL x z N i) (nthR x i) (f + 1), qN (misL x z N i) (nthR x i) (f + 1), ((f + 1 : Nat) : Int), ⟨hp3, h.length, h.length⟩), ?_, ⟨f + 1, hp3, hf', rfl, kp3, by omega, ho3, g3⟩, ?_⟩
        · by_cases h0 : mis x z f i = 0
          · have hw0 : (misL x z N i).getD f 0 = 0 := by rw [hmg, h0]; rfl
            have e1 : pN (misL x z N i) (nthR x i) (f + 1) = pN (misL x z N i) (nthR x i) f + (nthR x i).getD f 0 := by simp only [pN]; rw [if_pos hw0]
            have e2 : qN (misL x z N i) (nthR x i) (f + 1) = qN (misL x z N i) (nthR x i) f + (1 - (nthR x i).getD f 0) := by simp only [qN]; rw [if_pos hw0]
            unfold bitP at hbf
            have w1 : Go.Vm.wr .i64 (pN (misL x z N i) (nthR x i) f + (nthR x i).getD f 0) = pN (misL x z N i) (nthR x i) f + (nthR x i).getD f 0 := wr_id' (by omega) (by omega)
            have w2 : Go.Vm.wr .i64 (1 - (nthR x i).getD f 0) = 1 - (nthR x i).getD f 0 := wr_id' (by omega) (by omega)
            have w3 : Go.Vm.wr .i64 (qN (misL x z N i) (nthR x i) f + (1 - (nthR x i).getD f 0)) = qN (misL x z N i) (nthR x i) f + (1 - (nthR x i).getD f 0) := wr_id' (by omega) (by omega)
            rw [dF (show ¬ mis x z f i ≠ 0 by omega)] at g5 g6 hcb
            simp only [cond_false, bindO_some, Option.some.injEq] at hcb
            simp only [g19_b1, forceB_eq, ltI_eq, lt_yes hf', cond_true, cond_false, g4, g5, g6, bindO_some, asB_b, Bool.not_false, a1, a2, a2', c1, c2, c2', asI_i, forceI_eq, w1, w2, w3, b1, b2', eqI_eq, hcb, asP_p, hwr, e1, e2]
            rw [wr_next (by omega)]
          · have hw0 : ¬ (misL x z N i).getD f 0 = 0 := by rw [hmg]; omega
            have e1 : pN (misL x z N i) (nthR x i) (f + 1) = pN (misL x z N i) (nthR x i) f := by simp only [pN]; rw [if_neg hw0]
            have e2 : qN (misL x z N i) (nthR x i) (f + 1) = qN (misL x z N i) (nthR x i) f := by simp only [qN]; rw [if_neg hw0]
            have e3 : mis x z f (i + 1) ≠ 0 := by simp only [mis]; omega
            rw [dT (show mis x z f i ≠ 0 from h0)] at g5 g6
            rw [dT e3] at hwr
            simp only [g19_b1, forceB_eq, ltI_eq, lt_yes hf', cond_true, cond_false, g4, g5, g6, bindO_some, asB_b, Bool.not_true, asP_p, hwr, forceI_eq, e1, e2]
            rw [wr_next (by omega)]
        · show N - (((f + 1 : Nat) : Int)).toNat < N - ((f : Int)).toNat
          omega
      obtain ⟨v2, hp3, v3, hp4, s1, s2, g3, l3, o3⟩ := push1 (ro := ro) (L0 := h.length) (n := hsay x z N i) g2 (Nat.le_succ _) (by omega) (by omega)
      have kp4 : Keep h hp4 := ⟨by have := kp2.1; omega, fun j hj => by rw [o3 j (by omega)]; exact kp2.2 j hj⟩
      refine ⟨v3, ⟨hp4, h.length, h.length⟩, ?_, hp4, rfl, ⟨kp4, by omega, ?_⟩, by rw [range_snoc]; exact g3⟩
      · have hsd : (bindO (α := Int) (cond (decide (qN (misL x z N i) (nthR x i) N < pN (misL x z N i) (nthR x i) N)) (some 1) (some 0)) fun y => some y) = some (hsay x z N i) := by
          unfold hsay sideV
          have := pq_hv (misL x z N i) (nthR x i) N
          by_cases hlt : qN (misL x z N i) (nthR x i) N < pN (misL x z N i) (nthR x i) N
          · rw [dT hlt, if_pos (by omega)]; rfl
          · rw [dF hlt, if_neg (by omega)]; rfl
        simp only [g19_b0, len_mat (mat_by ha kp), bindO_some, asI_i, forceB_eq, ltI_eq, lt_yes hi, cond_true, meansX_loop, hrun]
        by_cases hlt : qN (misL x z N i) (nthR x i) N < pN (misL x z N i) (nthR x i) N
        · rw [dT hlt] at hsd ⊢
          simp only [cond_true, bindO_some, Option.some.injEq] at hsd ⊢
          rw [← hsd] at s1
          simp only [s1, bindP_some, s2, forceI_eq]
          rw [wr_next (by omega)]
        · rw [dF hlt] at hsd ⊢
          simp only [cond_false, bindO_some, Option.some.injEq] at hsd ⊢
          rw [← hsd] at s1
          simp only [s1, bindP_some, s2, forceI_eq]
          rw [wr_next (by omega)]
      · rw [← outL_end]
        exact ho2.keep (o3 _ (by omega)))
    (fun v m hI => by
      obtain ⟨hp, rfl, ⟨kp, -⟩, -⟩ := hI
      simp only [g19_b0, len_mat (mat_by ha kp), bindO_some, asI_i, forceB_eq, ltI_eq, lt_no, cond_false]) x.length 0 .nsl ⟨hb1, h.length, h.length⟩ (by omega) ⟨hb1, rfl, ⟨kp, by omega, dS⟩, GV.nil _ _ _ _⟩
  have e0 : ((0 : Nat) : Int) = 0 := rfl
  rw [e0] at hrun1
  have hsayT : sayM (hsay x z N) x.length x.length = (List.range x.length).map (hsay x z N) := by
    unfold sayM
    refine List.map_congr_left fun j hj => ?_
    rw [if_pos (List.mem_range.1 hj)]
  rw [hsayT]
  simp only [e, cond_false, s1, bindP_some, meansX_loop, hrun1, bindO_some, tupA]
  have hrow := g1.row (ro := ro) (z := (List.range x.length).map (hsay x z N)) (by simp)
  rcases g1 with ⟨rfl, hx0, -⟩ | ⟨bq, blk, rfl, h2, h3, h4, h5⟩
  · refine ⟨.nsl, h, ?_, Keep.refl h, .inl ⟨rfl, by rw [hx0]; rfl⟩, by simp; omega⟩
    exact fin_keep k1.1 (err_bel 0 _)
  · exact ⟨_, hp1, fin_out (sl_nb (by omega)), k1.1, hrow, by simp; omega⟩
end
end Go.Proofs.Ytnalgdobglfndaa.T

/- slices.Repeat of one number; the product of two small numbers in two words. -/
open Go.Vm
set_option linter.unusedVariables false
namespace Go.Proofs.Ytnalgdobglfndaa.T
open Go

/-- the upper word of a product -/
def mulHi (x0 x1 : Int) : Int :=
  let x15 := bitV .and .u64 x0 4294967295
  let x17 := shrV .u64 x0 32
  let x19 := bitV .and .u64 x1 4294967295
  let x21 := shrV .u64 x1 32
  let x24 := wr .u64 (x15 * x19)
  let x27 := wr .u64 (x17 * x19)
  let x29 := shrV .u64 x24 32
  let x30 := wr .u64 (x27 + x29)
  let x32 := bitV .and .u64 x30 4294967295
  let x34 := shrV .u64 x30 32
  let x38 := wr .u64 (x15 * x21)
  let x39 := wr .u64 (x32 + x38)
  let x42 := wr .u64 (x17 * x21)
  let x44 := wr .u64 (x42 + x34)
  let x46 := shrV .u64 x39 32
  wr .u64 (x44 + x46)
theorem mulHi_all : ∀ n : Nat, n < 21 → mulHi 1 (n : Int) = 0 := by decide +kernel
theorem wr_u64_one : ∀ n : Nat, n < 21 → wr .u64 (1 * (n : Int)) = (n : Int) := by decide +kernel
/-- the first j are 1, the rest 0 -/
def firstOnes (N j : Nat) : List Int := (List.range N).map fun t => if t < j then 1 else 0
theorem firstOnes_len (N j : Nat) : (firstOnes N j).length = N := by simp [firstOnes]
theorem firstOnes_get {N j t : Nat} (ht : t < N) : (firstOnes N j).getD t 0 = if t < j then 1 else 0 := by simp [firstOnes, List.getD, ht]
/-- part of a list replaced -/
def cpL (vs ws : List Int) (j k : Nat) : List Int := (List.range vs.length).map fun t => if j ≤ t ∧ t < j + k then ws.getD (t - j) 0 else vs.getD t 0

section
variable {ro : List ABlk} {h hp : Heap} {a b u v v0 : AVal} {x : List (List Int)} {z row w vs ws : List Int}

theorem ones_ints : ∀ (w : List Int), ones (ints w) = true
  | [] => rfl
  | n :: w => by
    have := ones_ints w
    simp only [ints, List.map_cons, ones, Bool.and_eq_true] at this ⊢
    exact ⟨rfl, this⟩
theorem nonp_ints : ∀ (w : List Int), nonp (ints w) = true
  | [] => rfl
  | n :: w => by
    have := nonp_ints w
    simp only [ints, List.map_cons, nonp, Bool.and_eq_true] at this ⊢
    exact ⟨rfl, this⟩
theorem mul_ok {n : Nat} (hn : n ≤ 20) : callX F1 ro 73 [.i .u64 1, .i .u64 (n : Int)] h = some (.tup [.i .u64 0, .i .u64 (n : Int)], h, h.length, h.length) := by
  have h81 : callX F1 ro 81 [.i .u64 1, .i .u64 (n : Int)] h = some (.tup [.i .u64 0, .i .u64 (n : Int)], h, h.length, h.length) := by
    refine g81_ok (meansX_ok F1 ro) rfl ?_
    unfold g81
    have e := mulHi_all n (by omega)
    simp only [mulHi] at e
    simp only [forceI_eq, e, wr_u64_one n (by omega), tupA]
    exact fin_pure rfl
  refine g73_ok (meansX_ok F1 ro) rfl ?_
  unfold g73
  have e0 : evP .e (.ext 0 (.c (.tup [.i .u64 0, .i .u64 (n : Int)]))) = some (.i .u64 0) := rfl
  have e1 : evP .e (.ext 1 (.c (.tup [.i .u64 0, .i .u64 (n : Int)]))) = some (.i .u64 (n : Int)) := rfl
  have a0 : ∀ (k : Int → Option (AVal × Heap × Nat × Nat)) (n : Int), asI .u64 (.i .u64 n) k = k n := fun k n => rfl
  simp only [meansX_call, cp0 h81, bindP_some, e0, e1, bindO_some, a0, tupA]
  exact fin_pure rfl
theorem cpy_ok {q q2 j n1 n2 k l p : Nat} {c1 c2 : Cap} (a : Holds hp q (ints vs)) (s : Holds hp q2 (ints ws)) (hk : k = min n2 n1) (hk1 : k ≤ 1000) (hj : j + k ≤ vs.length) (hk2 : k ≤ ws.length) (hl : l ≤ q) :
    ∃ hp', stepM ro ⟨hp, l, p⟩ (.cpy 1 (.c (.sl ⟨false, q, j⟩ n1 c1)) (.c (.sl ⟨false, q2, 0⟩ n2 c2))) = some (.i .i64 (k : Int), ⟨hp', l, p⟩) ∧ Holds hp' q (ints (cpL vs ws j k)) ∧ hp'.length = hp.length ∧ ∀ i, i ≠ q → hp'[i]? = hp[i]? := by
  obtain ⟨blk, h1, h2, h3⟩ := a
  obtain ⟨b2, s1, s2, s3⟩ := s
  rw [ints_len] at h2 h3 s2 s3
  have hrow : b2.c.row 0 k = ints (ws.take k) := row_row k 0 _ (by rw [ints_len, List.length_take]; omega) fun t ht => by
    rw [Nat.zero_add, s3 t (by omega), ints_get (by omega), ints_get (by rw [List.length_take]; omega), take_getD ht]
  have hlen : (ints (ws.take k)).length = k := by rw [ints_len, List.length_take]; omega
  refine ⟨hp.set q (some { blk with c := blk.c.splice j (ints (ws.take k)) }), ?_, ⟨_, lget_set h1 _, ?_, fun t ht => ?_⟩, by simp, fun i hi => List.getElem?_set_ne (Ne.symm hi)⟩
  · have e1 : rdB ro hp ⟨false, q2, 0⟩ = some b2 := rdB_heap s1 0
    have e2 : Nat.ble (0 + k * 1) b2.n = true := by rw [Nat.ble_eq]; omega
    have e3 : wrH hp ⟨false, q, j⟩ (ints (ws.take k)) = some (hp.set q (some { blk with c := blk.c.splice j (ints (ws.take k)) })) := by
      have : (Nat.ble (j + (ints (ws.take k)).length) blk.n && ones (ints (ws.take k))) = true := by
        rw [ones_ints, Bool.and_true, Nat.ble_eq, hlen]; omega
      simp only [wrH, cond_false, h1, this, cond_true, lset_eq]
    have e4 : mkI .i64 ((k : Nat) : Int) = .i .i64 (k : Int) := by rw [mkI_eq]
    have e5 : min l q = l := by omega
    have hk' : min n2 n1 = k := hk.symm
    have hrow' : b2.c.row 0 (k * 1) = ints (ws.take k) := by rw [Nat.mul_one]; exact hrow
    simp only [stepM, stepK, st_cpy, opd, e1, hk', e2, cond_true, hrow', e3, e4, nonp_ints, e5, St.mm]
  · rw [ints_len]; simp only [cpL, List.length_map, List.length_range]; exact h2
  · rw [ints_len] at ht
    have ht' : t < vs.length := by simpa [cpL] using ht
    rw [ints_get ht]
    show (blk.c.splice j (ints (ws.take k))).get t = _
    have e : (cpL vs ws j k).getD t 0 = if j ≤ t ∧ t < j + k then ws.getD (t - j) 0 else vs.getD t 0 := by simp [cpL, List.getD, ht']
    rw [spliceGet, hlen, e]
    by_cases hc : j ≤ t ∧ t < j + k
    · rw [if_pos hc, if_pos hc, ints_get (by rw [List.length_take]; omega), take_getD (by omega)]
    · rw [if_neg hc, if_neg hc, h3 t ht', ints_get ht']
theorem Repeat_ok {N q0 : Nat} (hN : 1 ≤ N) (hN2 : N ≤ 20) (s : Holds hp q0 (ints [1])) :
    ∃ hp', callX F1 ro 51 [.sl ⟨false, q0, 0⟩ 1 (.known 1), .i .i64 (N : Int)] hp = some (wSl hp.length N, hp', hp.length, hp.length) ∧ Keep hp hp' ∧ hp'.length = hp.length + 1 ∧ Holds hp' hp.length (ints (firstOnes N N)) := by
  obtain ⟨hb1, eb⟩ : ∃ hb1, hb1 = hp ++ [some (newBlk 3 (.i .i64 0) N)] := ⟨_, rfl⟩
  have kp : Keep hp hb1 := by rw [eb]; exact Keep.app _
  have hbl : hb1.length = hp.length + 1 := by rw [eb]; simp
  have dS : Holds hb1 hp.length (ints (zeros N)) := by rw [eb]; exact newInts hp N
  have s0 := s.lt
  have s1 := mk_ok (ro := ro) (hp := hp) (l := hp.length) (p := hp.length) (e := 3) (es := 1) (bytes := 8) (v := .i .i64 0) (n := N) (by omega) (by omega)
  rw [← eb] at s1
  obtain ⟨hp2, c1, w1, l1, o1⟩ := cpy_ok (ro := ro) (l := hp.length) (p := hp.length) (j := 0) (n1 := N) (n2 := 1) (k := 1) (c1 := .known N) (c2 := .known 1) dS (s.by kp) (by omega) (by omega) (by simp [zeros]; omega) (by simp) (Nat.le_refl _)
  have ew : cpL (zeros N) [1] 0 1 = firstOnes N 1 := by
    refine List.ext_getElem (by simp [cpL, firstOnes, zeros]) fun t h1 h2 => ?_
    have ht : t < N := by simpa [firstOnes] using h2
    simp only [cpL, firstOnes, List.getElem_map, List.getElem_range]
    by_cases h0 : t = 0
    · subst h0; simp
    · rw [if_neg (by omega), if_neg (by omega)]; simp [zeros, List.getD, ht]
  rw [ew] at w1
  obtain ⟨o, hrun, hp3, rfl, l3, o3, w3⟩ : ∃ o, loopX (fun s : Int × Mm => g51_b1 (meansX F1 ro) ro (wSl hp.length N) s.1 s.2) (((1 : Nat) : Int), (⟨hp2, hp.length, hp.length⟩ : Mm)) = some o ∧
      ∃ hp3, o = (⟨hp3, hp.length, hp.length⟩ : Mm) ∧ hp3.length = hp.length + 1 ∧ (∀ i, i ≠ hp.length → hp3[i]? = hb1[i]?) ∧ Holds hp3 hp.length (ints (firstOnes N N)) := by
    refine loopX_rule (b := fun s : Int × Mm => g51_b1 (meansX F1 ro) ro (wSl hp.length N) s.1 s.2)
      (fun s => ∃ (j : Nat) (hp3 : Heap), 1 ≤ j ∧ j ≤ N ∧ s = ((j : Int), (⟨hp3, hp.length, hp.length⟩ : Mm)) ∧ hp3.length = hp.length + 1 ∧ (∀ i, i ≠ hp.length → hp3[i]? = hb1[i]?) ∧ Holds hp3 hp.length (ints (firstOnes N j)))
      (fun o => ∃ hp3, o = (⟨hp3, hp.length, hp.length⟩ : Mm) ∧ hp3.length = hp.length + 1 ∧ (∀ i, i ≠ hp.length → hp3[i]? = hb1[i]?) ∧ Holds hp3 hp.length (ints (firstOnes N N)))
      (fun s => N - s.1.toNat) ?_ _ ⟨1, hp2, Nat.le_refl _, hN, rfl, by omega, o1, w1⟩
    rintro s ⟨j, hp3, hj1, hjN, rfl, l3, o3, w3⟩
    have hlen : evP .e (.len false (.c (wSl hp.length N))) = some (.i .i64 (N : Int)) := by
      simp [evP, ev_len, opd, mkI_eq]
    by_cases hjn : j = N
    · subst hjn
      right
      refine ⟨_, ?_, hp3, rfl, l3, o3, w3⟩
      simp only [g51_b1, hlen, bindO_some, asI_i, forceB_eq, ltI_eq, lt_no, cond_false]
    left
    have hjN' : j < N := by omega
    obtain ⟨m, hm⟩ : ∃ m, j = m + 1 := ⟨j - 1, by omega⟩
    have e1 : evP .e (.slS 1 (.c (wSl hp.length N)) (some (.c (.i .i64 (j : Int)))) none none) = some (.sl ⟨false, hp.length, j⟩ (N - j) (.known (N - j))) := by
      have hble : Nat.ble (m + 1) N = true := by rw [Nat.ble_eq]; omega
      have hblt : Nat.blt (m + 1) N = true := by rw [Nat.blt_eq]; omega
      have hblN : Nat.ble N N = true := by rw [Nat.ble_eq]; omega
      have en : ((j : Nat) : Int) = Int.ofNat (m + 1) := by rw [hm]; rfl
      rw [en, hm]
      simp only [evP, ev_slS, opd, sl_lh, Option.map_some, Option.map_none, sbound, hble, cond_true, hblt, Nat.mul_one, Nat.zero_add]
    have e2 : evP .e (.slS 1 (.c (wSl hp.length N)) none (some (.c (.i .i64 (j : Int)))) none) = some (.sl ⟨false, hp.length, 0⟩ j (.known N)) := by
      have hble : Nat.ble j (capB (.known N) N) = true := by rw [Nat.ble_eq]; show j ≤ N; omega
      have en : ((j : Nat) : Int) = Int.ofNat j := rfl
      simp only [evP, ev_slS, opd, sl_lh, Option.map_some, Option.map_none, sbound, en, hble, cond_true]
    obtain ⟨hp4, c4, w4, l4, o4⟩ := cpy_ok (ro := ro) (l := hp.length) (p := hp.length) (j := j) (n1 := N - j) (n2 := j) (k := min j (N - j)) (c1 := .known (N - j)) (c2 := .known N) w3 w3 rfl (by omega) (by rw [firstOnes_len]; omega) (by rw [firstOnes_len]; omega) (Nat.le_refl _)
    have ew : cpL (firstOnes N j) (firstOnes N j) j (min j (N - j)) = firstOnes N (j + min j (N - j)) := by
      refine List.ext_getElem (by simp [cpL, firstOnes]) fun t h1 h2 => ?_
      have ht : t < N := by simpa [firstOnes] using h2
      simp only [cpL, List.getElem_map, List.getElem_range, firstOnes_get ht]
      conv => rhs; simp only [firstOnes, List.getElem_map, List.getElem_range]
      by_cases hc : j ≤ t ∧ t < j + min j (N - j)
      · rw [if_pos hc, firstOnes_get (by omega), if_pos (by omega), if_pos (by omega)]
      · rw [if_neg hc]
        by_cases h0 : t < j
        · rw [if_pos h0, if_pos (by omega)]
        · rw [if_neg h0, if_neg (by omega)]
    rw [ew] at w4
    have w5 : Go.Vm.wr .i64 ((j : Int) + ((min j (N - j) : Nat) : Int)) = ((j + min j (N - j) : Nat) : Int) := by
      have := Nat.min_le_left j (N - j)
      rw [wr_id' (by omega) (by omega)]; omega
    refine ⟨(((j + min j (N - j) : Nat) : Int), ⟨hp4, hp.length, hp.length⟩), ?_, ⟨j + min j (N - j), hp4, by omega, by omega, rfl, by omega, fun i hi => by rw [o4 i hi, o3 i hi], w4⟩, ?_⟩
    · simp only [g51_b1, hlen, bindO_some, asI_i, forceB_eq, ltI_eq, lt_yes hjN', cond_true, e1, e2, c4, bindP_some, forceI_eq, w5]
    · show N - (((j + min j (N - j) : Nat) : Int)).toNat < N - ((j : Int)).toNat
      omega
  have kp3 : Keep hp hp3 := ⟨by omega, fun i hi => by rw [o3 i (by omega)]; exact kp.2 i hi⟩
  refine ⟨hp3, g51_ok (meansX_ok F1 ro) rfl ?_, kp3, l3, w3⟩
  unfold g51
  have hlen0 : evP .e (.len false (.c (.sl ⟨false, q0, 0⟩ 1 (.known 1)))) = some (.i .i64 1) := rfl
  have u1 : Go.Vm.wr .u64 1 = 1 := by decide +kernel
  have u2 : Go.Vm.wr .u64 (N : Int) = (N : Int) := wr_u64_id (by omega)
  have u3 : Go.Vm.wr .i64 (N : Int) = (N : Int) := wr_nat (by omega)
  have cM := cp0 (F := F1) (mul_ok (ro := ro) (h := hp) hN2)
  have e0 : evP .e (.ext 0 (.c (.tup [.i .u64 0, .i .u64 (N : Int)]))) = some (.i .u64 0) := rfl
  have e1 : evP .e (.ext 1 (.c (.tup [.i .u64 0, .i .u64 (N : Int)]))) = some (.i .u64 (N : Int)) := rfl
  have a0 : ∀ (k : Int → Option (AVal × Heap × Nat × Nat)) (n : Int), asI .u64 (.i .u64 n) k = k n := fun k n => rfl
  have c1' : stepM ro ⟨hb1, hp.length, hp.length⟩ (.cpy 1 (.c (wSl hp.length N)) (.c (.sl ⟨false, q0, 0⟩ 1 (.known 1)))) = _ := c1
  have hbel : (wSl hp.length N).bel hp.length = false := by
    have : Nat.blt hp.length hp.length = false := by rw [Bool.eq_false_iff]; simp [Nat.blt_eq]
    simp [AVal.bel, this]
  simp only [forceB_eq, ltI_eq, dF (show ¬ (N : Int) < 0 by omega), cond_false, hlen0, bindO_some, asI_i, forceI_eq, u1, u2, meansX_call, cM, bindP_some, e0, e1, a0, dF (show ¬ (0 : Int) < 0 by omega), dF (show ¬ (9223372036854775807 : Int) < (N : Int) by omega), u3, s1, c1', meansX_loop, hrun, tupA]
  exact fin_out hbel
end
end Go.Proofs.Ytnalgdobglfndaa.T

/- Winnow: the program and the reference answer the same. -/
open Go.Vm
set_option linter.unusedVariables false
namespace Go.Proofs.Ytnalgdobglfndaa.T
open Go

/-- the weights of those that say 1, summed -/
def wsN (w row : List Int) : Nat → Int
  | 0 => 0
  | f + 1 => wr .i64 (wsN w row f + wr .i64 (row.getD f 0 * w.getD f 0))
def winV (w row : List Int) (n : Nat) : Int := if wsN w row n < (n : Int) then 0 else 1
/-- the weights after the first c foretellers -/
def wlr (w row : List Int) (told : Int) (c : Nat) : List Int := (List.range w.length).map fun f => if f < c ∧ row.getD f 0 = 1 then wr .i64 (w.getD f 0 * wr .i64 (2 * told)) else w.getD f 0
theorem wlr_len (w row : List Int) (told : Int) (c : Nat) : (wlr w row told c).length = w.length := by simp [wlr]
theorem wlr_get {w row : List Int} {told : Int} {c f : Nat} (hf : f < w.length) : (wlr w row told c).getD f 0 = if f < c ∧ row.getD f 0 = 1 then wr .i64 (w.getD f 0 * wr .i64 (2 * told)) else w.getD f 0 := by simp [wlr, List.getD, hf]
theorem wlr_zero (w row : List Int) (told : Int) : wlr w row told 0 = w := by
  refine List.ext_getElem (by simp [wlr]) fun j h1 h2 => ?_
  simp [wlr, List.getD, h2]
theorem wlr_same {w row : List Int} {told : Int} {c : Nat} (he : row.getD c 0 ≠ 1) : wlr w row told (c + 1) = wlr w row told c := by
  unfold wlr
  refine List.map_congr_left fun f _ => ?_
  by_cases e : f = c
  · subst e; rw [if_neg (fun hh => he hh.2), if_neg (fun hh => by omega)]
  · by_cases h : f < c ∧ row.getD f 0 = 1
    · rw [if_pos h, if_pos ⟨by omega, h.2⟩]
    · rw [if_neg h, if_neg (fun hh => h ⟨by omega, hh.2⟩)]
theorem wlr_set {w row : List Int} {told : Int} {c : Nat} (hc : c < w.length) (he : row.getD c 0 = 1) : (wlr w row told c).set c (wr .i64 (w.getD c 0 * wr .i64 (2 * told))) = wlr w row told (c + 1) := by
  refine List.ext_getElem (by simp [wlr]) fun j h1 h2 => ?_
  have hj : j < w.length := by simpa [wlr] using h2
  rw [List.getElem_set]
  by_cases e : c = j
  · subst e
    rw [if_pos rfl]
    simp only [wlr, List.getElem_map, List.getElem_range]
    rw [if_pos ⟨by omega, he⟩]
  · rw [if_neg e]
    simp only [wlr, List.getElem_map, List.getElem_range]
    by_cases h : j < c ∧ row.getD j 0 = 1
    · rw [if_pos h, if_pos ⟨by omega, h.2⟩]
    · rw [if_neg h, if_neg (fun hh => h ⟨by omega, hh.2⟩)]
/-- the weights before round i -/
def wtL (x : List (List Int)) (z : List Int) (n : Nat) : Nat → List Int
  | 0 => firstOnes n n
  | i + 1 => if winV (wtL x z n i) (nthR x i) n = z.getD i 0 then wtL x z n i else wlr (wtL x z n i) (nthR x i) (z.getD i 0) n
theorem wtL_len (x : List (List Int)) (z : List Int) (n : Nat) : ∀ i, (wtL x z n i).length = n
  | 0 => firstOnes_len n n
  | i + 1 => by
    have := wtL_len x z n i
    simp only [wtL]; split
    · exact this
    · rw [wlr_len]; exact this
def wsay (x : List (List Int)) (z : List Int) (n i : Nat) : Int := winV (wtL x z n i) (nthR x i) n
/-- what Winnow answers -/
def winR (n : Int) (x : List (List Int)) (z : List Int) : List Int × Int :=
  if recE n x z ≠ 0 then ([], recE n x z) else (sayM (wsay x z n.toNat) x.length x.length, 0)

section
variable {ro : List ABlk} {h hp : Heap} {a b u v v0 : AVal} {x : List (List Int)} {z row w : List Int}

theorem win_bool (n : Nat) : (!decide (wsN w row n < (n : Int))) = true ∧ winV w row n = 1 ∨ (!decide (wsN w row n < (n : Int))) = false ∧ winV w row n = 0 := by
  unfold winV
  by_cases h : wsN w row n < (n : Int)
  · right; rw [dT h, if_pos h]; exact ⟨rfl, rfl⟩
  · left; rw [dF h, if_neg h]; exact ⟨rfl, rfl⟩
/-- what a winnower foretells -/
theorem wforetell_ok {n q : Nat} (hu : IsRow ro hp u row) (hrl : row.length = n) (hn : n ≤ 100) (hw : Holds hp q (ints w)) (hwl : w.length = n) :
    callX F1 ro 103 [.agg [wSl q n], u] hp = some (.i .i64 (winV w row n), hp, hp.length, hp.length) := by
  refine g103_ok (meansX_ok F1 ro) rfl ?_
  unfold g103
  have s1 := bx_ok (ro := ro) (hp := hp) (l := hp.length) (p := hp.length) (vs := [wSl q n]) (n := 1) 74 rfl
  obtain ⟨hb1, eb⟩ : ∃ hb1, hb1 = hp ++ [some (blkOf 74 [wSl q n])] := ⟨_, rfl⟩
  rw [← eb] at s1
  have kp : Keep hp hb1 := by rw [eb]; exact Keep.app _
  have dB : Holds hb1 hp.length [wSl q n] := by rw [eb]; exact Holds.new hp 74 _
  have dW := hw.by kp
  have f1 := dB.one (ro := ro) (l := hp.length) (p := hp.length) (k := 0) (by simp)
  simp only [Nat.zero_add] at f1
  have f1' : ldM ro ⟨hb1, hp.length, hp.length⟩ true 1 (.p (some ⟨false, hp.length, 0⟩)) = some (.sl ⟨false, q, 0⟩ n (.known n)) := f1
  have hloop := loop_run (b := fun s : Int × Int => g103_b0 (meansX F1 ro) ro u (.p (some ⟨false, hp.length, 0⟩)) row.length ⟨hb1, hp.length, hp.length⟩ s.1 s.2) (fun f => (wsN w row f, (f : Int))) n (r0 := wsN w row n)
    (by simp only [g103_b0, hrl, forceB_eq, ltI_eq, lt_no, cond_false])
    (fun f hf => by
      obtain ⟨p1, h1, hld⟩ := at_rowK hu (show f < row.length by omega)
      have h2 := (hld (l := hp.length) (q := hp.length) kp).1
      have g4 := ixS_eq (q := ⟨false, q, 0⟩) (cap := .known n) hf
      have g5 := dW.one (ro := ro) (l := hp.length) (p := hp.length) (k := f) (by rw [ints_len]; omega)
      rw [ints_get (by omega)] at g5
      simp only [Nat.zero_add] at g4 g5
      simp only [g103_b0, hrl, forceB_eq, ltI_eq, lt_yes hf, cond_true, h1, h2, bindO_some, asI_i, p_faddr, Nat.zero_add, f1', g4, g5, forceI_eq]
      rw [wr_next (by omega)]; rfl)
  have e0 : ((0 : Nat) : Int) = 0 := rfl
  have e1 : wsN w row 0 = 0 := rfl
  rw [e0, e1] at hloop
  simp only [s1, bindP_some, len_row hu, bindO_some, asI_i, meansX_loop, forceB_eq, ltI_eq, hrl]
  rw [hrl] at hloop
  rcases win_bool (w := w) (row := row) n with ⟨h1, h2⟩ | ⟨h1, h2⟩
  · rw [h2]; simp only [hloop, bindO_some, h1, cond_true, tupA]; exact fin_keep kp rfl
  · rw [h2]; simp only [hloop, bindO_some, h1, cond_false, tupA]; exact fin_keep kp rfl
/-- what a winnower learns -/
theorem wlearn_ok {n q : Nat} {say told : Int} (hu : IsRow ro h u row) (kh : Keep h hp) (hqh : h.length ≤ q) (hrl : row.length = n) (hn : n ≤ 100) (hw : Holds hp q (ints w)) (hwl : w.length = n) :
    ∃ hp' lw, callX F1 ro 104 [.agg [wSl q n], u, .i .i64 say, .i .i64 told] hp = some (.tup [], hp', lw, hp.length) ∧ q ≤ lw ∧ hp'.length = hp.length ∧ (∀ i, i ≠ q → hp'[i]? = hp[i]?) ∧ Holds hp' q (ints (if say = told then w else wlr w row told n)) := by
  have hq := hw.lt
  have s1 := bx_ok (ro := ro) (hp := hp) (l := hp.length) (p := hp.length) (vs := [wSl q n]) (n := 1) 74 rfl
  obtain ⟨hb1, eb⟩ : ∃ hb1, hb1 = hp ++ [some (blkOf 74 [wSl q n])] := ⟨_, rfl⟩
  rw [← eb] at s1
  have kp : Keep hp hb1 := by rw [eb]; exact Keep.app _
  by_cases hst : say = told
  · have e0 : (say == told) = true := by rw [hst]; exact beq_self_eq_true _
    rw [if_pos hst]
    refine ⟨hp, hp.length, g104_ok (meansX_ok F1 ro) rfl ?_, by omega, rfl, fun _ _ => rfl, hw⟩
    unfold g104
    simp only [s1, bindP_some, forceB_eq, eqI_eq, e0, cond_true, tupA]
    exact fin_keep kp rfl
  have e0 : (say == told) = false := by rw [beq_eq_false_iff_ne]; exact hst
  rw [if_neg hst]
  have hbl : hb1.length = hp.length + 1 := by rw [eb]; simp
  have dB : Holds hb1 hp.length [wSl q n] := by rw [eb]; exact Holds.new hp 74 _
  have dW := hw.by kp
  have kh1 := kh.trans kp
  obtain ⟨m', hrun, hp3, lw3, rfl, hlw3, hl3, ho3, hw3⟩ := loop_all (b := fun s : Int × Mm => g104_b0 (meansX F1 ro) ro told (.p (some ⟨false, hp.length, 0⟩)) u row.length s.1 s.2) n
    (fun c m => ∃ hp2 lw2, m = ⟨hp2, lw2, hp.length⟩ ∧ q ≤ lw2 ∧ hp2.length = hb1.length ∧ (∀ i, i ≠ q → hp2[i]? = hb1[i]?) ∧ Holds hp2 q (ints (wlr w row told c)))
    (fun c m hc hI => by
      obtain ⟨hp2, lw2, rfl, hlw2, hl2, ho2, hw2⟩ := hI
      have kp2 : Keep h hp2 := keep_o kh1 hqh hl2 ho2
      obtain ⟨p1, h1, hld⟩ := at_rowK hu (show c < row.length by omega)
      have h2 := (hld (l := lw2) (q := hp.length) kp2).1
      by_cases he : row.getD c 0 = 1
      · have e0 : (row.getD c 0 == 1) = true := by rw [he]; rfl
        have dB2 : Holds hp2 hp.length [wSl q n] := dB.keep (ho2 _ (by omega))
        have f1 := dB2.one (ro := ro) (l := lw2) (p := hp.length) (k := 0) (by simp)
        simp only [Nat.zero_add] at f1
        have f1' : ldM ro ⟨hp2, lw2, hp.length⟩ true 1 (.p (some ⟨false, hp.length, 0⟩)) = some (.sl ⟨false, q, 0⟩ n (.known n)) := f1
        have g4 := ixS_eq (q := ⟨false, q, 0⟩) (cap := .known n) hc
        have hul : c < (wlr w row told c).length := by rw [wlr_len]; omega
        have g5 := hw2.one (ro := ro) (l := lw2) (p := hp.length) (k := c) (by rw [ints_len]; exact hul)
        rw [ints_get hul, wlr_get (by omega), if_neg (fun hh => Nat.lt_irrefl c hh.1)] at g5
        obtain ⟨hp3, hst, hw3, hl3, ho3⟩ := hw2.setG (ro := ro) (l := lw2) (p := hp.length) (k := c) (v := .i .i64 (Go.Vm.wr .i64 (w.getD c 0 * Go.Vm.wr .i64 (2 * told)))) (by rw [ints_len]; exact hul) rfl rfl rfl
        simp only [Nat.zero_add] at g4 g5 hst
        refine ⟨⟨hp3, min lw2 q, hp.length⟩, ?_, hp3, min lw2 q, rfl, by omega, by omega, fun j hj => by rw [ho3 j hj]; exact ho2 j hj, by rw [ints_set, wlr_set (by omega) he] at hw3; exact hw3⟩
        simp only [g104_b0, hrl, forceB_eq, ltI_eq, lt_yes hc, cond_true, h1, h2, bindO_some, asI_i, eqI_eq, e0, p_faddr, Nat.zero_add, f1', g4, g5, forceI_eq, hst, bindP_some]
        rw [wr_next (by omega)]
      · have e0 : (row.getD c 0 == 1) = false := by rw [beq_eq_false_iff_ne]; exact he
        refine ⟨⟨hp2, lw2, hp.length⟩, ?_, hp2, lw2, rfl, hlw2, hl2, ho2, by rw [wlr_same he]; exact hw2⟩
        simp only [g104_b0, hrl, forceB_eq, ltI_eq, lt_yes hc, cond_true, h1, h2, bindO_some, asI_i, eqI_eq, e0, cond_false, forceI_eq]
        rw [wr_next (by omega)])
    (fun m hI => by simp only [g104_b0, hrl, forceB_eq, ltI_eq, lt_no, cond_false]) n 0 ⟨hb1, hp.length, hp.length⟩ (by omega) ⟨hb1, hp.length, rfl, by omega, rfl, fun _ _ => rfl, by rw [wlr_zero]; exact dW⟩
  have e0' : ((0 : Nat) : Int) = 0 := rfl
  rw [e0'] at hrun
  have hkeep : ∀ i, i < hp.length → i ≠ q → hp3[i]? = hp[i]? := fun i hi hne => by rw [ho3 i hne]; exact kp.2 i hi
  refine ⟨hp3.take hp.length, lw3, g104_ok (meansX_ok F1 ro) rfl ?_, hlw3, by rw [List.length_take]; omega, fun i hne => ?_, hw3.keep (by rw [List.getElem?_take, if_pos hq])⟩
  · unfold g104
    simp only [s1, bindP_some, forceB_eq, eqI_eq, e0, cond_false, len_row (row_by hu kh), bindO_some, asI_i, meansX_loop, hrun, tupA]
    exact fin_take rfl
  · rw [List.getElem?_take]
    by_cases hi : i < hp.length
    · rw [if_pos hi]; exact hkeep i hi hne
    · rw [if_neg hi, List.getElem?_eq_none (by omega)]

theorem Winnow_ok {n : Int} (ha : IsMat ro h a x) (hl : LenOk x) (hb : IsRow ro h b z) (hz : z.length ≤ 9223372036854775807) : RetL ro h 21 [.i .i64 n, a, b] (winR n x z).1 [.i .i64 (winR n x z).2] := by
  unfold RetL
  suffices hs : ∃ v h', g21 (meansX F1 ro) ro n a b ⟨h, h.length, h.length⟩ = some (.tup (v :: [.i .i64 (winR n x z).2]), h', h.length, h.length) ∧ Keep h h' ∧ IsRow ro h' v (winR n x z).1 ∧ (winR n x z).1.length ≤ 1000 by
    obtain ⟨v, h', h1, h2⟩ := hs
    exact ⟨v, h', g21_ok (meansX_ok F1 ro) rfl h1, h2⟩
  unfold g21
  simp only [meansX_call, cp0 (checkRecord_ok (n := n) ha hl hb hz), bindP_some, asI_i, forceB_eq, eqI_eq]
  by_cases hr : recE n x z = 0
  case neg =>
    have e : (!(recE n x z == 0)) = true := by simpa using hr
    have e2 : winR n x z = ([], recE n x z) := by unfold winR; rw [if_pos hr]
    rw [e2]
    simp only [e, cond_true, tupA]
    exact ⟨.nsl, h, fin_pure (err_bel _ _), Keep.refl h, .inl ⟨rfl, rfl⟩, by simp⟩
  obtain ⟨N, rfl, hN1, hN2, hT, hrows, hzb, hzl⟩ := rec_facts hr
  have e : (!(recE (N : Int) x z == 0)) = false := by rw [hr]; rfl
  have e2 : winR (N : Int) x z = (sayM (wsay x z N) x.length x.length, 0) := by unfold winR; rw [if_neg (by simpa using hr)]; rfl
  rw [e2]
  -- the list of a 1
  have s1 : stepM ro ⟨h, h.length, h.length⟩ (.bsl 3 1 [(AVal.i IntKind.i64 0)] 1 [((0, 1), .c (.i .i64 1))]) = some (.sl ⟨false, h.length, 0⟩ 1 (.known 1), ⟨h ++ [some (blkOf 3 (ints [1]))], h.length, h.length⟩) := rfl
  obtain ⟨ha1, ea⟩ : ∃ ha1, ha1 = h ++ [some (blkOf 3 (ints [1]))] := ⟨_, rfl⟩
  rw [← ea] at s1
  have kpa : Keep h ha1 := by rw [ea]; exact Keep.app _
  have hal : ha1.length = h.length + 1 := by rw [ea]; simp
  have d1 : Holds ha1 h.length (ints [1]) := by rw [ea]; exact Holds.new h 3 _
  obtain ⟨hb1, cR, kR, lR, wR⟩ := Repeat_ok (ro := ro) hN1 hN2 d1
  have cR' := callM_eq (call := callX F1 ro) (m := ⟨ha1, h.length, h.length⟩) cR
  have mR : min h.length ha1.length = h.length := by omega
  rw [mR] at cR'
  have kp : Keep h hb1 := kpa.trans kR
  rw [hal] at wR cR'
  obtain ⟨hp', lw, c1, q1, q2, q3, q4, q5⟩ := listen_ok (ro := ro) (h := h) (hp := hb1) (v0 := .ifc 74 (.agg [wSl (h.length + 1) N])) (n := N) (q := h.length + 1) (T := x.length) (say := wsay x z N) (st := wtL x z N) ha hb kp (by omega) rfl hzl hT wR
    (fun i hi hp' u hu hw => ⟨103, .agg [wSl (h.length + 1) N], rfl, wforetell_ok hu (hrows i hi).2 (by omega) hw (wtL_len _ _ _ _)⟩)
    (fun i hi hp' u hu kh hw => by
      obtain ⟨hp'', lw, c, r1, r2, r3, r4⟩ := wlearn_ok (ro := ro) (h := h) (say := wsay x z N i) (told := z.getD i 0) hu kh (by omega) (hrows i hi).2 (by omega) hw (wtL_len _ _ _ _)
      exact ⟨104, .agg [wSl (h.length + 1) N], hp'', lw, rfl, c, r1, r2, r3, r4⟩)
    rfl
  have c2 := callM_eq (call := callX F1 ro) (m := ⟨hb1, h.length, h.length⟩) c1
  have m1 : min h.length lw = h.length := by omega
  have m2 : min h.length hb1.length = h.length := by omega
  rw [m1, m2] at c2
  have kp' : Keep h hp' := ⟨by omega, fun j hj => by rw [q3 j (by omega) (by omega)]; exact kp.2 j hj⟩
  have fl : (fillA [AVal.nsl] [((0, 1), wSl (h.length + 1) N)]).map AVal.agg = some (.agg [wSl (h.length + 1) N]) := rfl
  simp only [e, cond_false, s1, bindP_some, cR', fl, bindO_some, c2, tupA]
  exact ⟨_, hp', fin_out (sl_nb (by omega)), kp', holds_ints q5 (sayM_len _ _ _), by rw [sayM_len]; omega⟩
end
end Go.Proofs.Ytnalgdobglfndaa.T

/- Winnow by the reference. -/
open Go.Vm
set_option linter.unusedVariables false
namespace Go.Proofs.Ytnalgdobglfndaa.T
open Go

section
variable {ro : List ABlk} {h hp : Heap} {a b u v v0 : AVal} {x : List (List Int)} {z row w : List Int}

theorem firstOnes_set {N j : Nat} (hj : j < N) : (firstOnes N j).set j 1 = firstOnes N (j + 1) := by
  refine List.ext_getElem (by simp [firstOnes]) fun t h1 h2 => ?_
  rw [List.getElem_set]
  by_cases e : j = t
  · subst e; rw [if_pos rfl]; simp [firstOnes]
  · rw [if_neg e]
    simp only [firstOnes, List.getElem_map, List.getElem_range]
    by_cases h : t < j
    · rw [if_pos h, if_pos (by omega)]
    · rw [if_neg h, if_neg (by omega)]
theorem firstOnes_zero (N : Nat) : firstOnes N 0 = zeros N := by
  refine List.ext_getElem (by simp [firstOnes, zeros]) fun t h1 h2 => by simp [firstOnes, zeros]

theorem refWinnow_ok {n : Int} (ha : IsMat ro h a x) (hl : LenOk x) (hb : IsRow ro h b z) (hz : z.length ≤ 9223372036854775807) : RetL ro h 22 [.i .i64 n, a, b] (winR n x z).1 [.i .i64 (winR n x z).2] := by
  unfold RetL
  suffices hs : ∃ v h', g22 (meansX F1 ro) ro n a b ⟨h, h.length, h.length⟩ = some (.tup (v :: [.i .i64 (winR n x z).2]), h', h.length, h.length) ∧ Keep h h' ∧ IsRow ro h' v (winR n x z).1 ∧ (winR n x z).1.length ≤ 1000 by
    obtain ⟨v, h', h1, h2⟩ := hs
    exact ⟨v, h', g22_ok (meansX_ok F1 ro) rfl h1, h2⟩
  unfold g22
  simp only [meansX_call, cp0 (Record_ok (n := n) ha hl hb hz), bindP_some, asI_i, forceB_eq, eqI_eq]
  by_cases hr : recE n x z = 0
  case neg =>
    have e : (!(recE n x z == 0)) = true := by simpa using hr
    have e2 : winR n x z = ([], recE n x z) := by unfold winR; rw [if_pos hr]
    rw [e2]
    simp only [e, cond_true, tupA]
    exact ⟨.nsl, h, fin_pure (err_bel _ _), Keep.refl h, .inl ⟨rfl, rfl⟩, by simp⟩
  obtain ⟨N, rfl, hN1, hN2, hT, hrows, hzb, hzl⟩ := rec_facts hr
  have e : (!(recE (N : Int) x z == 0)) = false := by rw [hr]; rfl
  have e2 : winR (N : Int) x z = (sayM (wsay x z N) x.length x.length, 0) := by unfold winR; rw [if_neg (by simpa using hr)]; rfl
  rw [e2]
  obtain ⟨hb1, eb⟩ : ∃ hb1, hb1 = h ++ [some (newBlk 3 (.i .i64 0) N)] := ⟨_, rfl⟩
  have kp : Keep h hb1 := by rw [eb]; exact Keep.app _
  have hbl : hb1.length = h.length + 1 := by rw [eb]; simp
  have dS : Holds hb1 h.length (ints (zeros N)) := by rw [eb]; exact newInts h N
  have s1 := mk_ok (ro := ro) (hp := h) (l := h.length) (p := h.length) (e := 3) (es := 1) (bytes := 8) (v := .i .i64 0) (n := N) (by omega) (by omega)
  rw [← eb] at s1
  -- the ones
  obtain ⟨m0, hrun0, hp0, rfl, kp0, hl0, hw0⟩ := loop_all (b := fun s : Int × Mm => g22_b0 (meansX F1 ro) ro (N : Int) a b (.sl ⟨false, h.length, 0⟩ N (.known N)) s.1 s.2) N
    (fun j m => ∃ hp, m = ⟨hp, h.length, h.length⟩ ∧ Keep h hp ∧ hp.length = hb1.length ∧ Holds hp h.length (ints (firstOnes N j)))
    (fun j m hj hI => by
      obtain ⟨hp, rfl, kp, hl, hw⟩ := hI
      have g4 := ixS_eq (q := ⟨false, h.length, 0⟩) (cap := .known N) hj
      obtain ⟨hp3, hst, hw3, hl3, ho3⟩ := hw.setG (ro := ro) (l := h.length) (p := h.length) (k := j) (v := .i .i64 1) (by rw [ints_len, firstOnes_len]; exact hj) rfl rfl rfl
      rw [Nat.min_self] at hst
      rw [ints_set, firstOnes_set hj] at hw3
      simp only [Nat.zero_add] at g4 hst
      refine ⟨⟨hp3, h.length, h.length⟩, ?_, hp3, rfl, keep_o kp (Nat.le_refl _) hl3 ho3, by omega, hw3⟩
      simp only [g22_b0, forceB_eq, ltI_eq, lt_yes hj, cond_true, g4, bindO_some, hst, bindP_some, forceI_eq]
      rw [wr_next (by omega)])
    (fun m hI => by simp only [g22_b0, forceB_eq, ltI_eq, lt_no, cond_false]) N 0 ⟨hb1, h.length, h.length⟩ (by omega) ⟨hb1, rfl, kp, rfl, by rw [firstOnes_zero]; exact dS⟩
  obtain ⟨v1, m1, hrun1, hp1, rfl, k1, g1⟩ := loop_all3 (b := fun s : AVal × Int × Mm => g22_b1 (meansX F1 ro) ro (N : Int) a b (.sl ⟨false, h.length, 0⟩ N (.known N)) s.1 s.2.1 s.2.2) x.length
    (fun i v m => ∃ hp, m = ⟨hp, h.length, h.length⟩ ∧ (Keep h hp ∧ h.length + 1 ≤ hp.length ∧ Holds hp h.length (ints (wtL x z N i))) ∧ GV hp (h.length + 1) 3 1 v i (ints ((List.range i).map (wsay x z N))))
    (fun i v m hi hI => by
      obtain ⟨hp, rfl, ⟨kp, hlen, hw⟩, g⟩ := hI
      obtain ⟨p1, u, a1, ald, hu⟩ := at_matK ha hi
      obtain ⟨p2, b1, bld⟩ := at_rowK hb (show i < z.length by omega)
      obtain ⟨hrb, hrl⟩ := hrows i hi
      obtain ⟨w, ew⟩ : ∃ w, w = wtL x z N i := ⟨_, rfl⟩
      have hwl : w.length = N := by rw [ew]; exact wtL_len x z N i
      rw [← ew] at hw
      -- the sum
      have hsum := loop_run (b := fun s : Int × Int => g22_b2 (meansX F1 ro) ro (N : Int) a b (.sl ⟨false, h.length, 0⟩ N (.known N)) v (i : Int) ⟨hp, h.length, h.length⟩ s.1 s.2) (fun f => (wsN w (nthR x i) f, (f : Int))) N (r0 := wsN w (nthR x i) N)
        (by simp only [g22_b2, forceB_eq, ltI_eq, lt_no, cond_false])
        (fun f hf => by
          have a2' := (ald (l := h.length) (q := h.length) kp).2
          obtain ⟨p3, c1, cld⟩ := at_rowK hu (show f < (nthR x i).length by omega)
          have c2' := (cld (l := h.length) (q := h.length) kp).2
          have g4 := ixS_eq (q := ⟨false, h.length, 0⟩) (cap := .known N) hf
          have g6 := hw.oneA (ro := ro) (k := f) (by rw [ints_len]; omega)
          rw [ints_get (by omega)] at g6
          simp only [Nat.zero_add] at g4 g6
          simp only [g22_b2, forceB_eq, ltI_eq, lt_yes hf, cond_true, g4, g6, bindO_some, asI_i, a1, a2', c1, c2', forceI_eq]
          rw [wr_next (by omega), Int.mul_comm (w.getD f 0)]; rfl)
      have e0 : ((0 : Nat) : Int) = 0 := rfl
      have e1 : wsN w (nthR x i) 0 = 0 := rfl
      rw [e0, e1] at hsum
      have hws : wsay x z N i = winV w (nthR x i) N := by rw [ew]; rfl
      obtain ⟨v2, hp3, v3, hp4, s1, s2, g3, l3, o3⟩ := push1 (ro := ro) (L0 := h.length) (n := winV w (nthR x i) N) g (Nat.le_succ _) (by omega) (by omega)
      have kp4 : Keep h hp4 := ⟨by have := kp.1; omega, fun j hj => by rw [o3 j (by omega)]; exact kp.2 j hj⟩
      have hw4 : Holds hp4 h.length (ints w) := hw.keep (o3 _ (by omega))
      -- what is learnt
      obtain ⟨m', hrun, hp5, rfl, kp5, hl5, hw5, g5⟩ := loop_all (b := fun s : Int × Mm => g22_b4 (meansX F1 ro) ro (N : Int) a b (.sl ⟨false, h.length, 0⟩ N (.known N)) v3 (i : Int) (winV w (nthR x i) N) s.1 s.2) N
        (fun c m => ∃ hp5, m = ⟨hp5, h.length, h.length⟩ ∧ Keep h hp5 ∧ hp5.length = hp4.length ∧ Holds hp5 h.length (ints (if winV w (nthR x i) N = z.getD i 0 then w else wlr w (nthR x i) (z.getD i 0) c)) ∧ GV hp5 (h.length + 1) 3 1 v3 (i + 1) (ints ((List.range i).map (wsay x z N) ++ [winV w (nthR x i) N])))
        (fun c m hc hI => by
          obtain ⟨hp5, rfl, kp5, hl5, hw5, g5⟩ := hI
          have a2 := (ald (l := h.length) (q := h.length) kp5).1
          have b2 := (bld (l := h.length) (q := h.length) kp5).1
          have b2' := (bld (l := h.length) (q := h.length) kp5).2
          obtain ⟨p3, c1, cld⟩ := at_rowK hu (show c < (nthR x i).length by omega)
          have c2 := (cld (l := h.length) (q := h.length) kp5).1
          by_cases he : (nthR x i).getD c 0 = 1
          · have e0 : ((nthR x i).getD c 0 == 1) = true := by rw [he]; rfl
            by_cases hst : winV w (nthR x i) N = z.getD i 0
            · have e3 : (winV w (nthR x i) N == z.getD i 0) = true := by rw [hst]; exact beq_self_eq_true _
              rw [if_pos hst] at hw5
              refine ⟨⟨hp5, h.length, h.length⟩, ?_, hp5, rfl, kp5, hl5, by rw [if_pos hst]; exact hw5, g5⟩
              simp only [g22_b4, forceB_eq, ltI_eq, lt_yes hc, cond_true, a1, a2, bindO_some, c1, c2, asI_i, eqI_eq, e0, b1, b2, e3, Bool.not_true, cond_false, forceI_eq]
              rw [wr_next (by omega)]
            · have e3 : (winV w (nthR x i) N == z.getD i 0) = false := by rw [beq_eq_false_iff_ne]; exact hst
              rw [if_neg hst] at hw5
              have g4 := ixS_eq (q := ⟨false, h.length, 0⟩) (cap := .known N) hc
              have hul : c < (wlr w (nthR x i) (z.getD i 0) c).length := by rw [wlr_len]; omega
              have g6 := hw5.oneA (ro := ro) (k := c) (by rw [ints_len]; exact hul)
              rw [ints_get hul, wlr_get (by omega), if_neg (fun hh => Nat.lt_irrefl c hh.1)] at g6
              obtain ⟨hp6, hwr, hw6, hl6, ho6⟩ := hw5.wrG (ro := ro) (l := h.length) (p := h.length) (k := c) (v := .i .i64 (Go.Vm.wr .i64 (w.getD c 0 * Go.Vm.wr .i64 (2 * z.getD i 0)))) (by rw [ints_len]; exact hul) rfl rfl rfl
              rw [Nat.min_self] at hwr
              rw [ints_set, wlr_set (by omega) he] at hw6
              simp only [Nat.zero_add] at g4 g6 hwr
              refine ⟨⟨hp6, h.length, h.length⟩, ?_, hp6, rfl, keep_o kp5 (Nat.le_refl _) hl6 ho6, by omega, by rw [if_neg hst]; exact hw6, g5.byB fun j hj hb => ho6 j (by have := g5.bno j hb; omega)⟩
              simp only [g22_b4, forceB_eq, ltI_eq, lt_yes hc, cond_true, a1, a2, bindO_some, c1, c2, asI_i, eqI_eq, e0, b1, b2, b2', e3, Bool.not_false, g4, g6, forceI_eq, asP_p, hwr]
              rw [wr_next (by omega)]
          · have e0 : ((nthR x i).getD c 0 == 1) = false := by rw [beq_eq_false_iff_ne]; exact he
            refine ⟨⟨hp5, h.length, h.length⟩, ?_, hp5, rfl, kp5, hl5, by rw [wlr_same he]; exact hw5, g5⟩
            simp only [g22_b4, forceB_eq, ltI_eq, lt_yes hc, cond_true, a1, a2, bindO_some, c1, c2, asI_i, eqI_eq, e0, cond_false, forceI_eq]
            rw [wr_next (by omega)])
        (fun m hI => by simp only [g22_b4, forceB_eq, ltI_eq, lt_no, cond_false]) N 0 ⟨hp4, h.length, h.length⟩ (by omega) ⟨hp4, rfl, kp4, rfl, by rw [wlr_zero, ite_self]; exact hw4, by simpa [ints] using g3⟩
      rw [e0] at hrun
      have hl5' : h.length + 1 ≤ hp5.length := by omega
      refine ⟨v3, ⟨hp5, h.length, h.length⟩, ?_, hp5, rfl, ⟨kp5, hl5', ?_⟩, by rw [range_snoc, hws]; exact g5⟩
      · simp only [g22_b1, len_mat (mat_by ha kp), bindO_some, asI_i, forceB_eq, ltI_eq, lt_yes hi, cond_true, meansX_loop, hsum]
        rcases win_bool (w := w) (row := nthR x i) N with ⟨h1, h2⟩ | ⟨h1, h2⟩
        · rw [h2] at s1 hrun
          simp only [h1, cond_true, bindO_some, s1, bindP_some, s2, hrun, forceI_eq]
          rw [wr_next (by omega)]
        · rw [h2] at s1 hrun
          simp only [h1, cond_false, bindO_some, s1, bindP_some, s2, hrun, forceI_eq]
          rw [wr_next (by omega)]
      · have : wtL x z N (i + 1) = if winV w (nthR x i) N = z.getD i 0 then w else wlr w (nthR x i) (z.getD i 0) N := by rw [ew]; rfl
        rw [this]; exact hw5)
    (fun v m hI => by
      obtain ⟨hp, rfl, ⟨kp, -⟩, -⟩ := hI
      simp only [g22_b1, len_mat (mat_by ha kp), bindO_some, asI_i, forceB_eq, ltI_eq, lt_no, cond_false]) x.length 0 .nsl ⟨hp0, h.length, h.length⟩ (by omega) ⟨hp0, rfl, ⟨kp0, by omega, hw0⟩, GV.nil _ _ _ _⟩
  have e0 : ((0 : Nat) : Int) = 0 := rfl
  rw [e0] at hrun0 hrun1
  have hsayT : sayM (wsay x z N) x.length x.length = (List.range x.length).map (wsay x z N) := by
    unfold sayM
    refine List.map_congr_left fun j hj => ?_
    rw [if_pos (List.mem_range.1 hj)]
  rw [hsayT]
  simp only [e, cond_false, s1, bindP_some, meansX_loop, hrun0, hrun1, bindO_some, tupA]
  have hrow := g1.row (ro := ro) (z := (List.range x.length).map (wsay x z N)) (by simp)
  rcases g1 with ⟨rfl, hx0, -⟩ | ⟨bq, blk, rfl, h2, h3, h4, h5⟩
  · refine ⟨.nsl, h, ?_, Keep.refl h, .inl ⟨rfl, by rw [hx0]; rfl⟩, by simp; omega⟩
    exact fin_keep k1.1 (err_bel 0 _)
  · exact ⟨_, hp1, fin_out (sl_nb (by omega)), k1.1, hrow, by simp; omega⟩
end
end Go.Proofs.Ytnalgdobglfndaa.T

/- A list of rows copied . -/
open Go.Vm
set_option linter.unusedVariables false
namespace Go.Proofs.Ytnalgdobglfndaa.T
open Go

section
variable {ro : List ABlk} {h hp hp' : Heap} {a b u v v0 : AVal} {x : List (List Int)} {z row w : List Int}

theorem row_byB (a : IsRow ro h v z) (k : ∀ c, T.bno v = some c → c < h.length → hp'[c]? = h[c]?) : IsRow ro hp' v z := by
  rcases a with ⟨rfl, rfl⟩ | ⟨q, cap, blk, rfl, hb, hn, hc⟩
  · exact .inl ⟨rfl, rfl⟩
  · refine .inr ⟨q, cap, blk, rfl, ?_, hn, hc⟩
    by_cases hr : q.ro = true
    · simpa [rdB, hr] using hb
    · have hr' : q.ro = false := by simpa using hr
      simp only [rdB, hr', cond_false] at hb ⊢
      have hlt : q.b < h.length := by
        by_cases hl : q.b < h.length
        · exact hl
        · simp [lget_eq, List.getElem?_eq_none (show h.length ≤ q.b by omega)] at hb
      rw [lget_of (k q.b rfl hlt)]; exact hb
/-- a row copied by append to nil -/
theorem copyN_ok (hb : IsRow ro h b z) (hz : z.length ≤ 100000) : ∃ v2 h2, (∀ l p, stepM ro ⟨h, l, p⟩ (.app 3 1 8 [(AVal.i IntKind.i64 0)] (.c .nsl) (.c b)) = some (v2, ⟨h2, l, p⟩)) ∧ Keep h h2 ∧ IsRow ro h2 v2 z ∧ (v2.cells = [v2] ∧ ones [v2] = true ∧ splice [AVal.nsl] 0 [v2] = [v2]) ∧ ∀ c, T.bno v2 = some c → h.length ≤ c ∧ c < h2.length := by
  have src := src_row hb
  by_cases h0 : z.length = 0
  · refine ⟨.nsl, h, fun l p => ?_, Keep.refl h, .inl ⟨rfl, List.length_eq_zero_iff.1 h0⟩, ⟨rfl, rfl, rfl⟩, fun c hc => by cases hc⟩
    have hb0 : Nat.beq z.length 0 = true := by rw [h0]; rfl
    simp only [stepM, stepK, opd, Mm.st, st_app, src, hb0, cond_true, St.mm]
  · refine ⟨.sl ⟨false, h.length, 0⟩ z.length .grow, h ++ [some (blkOf 3 (ints z))], fun l p => ?_, Keep.app _, holds_row (Holds.new h 3 (ints z)) rfl rfl, ⟨rfl, rfl, rfl⟩, fun c hc => by cases hc; simp⟩
    have hb0 : Nat.beq z.length 0 = false := by rw [Bool.eq_false_iff, Ne, Nat.beq_eq]; exact h0
    simp only [stepM, stepK, opd, Mm.st, st_app, src, hb0, cond_false, fits_small (show z.length ≤ 1000000 by omega) (show 8 ≤ 1000 by decide), cond_true, newB, St.mm]
    rfl
theorem copied_ok (ha : IsMat ro h a x) (hx : x.length ≤ 1000) (hr : ∀ i, i < x.length → (nthR x i).length ≤ 1000) : ∃ v h', callX F1 ro 17 [a] h = some (v, h', h.length, h.length) ∧ Keep h h' ∧ IsMat ro h' v x := by
  obtain ⟨v1, m1, hrun1, hp1, rfl, k1, cs1, g1, r1⟩ := loop_all3 (b := fun s : AVal × Int × Mm => g17_b0 (meansX F1 ro) ro a s.1 s.2.1 s.2.2) x.length
    (fun i v m => ∃ hp, m = ⟨hp, h.length, h.length⟩ ∧ Keep h hp ∧ ∃ cs, GV hp h.length 23 1 v i cs ∧ ∀ j, j < i → IsRow ro hp (cs.getD j und) (nthR x j) ∧ ∀ c, T.bno (cs.getD j und) = some c → h.length ≤ c ∧ c < hp.length ∧ T.bno v ≠ some c)
    (fun i v m hi hI => by
      obtain ⟨hp, rfl, kp, cs, g, r⟩ := hI
      obtain ⟨p1, u, a1, ald, hu⟩ := at_matK ha hi
      have a2 := (ald (l := h.length) (q := h.length) kp).1
      obtain ⟨w, hp2, s1, k2, rw2, ⟨c1, c2, c3⟩, hbn⟩ := copyN_ok (row_by hu kp) (show (x.getD i []).length ≤ 100000 by have := hr i hi; unfold nthR at this; omega)
      have s1' := s1 h.length h.length
      have g2 := g.by k2
      have hh := kp.1
      have hh2 := k2.1
      obtain ⟨v2, hpa, v3, hp4, l3, p3, b3, s2, s3, g3, hb3, hb3l, hl3, ho3, hl0, hl1, hp0, hp1'⟩ := g2.pushS (ro := ro) (L0 := h.length) (P0 := h.length) (bytes := 24) (z := [AVal.nsl]) (w := w) (ws := [w]) (by omega) (by omega) (by decide) (by decide) rfl c1 rfl c2 c3
      obtain rfl : l3 = h.length := by have := hl0 (Nat.le_refl _); omega
      obtain rfl : p3 = h.length := by have := hp0 (Nat.le_refl _); omega
      have hcl := g.clen
      have hvb := g2.bno
      have hvb0 := g.bno
      refine ⟨v3, ⟨hp4, h.length, h.length⟩, ?_, hp4, rfl, ⟨by omega, fun j hj => ?_⟩, cs ++ [w], g3, fun j hj => ?_⟩
      · simp only [g17_b0, len_mat (mat_by ha kp), bindO_some, asI_i, forceB_eq, ltI_eq, lt_yes hi, cond_true, a1, a2, s1', bindP_some, s2, s3, forceI_eq]
        rw [wr_next (by omega)]
      · rw [ho3 j (by omega) (fun hb => by have := hvb j hb; omega), k2.2 j (by omega)]; exact kp.2 j hj
      · by_cases hji : j < i
        · rw [getD_old (by omega)]
          obtain ⟨r3, r4⟩ := r j hji
          refine ⟨row_byB r3 fun c hc hlt => ?_, fun c hc => ?_⟩
          · obtain ⟨q1, q2, q3⟩ := r4 c hc
            rw [ho3 c (by omega) q3]; exact k2.2 c q2
          · obtain ⟨q1, q2, q3⟩ := r4 c hc
            exact ⟨q1, by omega, by rw [hb3]; intro hh; cases hh; omega⟩
        · obtain rfl : j = i := by omega
          rw [getD_new (by omega)]
          refine ⟨row_byB rw2 fun c hc hlt => ?_, fun c hc => ?_⟩
          · have := hbn c hc
            exact ho3 c hlt fun hb => by have := hvb0 c hb; omega
          · have := hbn c hc
            exact ⟨by omega, by omega, by rw [hb3]; intro hh; cases hh; omega⟩)
    (fun v m hI => by
      obtain ⟨hp, rfl, kp, -⟩ := hI
      simp only [g17_b0, len_mat (mat_by ha kp), bindO_some, asI_i, forceB_eq, ltI_eq, lt_no, cond_false]) x.length 0 .nsl ⟨h, h.length, h.length⟩ (by omega) ⟨h, rfl, Keep.refl h, [], GV.nil _ _ _ _, fun j hj => by omega⟩
  have e0 : ((0 : Nat) : Int) = 0 := rfl
  rw [e0] at hrun1
  have hmat := g1.mat (ro := ro) (x := x) rfl fun j hj => (r1 j hj).1
  have go : ∀ o, g17 (meansX F1 ro) ro a ⟨h, h.length, h.length⟩ = some o → callX F1 ro 17 [a] h = some o := fun o ho => g17_ok (meansX_ok F1 ro) rfl ho
  rcases g1 with ⟨rfl, hx0, -⟩ | ⟨bq, blk, rfl, h2, h3, h4, h5⟩
  · refine ⟨.nsl, h, go _ ?_, Keep.refl h, .inl ⟨rfl, List.length_eq_zero_iff.1 hx0⟩⟩
    unfold g17
    simp only [meansX_loop, hrun1, bindO_some, tupA]
    exact fin_keep k1 rfl
  · refine ⟨_, hp1, go _ ?_, k1, hmat⟩
    unfold g17
    simp only [meansX_loop, hrun1, bindO_some, tupA]
    refine fin_out ?_
    have : Nat.blt bq h.length = false := by rw [Bool.eq_false_iff]; simp [Nat.blt_eq]; omega
    simp [AVal.bel, this]

theorem cmp_loop {h7 : Heap} {v20 : AVal} (m17 : IsMat ro h7 v20 x) (ha : IsMat ro [] a x) (hxl : x.length ≤ 250) (hr : ∀ i, i < x.length → (nthR x i).length ≤ 40) : loopX (fun s : Int => g3_b3 (meansX F1 ro) ro a v20 ⟨h7, 0, 0⟩ s) 0 = some (.inl ()) := by
  have K7 : Keep [] h7 := keep0 h7
  have hloop := loop_run (b := fun s : Int => g3_b3 (meansX F1 ro) ro a v20 ⟨h7, 0, 0⟩ s) (fun i => (i : Int)) x.length (r0 := .inl ())
    (by simp only [g3_b3, len_mat ha, bindO_some, asI_i, forceB_eq, ltI_eq, lt_no, cond_false])
    (fun i hi => by
      obtain ⟨p1, u1, a1, ald1, hu1⟩ := at_matK m17 hi
      obtain ⟨p2, u2, a2, ald2, hu2⟩ := at_matK ha hi
      have b1 := (ald1 (l := 0) (q := 0) (Keep.refl h7)).2
      have b2 := (ald2 (l := 0) (q := 0) K7).2
      have hu2' := row_by hu2 K7
      have hil : (x.getD i []).length ≤ 1000000 := by have := hr i hi; unfold nthR at this; omega
      have cn := callN_pure (call := callX F1 ro) (h := h7) (same_ok (ro := ro) hu1 hu2' hil) (by
        have e1 := row_bel hu1
        have e2 := row_bel hu2'
        simp [bels, e1, e2]) rfl
      simp only [g3_b3, len_mat ha, bindO_some, asI_i, forceB_eq, ltI_eq, lt_yes hi, cond_true, a1, a2, b1, b2, meansX_call, cn, asB_b, decide_true, Bool.not_true, cond_false, forceI_eq]
      rw [wr_next (by omega)])
  have e0 : ((0 : Nat) : Int) = 0 := rfl
  rw [e0] at hloop
  exact hloop
end
end Go.Proofs.Ytnalgdobglfndaa.T

/- The law about halving and winnowing. -/
open Go.Vm
set_option linter.unusedVariables false
namespace Go.Proofs.Ytnalgdobglfndaa.T
open Go
section
variable {ro : List ABlk} {h hp hp' : Heap} {a b u v v0 : AVal} {x : List (List Int)} {z row w : List Int}
theorem cond_of {β : Type} {c : Bool} {A B : Option β} (h : c = false) : cond c A B = B := by rw [h]; rfl
theorem bindP_of {β : Type} {o : Option (AVal × Mm)} {v : AVal} {m : Mm} {f : AVal → Mm → Option β} (h : o = some (v, m)) : bindP o f = f v m := by rw [h]; rfl
theorem bindO_of {α β : Type} {o : Option α} {v : α} {f : α → Option β} (h : o = some v) : bindO o f = f v := by rw [h]; rfl
theorem asB_of {β : Type} {c : Bool} {k : Bool → Option β} : asB (.b c) k = k c := rfl
theorem asI_of {β : Type} {n : Int} {k : Int → Option β} : asI .i64 (.i .i64 n) k = k n := rfl
theorem forceB_of {β : Type} {c : Bool} {k : Bool → Option β} : forceB c k = k c := forceB_eq ..
theorem law3 {n : Int} (ha : IsMat ro [] a x) (hf : Fits x) (hb : IsRow ro [] b z) : ∃ h' lw lp, callX F1 ro 3 [.i .i64 n, a, b] [] = some (.b true, h', lw, lp) := by
  have hfew := cp0 (few_ok ha hb hf.1)
  have hal := cp0 (F := F1) (alive_pure (ro := ro) (h := []))
  simp only [List.length_nil] at hfew hal
  by_cases hw : few x z
  case neg =>
    refine ⟨[], 0, 0, g3_ok (meansX_ok F1 ro) rfl ?_⟩
    unfold g3
    simp only [List.length_nil, meansX_call, hfew, bindP_some, asB_b, forceB_eq, dF hw, Bool.not_false, cond_true, hal, tupA]
    exact fin_pure (h := []) rfl
  have hxl := hw.len
  have hzl := hw.2
  have k0 : ∀ {l : Nat}, 0 ≤ l := Nat.zero_le _
  obtain ⟨v20, h1, c1, k1, m1⟩ := copied_ok ha (by omega) (fun i hi => by have := (hw.1 i hi).2; omega)
  have c1' := callM_eq (call := callX F1 ro) (m := ⟨[], 0, 0⟩) c1
  simp only [List.length_nil, Nat.min_self] at c1'
  obtain ⟨v2, h2, v3, h3, s1, s2, k3, r3, -⟩ := copy_ok (row_by hb k1) (by omega)
  have hz' : z.length ≤ 9223372036854775807 := by omega
  obtain ⟨v4, h4, c4, k4, r4, n4⟩ := (Halving_ok (n := n) (mat_by m1 k3) hf.lens r3 hz').cm
  have K4 : Keep [] h4 := keep0 h4
  obtain ⟨v5, h5, c5, k5, r5, n5⟩ := (refHalving_ok (n := n) (mat_by ha K4) hf.lens (row_by hb K4) hz').cm
  have cs1 := cp (F := F1) (l := 0) (p := 0) (same_ok (row_by r4 k5) r5 (by omega)) k0 k0
  obtain ⟨v6, h6, c6, k6, r6, n6⟩ := (Winnow_ok (n := n) (mat_by m1 (k3.trans (k4.trans k5))) hf.lens (row_by r3 (k4.trans k5)) hz').cm
  have K6 : Keep [] h6 := keep0 h6
  obtain ⟨v7, h7, c7, k7, r7, n7⟩ := (refWinnow_ok (n := n) (mat_by ha K6) hf.lens (row_by hb K6) hz').cm
  have K7 : Keep [] h7 := keep0 h7
  have cs2 := cp (F := F1) (l := 0) (p := 0) (same_ok (row_by r6 k7) r7 (by omega)) k0 k0
  have r37 := row_by r3 (k4.trans (k5.trans (k6.trans k7)))
  have cs3 := cp (F := F1) (l := 0) (p := 0) (same_ok r37 (row_by hb K7) (by omega)) k0 k0
  have hal7 := cp (F := F1) (l := 0) (p := 0) (alive_pure (ro := ro) (h := h7)) k0 k0
  have m17 := mat_by m1 (k3.trans (k4.trans (k5.trans (k6.trans k7))))
  have hloop := cmp_loop m17 ha (by omega) (fun i hi => (hw.1 i hi).2)
  have c4' := c4 (l := 0) (p := 0) k0 k0
  have c5' := c5 (l := 0) (p := 0) k0 k0
  have c6' := c6 (l := 0) (p := 0) k0 k0
  have c7' := c7 (l := 0) (p := 0) k0 k0
  have s1' := s1 0 0
  have s2' := s2 0 0
  have xe : ∀ (v : AVal) (e : Int), evP .e (.ext 0 (.c (.tup [v, .i .i64 e]))) = some v ∧ evP .e (.ext 1 (.c (.tup [v, .i .i64 e]))) = some (.i .i64 e) := fun v e => ⟨rfl, rfl⟩
  rw [decide_eq_true rfl] at cs1 cs2 cs3
  generalize (halfR n x z).2 = E1 at c4' c5'
  generalize (winR n x z).2 = E2 at c6' c7'
  refine ⟨h7.take 0, 0, 0, g3_ok (meansX_ok F1 ro) rfl ?_⟩
  unfold g3
  refine (bindP_of hfew).trans ?_
  refine asB_of.trans ?_
  refine forceB_of.trans ?_
  refine (cond_of (show (!decide (few x z)) = false by rw [dT hw]; rfl)).trans ?_
  refine (bindP_of c1').trans ?_
  refine (bindP_of s1').trans ?_
  refine (bindP_of s2').trans ?_
  refine (bindP_of c4').trans ?_
  refine (bindO_of (ext0 _ _)).trans ?_
  refine (bindO_of (ext1 _ _ _)).trans ?_
  refine asI_of.trans ?_
  refine (bindP_of c5').trans ?_
  refine (bindO_of (ext0 _ _)).trans ?_
  refine (bindO_of (ext1 _ _ _)).trans ?_
  refine asI_of.trans ?_
  refine (bindP_of cs1).trans ?_
  refine asB_of.trans ?_
  refine forceB_of.trans ?_
  have hb1 : cond (!true) (some true) (forceB (!eqI E1 E1) fun c45 => some c45) = some false := by simp [forceB_eq, eqI_eq]
  refine (bindO_of hb1).trans ?_
  refine (bindP_of c6').trans ?_
  refine (bindO_of (ext0 _ _)).trans ?_
  refine (bindO_of (ext1 _ _ _)).trans ?_
  refine asI_of.trans ?_
  refine (bindP_of c7').trans ?_
  refine (bindO_of (ext0 _ _)).trans ?_
  refine (bindO_of (ext1 _ _ _)).trans ?_
  refine asI_of.trans ?_
  refine (bindP_of cs2).trans ?_
  refine asB_of.trans ?_
  refine forceB_of.trans ?_
  have hb2 : cond (!true) (some true) (forceB (!eqI E2 E2) fun c45 => some c45) = some false := by simp [forceB_eq, eqI_eq]
  refine (bindO_of hb2).trans ?_
  have hb3 : cond false (some (true, (⟨h7, 0, 0⟩ : Mm))) (bindP (callM (callX F1 ro) ⟨h7, 0, 0⟩ 20 [v3, b]) fun v73 m_13 => asB v73 fun c73 => forceB (!c73) fun c74 => some (c74, m_13)) = some (false, ⟨h7, 0, 0⟩) := by
    rw [cs3]; simp [bindP_some, asB_b, forceB_eq]
  refine (bindO_of hb3).trans ?_
  refine (bindO_of hloop).trans ?_
  refine (bindP_of hal7).trans ?_
  refine asB_of.trans ?_
  exact fin_take (L := 0) rfl
end
end Go.Proofs.Ytnalgdobglfndaa.T

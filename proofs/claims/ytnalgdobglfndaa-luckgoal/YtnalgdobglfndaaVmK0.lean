/- Contracts of the functions: what each of them answers. -/
import Derived.Test.YtnalgdobglfndaaVmFO
import Derived.Test.YtnalgdobglfndaaVmGt
import Derived.Test.YtnalgdobglfndaaVmAE
import Derived.Test.YtnalgdobglfndaaVmAF
import Derived.Test.YtnalgdobglfndaaRows
import Derived.WalkKit
import Derived.ProofKit
import Derived.OpenShut
import Derived.Carry
import Derived.Deep.Matrix
import Derived.Deep.Slices
/- From the small machine to the statement: lists of numbers and lists of such lists, in memory that is only read. -/
open Go.Vm
set_option linter.unusedVariables false
namespace Go.Proofs.Ytnalgdobglfndaa.T
open Go Go.RowKit Go.Deep Go.WideShapes Go.ChangeShapes

/-- what every list of lists is -/
def Fits (rows : List (List Int)) : Prop := rows.length ≤ 9223372036854775807 ∧ ∀ z ∈ rows, z.length ≤ 9223372036854775807 ∧ ∀ n ∈ z, inI64 n
abbrev F1 : Tab := ⟨F, known0 16 (.b true)⟩
def IsRowK (k : IntKind) (ro : List ABlk) (h : Heap) (v : AVal) (z : List Int) : Prop :=
  (v = .nsl ∧ z = []) ∨ ∃ q cap blk, v = .sl q z.length cap ∧ rdB ro h q = some blk ∧ q.off + z.length ≤ blk.n ∧ ∀ j, j < z.length → blk.c.get (q.off + j) = .i k (z.getD j 0)

/-- what is read in the world of a list of lists: the value, the rows -/
structure OpenM (W : World) (v0 : Value) (rows : List (List Int)) : Prop where
  o : (v0 = .slice none 0 0 ∧ rows = []) ∨ ∃ (a : Addr) (cap : Nat) (A : Nat → Option Addr) (L C : Nat → Nat) (Z : Nat → List Int), v0 = .slice (some a) rows.length cap ∧
    rows.length ≤ cap ∧ rows = (List.range rows.length).map (fun r => (Z r).take (L r)) ∧
    ∀ r, r < cap → a.block < W.heap.size ∧ W.cell? (a.add r) = some (.slice (A r) (L r) (C r)) ∧ L r ≤ C r ∧ (Z r).length = C r ∧ (A r = none → C r = 0) ∧
      ∀ x, A r = some x → ∀ c, c < C r → x.block < W.heap.size ∧ W.cell? (x.add c) = some (.int .i64 ((Z r).getD c 0))
  fits : Fits rows


/-- what is read in the world of a list of numbers -/
structure OpenK (k : IntKind) (W : World) (v0 : Value) (z : List Int) : Prop where
  o : (v0 = .slice none 0 0 ∧ z = []) ∨ ∃ (a : Addr) (cap : Nat) (Z : List Int), v0 = .slice (some a) z.length cap ∧ z.length ≤ cap ∧ Z.length = cap ∧ z = Z.take z.length ∧ ∀ i, i < cap → a.block < W.heap.size ∧ W.cell? (a.add i) = some (.int k (Z.getD i 0))
  len_le : z.length ≤ 9223372036854775807
  z : ∀ n ∈ z, (Lit.int k n).wf = true

theorem cells23 : Try.prog.cellsOf 23 = 1 := by kernel_rfl
theorem cells3 : Try.prog.cellsOf 3 = 1 := by kernel_rfl
theorem cells5 : Try.prog.cellsOf 5 = 1 := by kernel_rfl
theorem laidOut : laidOutB Try.prog = true := by kernel_rfl
theorem own : ownKnob Try.prog.godebug = none := by kernel_rfl

section
variable {H : Type} {enc : TypeId × Value → H} {W : World} {v0 : Value} {d : DataW H} {p : List MemPlace}
theorem opened_bytes (hs : ∃ a len cap, v0 = .slice a len cap) (h : DataW.Trod enc Try.prog W 0 (fun _ => true) true 59 v0 d p) : ∃ z, OpenK .u8 W v0 z := by
  obtain ⟨a0, len, cap, rfl⟩ := hs
  obtain ⟨fuel, hf⟩ := h
  have hml : maxLen = 9223372036854775807 := rfl
  rcases open_ints Try.underlying59 Try.underlying5 cells5 hf with ⟨hcs0, hx⟩ | ⟨a, len', cap', zs, hcs0, _, hl, hm, hz, hx, hcell, hw⟩
  · simp [Value.cells] at hcs0
    obtain ⟨rfl, rfl, rfl⟩ := hcs0
    exact ⟨[], .inl ⟨rfl, rfl⟩, by simp, by simp⟩
  · simp [Value.cells] at hcs0
    obtain ⟨rfl, rfl, rfl⟩ := hcs0
    simp only [if_true] at hz
    have hlen : (zs.take len).length = len := by simp; omega
    refine ⟨zs.take len, .inr ⟨a, cap, zs, by rw [hlen], by omega, by omega, by rw [hlen], fun i hi => ?_⟩, by omega, fun n hn => hw n (List.mem_of_mem_take hn)⟩
    have h1 := hcell i (by omega)
    exact ⟨World.block_lt_of_cell? _ _ h1 |> fun h => by simpa [addr_block] using h, h1⟩
end

/-- the reading of a list of lists -/
theorem opened_mat {H : Type} {enc : TypeId × Value → H} {W : World} {v0 : Value} {d : DataW H} {p : List MemPlace} (hs : ∃ a len cap, v0 = .slice a len cap) (h : DataW.Trod enc Try.prog W 0 (fun _ => true) true 22 v0 d p) : ∃ rows, OpenM W v0 rows := by
  obtain ⟨a0, len, cap, rfl⟩ := hs
  obtain ⟨fuel, hf⟩ := h
  rcases open_int_rows Try.underlying22 Try.underlying23 Try.underlying3 cells23 cells3 hf with ⟨hcs0, hx⟩ | ⟨a, len', cap', A, L, C, Z, hcs0, _, hl, hm, hx, hrows⟩
  · simp [Value.cells] at hcs0
    obtain ⟨rfl, rfl, rfl⟩ := hcs0
    exact ⟨[], .inl ⟨rfl, rfl⟩, by simp [Fits]⟩
  · simp [Value.cells] at hcs0
    obtain ⟨rfl, rfl, rfl⟩ := hcs0
    have hml : maxLen = 9223372036854775807 := rfl
    refine ⟨(List.range len).map fun r => (Z r).take (L r), .inr ⟨a, cap, A, L, C, Z, by simp, by simpa using hl, by simp, fun r hr => ?_⟩, ?_⟩
    · obtain ⟨h1, h2, h3, h4, h5, h6, h7⟩ := hrows r hr
      refine ⟨World.block_lt_of_cell? _ _ h1 |> fun h => by simpa [addr_block] using h, h1, h2, h4, h6, fun x hx c hc => ?_⟩
      obtain ⟨-, h8⟩ := h7 x hx
      have := World.block_lt_of_cell? _ _ (h8 c hc)
      exact ⟨by simpa [addr_block] using this, h8 c hc⟩
    · refine ⟨by simp; omega, fun z hz => ?_⟩
      obtain ⟨r, hr, rfl⟩ := List.mem_map.1 hz
      have hr := List.mem_range.1 hr
      obtain ⟨h1, h2, h3, h4, h5, h6, h7⟩ := hrows r (by omega)
      refine ⟨by simp; omega, fun n hn => wf_i64 (h5 n (List.mem_of_mem_take hn))⟩

/-- of an argument: read-only memory for it -/
theorem ro_mat {W : World} {v0 : Value} {rows : List (List Int)} (h : OpenM W v0 rows) (pre : List ABlk) (prl : Rl) (hp : pre.length = prl.length) : ∃ (ro : List ABlk) (rl : Rl) (v : AVal), ro.length = rl.length ∧ (∀ x y h, IsMat (pre ++ ro ++ x) h v rows ∧ VR (prl ++ rl ++ y) [] v v0) ∧
    ∀ (i : Nat) (b : ABlk), ro[i]? = some b → ∃ x, rl[i]? = some x ∧ ∀ j, j < b.n → x.block < W.heap.size ∧ ∃ v', W.cell? (x.add j) = some v' ∧ ∀ y, VR (prl ++ rl ++ y) [] (b.c.get j) v' := by
  rcases h.o with ⟨rfl, rfl⟩ | ⟨a, cap, A, L, C, Z, rfl, hcap, hrows, hcell⟩
  · exact ⟨[], [], .nsl, rfl, fun x y h => ⟨.inl ⟨rfl, rfl⟩, .nsl⟩, fun i b hb => by simp at hb⟩
  · have hro : ∀ (x : List ABlk) (r : Nat), r < cap → (pre ++ roMat pre.length cap A L C Z ++ x)[pre.length + 1 + r]? = some ⟨0, cond (A r).isSome (C r) 0, Tr.mk ((Z r).map (AVal.i .i64)), none⟩ := fun x r hr => by
      rw [List.append_assoc, List.getElem?_append_right (by omega), show pre.length + 1 + r - pre.length = r + 1 by omega]
      simp [roMat, hr, List.getElem?_append_left]
    have hro0 : ∀ (x : List ABlk), (pre ++ roMat pre.length cap A L C Z ++ x)[pre.length]? = some ⟨0, cap, Tr.mk ((List.range cap).map (roCell pre.length A L C)), none⟩ := fun x => by
      rw [List.append_assoc, List.getElem?_append_right (by omega)]
      simp [roMat]
    have hrl : ∀ (y : Rl) (r : Nat), r < cap → (prl ++ rlMat a cap A ++ y)[pre.length + 1 + r]? = some ((A r).getD a) := fun y r hr => by
      rw [List.append_assoc, List.getElem?_append_right (by omega), show pre.length + 1 + r - prl.length = r + 1 by omega]
      simp [rlMat, hr, List.getElem?_append_left]
    have hrl0 : ∀ (y : Rl), (prl ++ rlMat a cap A ++ y)[pre.length]? = some a := fun y => by
      rw [List.append_assoc, List.getElem?_append_right (by omega), show pre.length - prl.length = 0 by omega]
      simp [rlMat]
    have hvr : ∀ (y : Rl) (r : Nat), r < cap → VR (prl ++ rlMat a cap A ++ y) [] (roCell pre.length A L C r) (.slice (A r) (L r) (C r)) := fun y r hr => by
      obtain ⟨-, -, h1, h2, h3, -⟩ := hcell r hr
      unfold roCell
      cases hA : A r with
      | none =>
        have := h3 hA
        have h0 : L r = 0 := by omega
        rw [this, h0]
        exact .nsl
      | some x =>
        refine .slk _ _ _ _ ?_
        have := hrl y r hr
        rw [hA] at this
        show (((prl ++ rlMat a cap A ++ y)[pre.length + 1 + r]?).map fun x => x.add 0) = some x
        rw [this]; simp [Addr.add]
    refine ⟨roMat pre.length cap A L C Z, rlMat a cap A, .sl ⟨true, pre.length, 0⟩ rows.length (.known cap), by simp [roMat, rlMat], fun x y h => ⟨.inr ⟨_, _, ⟨0, cap, Tr.mk ((List.range cap).map (roCell pre.length A L C)), none⟩, rfl, ?_, ?_, ?_⟩, ?_⟩, ?_⟩
    · simp only [rdB, cond_true, lget_eq]; exact hro0 x
    · simpa using hcap
    · intro r hr
      have hr' : r < cap := by omega
      obtain ⟨-, -, h1, h2, h3, h4⟩ := hcell r hr'
      have hg : (Tr.mk ((List.range cap).map (roCell pre.length A L C))).get (0 + r) = roCell pre.length A L C r := by
        rw [get_mk]; simp [List.getD, hr']
      have hrow : rows.getD r [] = (Z r).take (L r) := by
        rw [List.getD_eq_getElem?_getD]
        conv => lhs; rw [hrows]
        simp [hr]
      simp only [hg, hrow]
      unfold roCell
      cases hA : A r with
      | none =>
        have := h3 hA
        have h0 : L r = 0 := by omega
        exact .inl ⟨rfl, by simp [h0]⟩
      | some y =>
        refine .inr ⟨⟨true, pre.length + 1 + r, 0⟩, .known (C r), ⟨0, cond (A r).isSome (C r) 0, Tr.mk ((Z r).map (AVal.i .i64)), none⟩, ?_, ?_, ?_, ?_⟩
        · simp; omega
        · simp only [rdB, cond_true, lget_eq]; exact hro x r hr'
        · simp [hA]; omega
        · intro j hj
          simp only [List.length_take] at hj
          rw [get_mk]
          have hj2 : j < (Z r).length := by omega
          have hj3 : j < L r := by omega
          simp [List.getD, hj2, hj3]
    · refine .slk _ _ _ _ ?_
      show (((prl ++ rlMat a cap A ++ y)[pre.length]?).map fun x => x.add 0) = some a
      rw [hrl0 y]; simp [Addr.add]
    · intro i b hb
      cases i with
      | zero =>
        simp [roMat] at hb
        subst hb
        refine ⟨a, by simp [rlMat], fun j hj => ?_⟩
        obtain ⟨h0, h1, -⟩ := hcell j hj
        refine ⟨h0, _, h1, fun y => ?_⟩
        have hg : (Tr.mk ((List.range cap).map (roCell pre.length A L C))).get j = roCell pre.length A L C j := by
          rw [get_mk]; simp [List.getD, show j < cap from hj]
        simp only [hg]
        exact hvr y j hj
      | succ r =>
        simp only [roMat, List.getElem?_cons_succ, List.getElem?_map, Option.map_eq_some_iff] at hb
        obtain ⟨r', hr', rfl⟩ := hb
        obtain ⟨hlt, he⟩ := List.getElem?_eq_some_iff.1 hr'
        simp only [List.length_range] at hlt
        simp only [List.getElem_range] at he
        subst he
        refine ⟨(A r).getD a, by simp [rlMat, hlt], fun j hj => ?_⟩
        obtain ⟨-, -, h1, h2, h3, h4⟩ := hcell r hlt
        cases hA : A r with
        | none => simp [hA] at hj
        | some x =>
          simp only [hA, Option.isSome_some, cond_true] at hj
          obtain ⟨h5, h6⟩ := h4 x hA j hj
          refine ⟨h5, _, h6, fun y => ?_⟩
          have hg : (Tr.mk ((Z r).map (AVal.i .i64))).get j = .i .i64 ((Z r).getD j 0) := by
            rw [get_mk]; simp [List.getD, show j < (Z r).length by omega]
          simp only [hg]
          exact .i _ _


/-- a slice's room is at least its length -/
def CapO (v : AVal) : Prop := ∀ q n c, v = .sl q n (.known c) → n ≤ c
theorem ro_flat {k : IntKind} {W : World} {v0 : Value} {z : List Int} (h : OpenK k W v0 z) (pre : List ABlk) (prl : Rl) (hp : pre.length = prl.length) : ∃ (ro : List ABlk) (rl : Rl) (v : AVal), ro.length = rl.length ∧ CapO v ∧
    (∀ x y h, IsRowK k (pre ++ ro ++ x) h v z ∧ VR (prl ++ rl ++ y) [] v v0) ∧
    ∀ (i : Nat) (b : ABlk), ro[i]? = some b → ∃ x, rl[i]? = some x ∧ ∀ j, j < b.n → x.block < W.heap.size ∧ ∃ v', W.cell? (x.add j) = some v' ∧ ∀ y, VR y [] (b.c.get j) v' := by
  rcases h.o with ⟨rfl, rfl⟩ | ⟨a, cap, Z, rfl, hcap, hlen, hz, hcell⟩
  · exact ⟨[], [], .nsl, rfl, (fun q n c e => by cases e), fun x y h => ⟨.inl ⟨rfl, rfl⟩, .nsl⟩, fun i b hb => by simp at hb⟩
  · have hget : ∀ j, j < cap → (Tr.mk (Z.map (AVal.i k))).get j = .i k (Z.getD j 0) := fun j hj => by
      rw [get_mk]; simp [List.getD, show j < Z.length by omega]
    refine ⟨[⟨0, cap, Tr.mk (Z.map (AVal.i k)), none⟩], [a], .sl ⟨true, pre.length, 0⟩ z.length (.known cap), rfl, (fun q n c e => by cases e; exact hcap), fun x y h => ⟨.inr ⟨⟨true, pre.length, 0⟩, .known cap, ⟨0, cap, Tr.mk (Z.map (AVal.i k)), none⟩, rfl, ?_, ?_, fun j hj => ?_⟩, ?_⟩, fun i b hb => ?_⟩
    · simp only [rdB, cond_true, lget_eq, List.append_assoc]
      rw [List.getElem?_append_right (Nat.le_refl _)]; simp
    · simpa using hcap
    · have e := hget j (by omega)
      have e2 : Z.getD j 0 = z.getD j 0 := by
        rw [hz, List.getD_eq_getElem?_getD, List.getD_eq_getElem?_getD, List.getElem?_take_of_lt hj]
      rw [e2] at e
      simpa using e
    · refine .slk _ _ _ _ ?_
      show (((prl ++ [a] ++ y)[pre.length]?).map fun x => x.add 0) = some a
      rw [List.append_assoc, List.getElem?_append_right (by omega), hp]; simp [Addr.add]
    · cases i with
      | zero =>
        simp at hb
        subst hb
        refine ⟨a, rfl, fun j hj => ?_⟩
        obtain ⟨h1, h2⟩ := hcell j hj
        refine ⟨h1, _, h2, fun y => ?_⟩
        have := hget j hj
        simp only [this]
        exact .i _ _
      | succ i => simp at hb

theorem env_ok {W : World} {ro : List ABlk} {rl : Rl} (h : ∀ (i : Nat) (b : ABlk), ro[i]? = some b → ∃ x, rl[i]? = some x ∧ ∀ j, j < b.n → x.block < W.heap.size ∧ ∃ v', W.cell? (x.add j) = some v' ∧ VR rl [] (b.c.get j) v') :
    (Env.mk Try.prog W.heap.size W ro rl).Ok := ⟨fun i b hb => h i b hb, Nat.le_refl _⟩
/-- what lies in the read-only blocks; more may come behind -/
def RoP (W : World) (ro : List ABlk) (rl : Rl) : Prop := ∀ (i : Nat) (b : ABlk), ro[i]? = some b → ∃ x, rl[i]? = some x ∧ ∀ j, j < b.n → x.block < W.heap.size ∧ ∃ v', W.cell? (x.add j) = some v' ∧ ∀ y, VR (rl ++ y) [] (b.c.get j) v'
theorem RoP.nil (W : World) : RoP W [] [] := fun i b hb => by simp at hb
theorem RoP.env {W : World} {ro : List ABlk} {rl : Rl} (h : RoP W ro rl) : (Env.mk Try.prog W.heap.size W ro rl).Ok := env_ok fun i b hb => by
  obtain ⟨y, h1, h2⟩ := h i b hb
  refine ⟨y, h1, fun j hj => ?_⟩
  obtain ⟨h3, v', h4, h5⟩ := h2 j hj
  exact ⟨h3, v', h4, by have := h5 []; simpa using this⟩
theorem RoP.snoc {W : World} {ro ro' : List ABlk} {rl rl' : Rl} (hl : ro.length = rl.length) (h : RoP W ro rl)
    (h' : ∀ (i : Nat) (b : ABlk), ro'[i]? = some b → ∃ x, rl'[i]? = some x ∧ ∀ j, j < b.n → x.block < W.heap.size ∧ ∃ v', W.cell? (x.add j) = some v' ∧ ∀ y, VR y [] (b.c.get j) v') : RoP W (ro ++ ro') (rl ++ rl') := by
  intro i b hb
  rcases Nat.lt_or_ge i ro.length with hi | hi
  · rw [List.getElem?_append_left hi] at hb
    obtain ⟨x, h1, h2⟩ := h i b hb
    refine ⟨x, by rw [List.getElem?_append_left (by omega)]; exact h1, fun j hj => ?_⟩
    obtain ⟨h3, v', h4, h5⟩ := h2 j hj
    exact ⟨h3, v', h4, fun y => by rw [List.append_assoc]; exact h5 _⟩
  · rw [List.getElem?_append_right hi] at hb
    obtain ⟨x, h1, h2⟩ := h' _ b hb
    refine ⟨x, by rw [List.getElem?_append_right (by omega), ← hl]; exact h1, fun j hj => ?_⟩
    obtain ⟨h3, v', h4, h5⟩ := h2 j hj
    exact ⟨h3, v', h4, fun y => h5 _⟩

/-- the call of the model: true, and below nothing has turned -/
theorem call_of {W : World} {ro : List ABlk} {rl : Rl} (hE : (Env.mk Try.prog W.heap.size W ro rl).Ok) {K : Nat} {vs : List AVal} {args : Array Value}
    (hv : LR rl [] vs args) {h' : Heap} {lw lp : Nat} (hc : callX F1 ro K vs [] = some (.b true, h', lw, lp)) : Calls Try.prog K args W fun e W' => e = .returned (.bool true) ∧ Below W.heap.size W W' := by
  have hm : (Env.mk Try.prog W.heap.size W ro rl).P.follows .mixedOrders = true := Try.checked.mixed
  have hO : CallOk (Env.mk Try.prog W.heap.size W ro rl) (known0 16 (.b true)) := known0_of hE hm fok alive0 rfl
  obtain ⟨-, h2⟩ := callX_sound hE hm (F := F1) fok hO K vs [] _ _ _ _ hc
  refine Calls.mono (h2 [] W args ⟨Below.refl _ _, rfl, by simp, fun i b r K hl => by simp [Live] at hl, fun i j b b' r K K' hl => by simp [Live] at hl⟩ hv) fun e w' hq => ?_
  obtain ⟨v', rfl, m', hvr, T⟩ := hq
  exact ⟨by rw [hvr.inv_b], T.hr.below⟩
theorem alive_pure {ro : List ABlk} {h : Heap} : callX F1 ro 16 [] h = some (.b true, h, h.length, h.length) := callX_ov rfl
end Go.Proofs.Ytnalgdobglfndaa.T

/- Blocks that a function makes for itself; loops whose state is known. -/
open Go.Vm
set_option linter.unusedVariables false
namespace Go.Proofs.Ytnalgdobglfndaa.T
open Go

/-- a block of the heap that holds these values -/
def Holds (hp : Heap) (b : Nat) (vs : List AVal) : Prop := ∃ blk : ABlk, lget hp b = some (some blk) ∧ blk.n = vs.length ∧ ∀ j, j < vs.length → blk.c.get j = vs.getD j und
/-- what was there is still there -/
def Keep (h hp : Heap) : Prop := h.length ≤ hp.length ∧ ∀ i, i < h.length → hp[i]? = h[i]?

section
variable {ro : List ABlk} {h hp hp' : Heap} {b k e n l p : Nat} {vs : List AVal}
theorem Keep.refl (h : Heap) : Keep h h := ⟨Nat.le_refl _, fun _ _ => rfl⟩
theorem Keep.trans {h1 : Heap} (a : Keep h h1) (c : Keep h1 hp) : Keep h hp := ⟨Nat.le_trans a.1 c.1, fun i hi => by rw [c.2 i (by have := a.1; omega), a.2 i hi]⟩
theorem Keep.app (x : Heap) : Keep h (h ++ x) := ⟨by simp, fun i hi => List.getElem?_append_left hi⟩
theorem Keep.set (a : Keep h hp) (hb : h.length ≤ b) (x : Option ABlk) : Keep h (hp.set b x) := ⟨by simpa using a.1, fun i hi => by rw [List.getElem?_set_ne (by omega)]; exact a.2 i hi⟩
theorem Keep.eq (a : Keep h hp) : hp.take h.length = h := by
  refine List.ext_getElem? fun i => ?_
  rcases Nat.lt_or_ge i h.length with hi | hi
  · rw [List.getElem?_take_of_lt hi, a.2 i hi]
  · rw [List.getElem?_eq_none (by simp; omega), List.getElem?_eq_none hi]
theorem fin_keep {v : AVal} (a : Keep h hp) (hv : v.bel h.length = true) : finM h.length v ⟨hp, h.length, h.length⟩ = some (v, h, h.length, h.length) := by
  rw [fin_take hv, a.eq]
theorem Holds.lt (a : Holds hp b vs) : b < hp.length := by obtain ⟨blk, h1, -⟩ := a; exact lget_lt h1
theorem Holds.new (hp : Heap) (e : Nat) (vs : List AVal) : Holds (hp ++ [some (blkOf e vs)]) hp.length vs := ⟨_, lget_last _ _, rfl, fun j _ => get_blk e vs j⟩
theorem Holds.keep (a : Holds hp b vs) (hk : hp'[b]? = hp[b]?) : Holds hp' b vs := by
  obtain ⟨blk, h1, h2⟩ := a
  exact ⟨blk, by rw [lget_of hk]; exact h1, h2⟩
theorem Holds.ext (a : Holds hp b vs) (x : Heap) : Holds (hp ++ x) b vs := a.keep (List.getElem?_append_left a.lt)
theorem Holds.by (a : Holds hp b vs) (k : Keep hp hp') : Holds hp' b vs := a.keep (k.2 b a.lt)
theorem Holds.one (a : Holds hp b vs) (hk : k < vs.length) : ldM ro ⟨hp, l, p⟩ true 1 (.p (some ⟨false, b, 0 + k⟩)) = some (vs.getD k und) := by
  obtain ⟨blk, h1, h2, h3⟩ := a
  rw [ld_heap rfl h1 (by omega), ← h3 k hk, Nat.zero_add]
theorem Holds.oneA (a : Holds hp b vs) (hk : k < vs.length) : ldA ro hp true 1 (.p (some ⟨false, b, 0 + k⟩)) = some (vs.getD k und) := by
  obtain ⟨blk, h1, h2, h3⟩ := a
  rw [lda_heap h1 (by omega), ← h3 k hk, Nat.zero_add]
theorem row_list {t : Tr} : ∀ (vs : List AVal) (i : Nat), (∀ j, j < vs.length → t.get (i + j) = vs.getD j und) → t.row i vs.length = vs
  | [], i, _ => rfl
  | v :: vs, i, h => by
    simp only [List.length_cons, Tr.row]
    rw [show t.get i = v by simpa using h 0 (by simp), row_list vs (i + 1) fun j hj => by have := h (j + 1) (by simp; omega); rw [show i + 1 + j = i + (j + 1) by omega, this]; simp]
theorem Holds.rd (a : Holds hp b vs) (hn : n = vs.length) : Go.Vm.rd ro hp false n ⟨false, b, 0⟩ = some (.agg vs) := by
  subst hn
  obtain ⟨blk, h1, h2, h3⟩ := a
  have hc : Nat.ble (0 + vs.length) blk.n = true := by rw [Nat.ble_eq]; omega
  simp only [Go.Vm.rd, rdB_heap h1, cond_false, hc, cond_true]
  rw [row_list vs 0 fun j hj => by rw [Nat.zero_add]; exact h3 j hj]
theorem Holds.all (a : Holds hp b vs) (hn : n = vs.length) : ldM ro ⟨hp, l, p⟩ false n (.p (some ⟨false, b, 0⟩)) = some (.agg vs) := by
  simp only [ldM, a.rd hn]
theorem spliceGet (t : Tr) : ∀ (vs : List AVal) (i j : Nat), (t.splice i vs).get j = if i ≤ j ∧ j < i + vs.length then vs.getD (j - i) und else t.get j
  | [], i, j => by simp [Tr.splice]; intro h1 h2; omega
  | v :: vs, i, j => by
    rw [Tr.splice, spliceGet (t.set i v) vs (i + 1) j, get_set]
    by_cases e : i = j
    · subst e
      rw [if_neg (by omega), if_pos rfl, if_pos (by simp)]; simp
    · by_cases h2 : i ≤ j ∧ j < i + (v :: vs).length
      · have h3 : i + 1 ≤ j ∧ j < i + 1 + vs.length := by simp at h2; omega
        rw [if_pos h2, if_pos h3]
        obtain ⟨q, rfl⟩ : ∃ q, j = i + 1 + q := ⟨j - (i + 1), by omega⟩
        rw [show i + 1 + q - i = q + 1 by omega, show i + 1 + q - (i + 1) = q by omega]
        simp
      · have h3 : ¬ (i + 1 ≤ j ∧ j < i + 1 + vs.length) := by simp at h2; omega
        rw [if_neg h2, if_neg h3, if_neg e]
theorem wrH_all {blk : ABlk} (hb : lget hp b = some (some blk)) (hn : vs.length ≤ blk.n) (ho : ones vs = true) : wrH hp ⟨false, b, 0⟩ vs = some (hp.set b (some { blk with c := blk.c.splice 0 vs })) := by
  have : (Nat.ble (0 + vs.length) blk.n && ones vs) = true := by rw [ho, Bool.and_true, Nat.ble_eq]; omega
  simp only [wrH, cond_false, hb, this, cond_true, lset_eq]
/-- a block is written whole -/
theorem Holds.st {vs' : List AVal} {v : AVal} (a : Holds hp b vs) (hv : v.cells = vs') (hn : n = vs'.length) (hl : vs'.length = vs.length) (ho : ones vs' = true) (hL : h.length ≤ b) (kp : Keep h hp) :
    ∃ hp', stepM ro ⟨hp, h.length, h.length⟩ (.st n (.c (.p (some ⟨false, b, 0⟩))) (.c v)) = some (und, ⟨hp', h.length, h.length⟩) ∧ Holds hp' b vs' ∧ hp'.length = hp.length ∧ (∀ i, i ≠ b → hp'[i]? = hp[i]?) ∧ Keep h hp' := by
  obtain ⟨blk, h1, h2, h3⟩ := a
  subst hv hn
  have hw := wrH_all h1 (vs := v.cells) (by omega) ho
  refine ⟨hp.set b (some { blk with c := blk.c.splice 0 v.cells }), ?_, ⟨_, lget_set h1 _, by simpa using (h2.trans hl.symm), fun j hj => ?_⟩, by simp, fun i hi => List.getElem?_set_ne (Ne.symm hi), kp.set hL _⟩
  · have hbq : Nat.beq v.cells.length v.cells.length = true := Nat.beq_refl _
    have e : (cond (nonp v.cells) h.length h.length) = h.length := by cases nonp v.cells <;> rfl
    simp only [stepM, stepK, opd, st_st, hbq, cond_true, hw, St.mm, Nat.min_eq_left hL, e]
  · show (blk.c.splice 0 v.cells).get j = _
    rw [spliceGet, if_pos (by omega)]; simp
theorem al_ok (e : Nat) (z : List AVal) : stepM ro ⟨hp, l, p⟩ (.al e z) = some (.p (some ⟨false, hp.length, 0⟩), ⟨hp ++ [some (blkOf e z)], l, p⟩) := rfl
end

theorem ext0 (a : AVal) (l : List AVal) : evP .e (.ext 0 (.c (.tup (a :: l)))) = some a := rfl
theorem ext1 (a b : AVal) (l : List AVal) : evP .e (.ext 1 (.c (.tup (a :: b :: l)))) = some b := rfl
section
variable {ro : List ABlk} {h : Heap} {v : AVal}
theorem row_by {hp : Heap} {z : List Int} (a : IsRow ro h v z) (k : Keep h hp) : IsRow ro hp v z := by
  rw [take_eq k.1 k.2]; exact a.ext _
end

/-- one cell of a block is written -/
theorem Holds.set {ro : List ABlk} {h hp : Heap} {b k : Nat} {vs : List AVal} {v : AVal} (a : Holds hp b vs) (hk : k < vs.length) (hv : v.one = true) (hc : v.cells = [v]) (hn : nonp [v] = true) (hL : h.length ≤ b) (kp : Keep h hp) :
    ∃ hp', stepM ro ⟨hp, h.length, h.length⟩ (.st 1 (.c (.p (some ⟨false, b, 0 + k * 1⟩))) (.c v)) = some (und, ⟨hp', h.length, h.length⟩) ∧ Holds hp' b (vs.set k v) ∧ hp'.length = hp.length ∧ (∀ i, i ≠ b → hp'[i]? = hp[i]?) ∧ Keep h hp' := by
  obtain ⟨blk, h1, h2, h3⟩ := a
  have e : 0 + k * 1 = k := by omega
  refine ⟨hp.set b (some { blk with c := blk.c.set k v }), ?_, ⟨_, lget_set h1 _, by simpa using h2, fun j hj => ?_⟩, by simp, fun i hi => List.getElem?_set_ne (Ne.symm hi), kp.set hL _⟩
  · rw [e, st_heap h1 (by omega) hv hc hn, Nat.min_eq_left hL]
  · show (blk.c.set k v).get j = _
    rw [get_set]
    simp only [List.length_set] at hj
    by_cases e : k = j
    · subst e; simp [List.getD, hj]
    · rw [if_neg e, h3 j hj]
      simp [List.getD, List.getElem?_set_ne e]


/-- a loop whose state is known for each round -/
theorem loop_st {S R : Type} {b : S → Option (S ⊕ R)} (st : Nat → S) (n : Nat) (step : Nat → Option R) (r0 : R) (hout : b (st n) = some (.inr r0)) (hin : ∀ i, i < n → b (st i) = some (match step i with | some r => .inr r | none => .inl (st (i + 1)))) :
    ∀ (k i : Nat), i + k = n → loopX b (st i) = some ((firstS step k i).getD r0)
  | 0, i, hi => by
    simp only [Nat.add_zero] at hi
    subst hi
    exact loopX_out hout
  | k + 1, i, hi => by
    have h1 := hin i (by omega)
    unfold firstS
    cases hs : step i with
    | some r => rw [hs] at h1; exact loopX_out h1
    | none =>
      rw [hs] at h1
      exact loopX_on h1 (loop_st st n step r0 hout hin k (i + 1) (by omega))
/-- one that runs to its end -/
theorem loop_run {S R : Type} {b : S → Option (S ⊕ R)} (st : Nat → S) (n : Nat) {r0 : R} (hout : b (st n) = some (.inr r0)) (hin : ∀ i, i < n → b (st i) = some (.inl (st (i + 1)))) : loopX b (st 0) = some r0 := by
  have := loop_st st n (fun _ => none) r0 hout hin n 0 (by omega)
  rw [firstS_none.2 fun _ _ _ => rfl] at this
  exact this
/-- one that looks for something -/
theorem loop_if {S R : Type} {b : S → Option (S ⊕ R)} (st : Nat → S) (n : Nat) (P : Nat → Prop) [DecidablePred P] (r0 r1 : R) (hout : b (st n) = some (.inr r0)) (hin : ∀ i, i < n → P i → b (st i) = some (.inl (st (i + 1)))) (hno : ∀ i, i < n → ¬ P i → b (st i) = some (.inr r1)) :
    loopX b (st 0) = some (if (∀ i, i < n → P i) then r0 else r1) := by
  have := loop_st st n (fun i => if P i then none else some r1) r0 hout (fun i hi => by
    by_cases hp : P i
    · rw [if_pos hp]; exact hin i hi hp
    · rw [if_neg hp]; exact hno i hi hp) n 0 (by omega)
  rw [this]
  by_cases hall : ∀ i, i < n → P i
  · rw [if_pos hall, firstS_none.2 fun j _ h2 => by rw [if_pos (hall j (by omega))]]; rfl
  · rw [if_neg hall]
    cases hf : firstS (fun i => if P i then none else some r1) n 0 with
    | none =>
      refine absurd (fun i hi => ?_) hall
      have := firstS_none.1 hf i (by omega) (by omega)
      simpa using this
    | some r =>
      obtain ⟨j, -, -, h3, -⟩ := firstS_some hf
      by_cases hc : P j
      · rw [if_pos hc] at h3; cases h3
      · rw [if_neg hc] at h3; cases h3; rfl

theorem dT {p : Prop} [Decidable p] (h : p) : decide p = true := decide_eq_true h
theorem dF {p : Prop} [Decidable p] (h : ¬ p) : decide p = false := decide_eq_false h
theorem row_bel {ro : List ABlk} {h : Heap} {v : AVal} {z : List Int} (a : IsRow ro h v z) : v.bel h.length = true := by
  rcases a with ⟨rfl, -⟩ | ⟨q, cap, blk, rfl, hb, -⟩
  · rfl
  · simpa [AVal.bel] using rdB_lt hb
theorem mat_by {ro : List ABlk} {h hp : Heap} {v : AVal} {z : List (List Int)} (a : IsMat ro h v z) (k : Keep h hp) : IsMat ro hp v z := by
  rw [take_eq k.1 k.2]; exact a.ext _
theorem at_rowK {ro : List ABlk} {h : Heap} {v : AVal} {z : List Int} (hr : IsRow ro h v z) {i : Nat} (hi : i < z.length) : ∃ p, evP .e (.ixS 1 (.c v) (.c (.i .i64 (i : Int)))) = some p ∧ ∀ {hp : Heap} {l q : Nat}, Keep h hp → ldM ro ⟨hp, l, q⟩ true 1 p = some (.i .i64 (z.getD i 0)) ∧ ldA ro hp true 1 p = some (.i .i64 (z.getD i 0)) := by
  obtain ⟨p, h1, -⟩ := at_row (m := ⟨h, 0, 0⟩) rfl hr hi
  refine ⟨p, h1, fun {hp l q} k => ?_⟩
  obtain ⟨p', g1, g2, g3⟩ := at_row (m := ⟨hp, l, q⟩) rfl (row_by hr k) hi
  rw [h1] at g1; cases g1
  exact ⟨g2, g3⟩
theorem at_matK {ro : List ABlk} {h : Heap} {v : AVal} {x : List (List Int)} (hr : IsMat ro h v x) {i : Nat} (hi : i < x.length) : ∃ p u, evP .e (.ixS 1 (.c v) (.c (.i .i64 (i : Int)))) = some p ∧ (∀ {hp : Heap} {l q : Nat}, Keep h hp → ldM ro ⟨hp, l, q⟩ true 1 p = some u ∧ ldA ro hp true 1 p = some u) ∧ IsRow ro h u (x.getD i []) := by
  rcases hr with ⟨rfl, rfl⟩ | ⟨q, cap, blk, rfl, hb, hn, hc⟩
  · simp at hi
  · refine ⟨_, _, ixS_eq hi, fun {hp l q'} k => ?_, hc i hi⟩
    have hb' : rdB ro hp q = some blk := by rw [take_eq k.1 k.2]; exact rdB_ext _ hb
    have h1 := rd_one (i := i) hb' (by omega)
    refine ⟨h1, ?_⟩
    have := rdB_lt hb'
    simp only [ldA, this, cond_true, h1]
abbrev nthR (x : List (List Int)) (i : Nat) : List Int := x.getD i []
theorem cp {F : Tab} {ro : List ABlk} {h : Heap} {f : Nat} {a : List AVal} {v : AVal} {l p : Nat} (e : callX F ro f a h = some (v, h, h.length, h.length)) (hl : l ≤ h.length) (hp : p ≤ h.length) : callM (callX F ro) ⟨h, l, p⟩ f a = some (v, ⟨h, l, p⟩) :=
  callM_pure e hl hp
theorem cp0 {F : Tab} {ro : List ABlk} {h : Heap} {f : Nat} {a : List AVal} {v : AVal} (e : callX F ro f a h = some (v, h, h.length, h.length)) : callM (callX F ro) ⟨h, h.length, h.length⟩ f a = some (v, ⟨h, h.length, h.length⟩) :=
  callM_pure e (Nat.le_refl _) (Nat.le_refl _)

/- the laws' own: few, same -/
def few (x : List (List Int)) (z : List Int) : Prop := (∀ i, i < x.length → i < 250 ∧ (nthR x i).length ≤ 40) ∧ z.length ≤ 1100
instance (x : List (List Int)) (z : List Int) : Decidable (few x z) := inferInstanceAs (Decidable ((∀ i, i < x.length → i < 250 ∧ (nthR x i).length ≤ 40) ∧ z.length ≤ 1100))
theorem few.len {x : List (List Int)} {z : List Int} (h : few x z) : x.length ≤ 250 := by
  by_cases h1 : x.length = 0
  · omega
  · have := (h.1 (x.length - 1) (by omega)).1
    omega
theorem few_ok {ro : List ABlk} {h : Heap} {a b : AVal} {x : List (List Int)} {z : List Int} (ha : IsMat ro h a x) (hb : IsRow ro h b z) (hx : x.length ≤ 9223372036854775807) : callX F1 ro 15 [a, b] h = some (.b (decide (few x z)), h, h.length, h.length) := by
  refine g15_ok (meansX_ok F1 ro) rfl ?_
  unfold g15
  simp only [meansX_loop]
  have hloop := loop_if (b := fun s => g15_b0 (meansX F1 ro) ro a b ⟨h, h.length, h.length⟩ s) (fun i => (i : Int)) x.length (fun i => i < 250 ∧ (nthR x i).length ≤ 40) (.inl ()) (.inr false) ?_ ?_ ?_
  · have e0 : ((0 : Nat) : Int) = 0 := rfl
    rw [e0] at hloop
    rw [hloop]
    by_cases hf : ∀ i, i < x.length → i < 250 ∧ (nthR x i).length ≤ 40
    · rw [if_pos hf]
      simp only [bindO_some, len_row hb, asI_i, forceB_eq, ltI_eq, tupA]
      have e : decide (few x z) = !decide ((1100 : Int) < (z.length : Int)) := by
        rw [← decide_not]; exact decide_eq_decide.2 ⟨fun hh => by have := hh.2; omega, fun hh => ⟨hf, by omega⟩⟩
      rw [e]
      exact fin_pure rfl
    · rw [if_neg hf]
      have e : decide (few x z) = false := by simp only [decide_eq_false_iff_not]; exact fun hh => hf hh.1
      simp only [bindO_some, e, tupA]
      exact fin_pure rfl
  · simp only [g15_b0, len_mat ha, bindO_some, asI_i, forceB_eq, ltI_eq]
    simp
  · intro i hi hp
    obtain ⟨p, u, h1, h2, h3, h4⟩ := at_mat (m := ⟨h, h.length, h.length⟩) rfl ha hi
    have e := lt_yes hi
    have e2 : (!decide ((i : Int) < 250)) = false := by have := hp.1; simp; omega
    have h5 : (x.getD i []).length ≤ 40 := hp.2
    have e3 : decide ((40 : Int) < ((x.getD i []).length : Int)) = false := dF (by omega)
    simp only [g15_b0, len_mat ha, bindO_some, asI_i, forceB_eq, ltI_eq, e, cond_true, e2, cond_false, h1, h2, len_row h4, e3, forceI_eq]
    rw [wr_id' (by omega) (by omega)]
    rfl
  · intro i hi hp
    obtain ⟨p, u, h1, h2, h3, h4⟩ := at_mat (m := ⟨h, h.length, h.length⟩) rfl ha hi
    have e := lt_yes hi
    by_cases h250 : i < 250
    · have e2 : (!decide ((i : Int) < 250)) = false := by simp; omega
      have e3 : decide ((40 : Int) < ((x.getD i []).length : Int)) = true := by
        have : ¬ (x.getD i []).length ≤ 40 := fun hh => hp ⟨h250, hh⟩
        exact dT (by omega)
      simp only [g15_b0, len_mat ha, bindO_some, asI_i, forceB_eq, ltI_eq, e, cond_true, e2, cond_false, h1, h2, len_row h4, e3]
    · have e2 : (!decide ((i : Int) < 250)) = true := by simp; omega
      simp only [g15_b0, len_mat ha, bindO_some, asI_i, forceB_eq, ltI_eq, e, cond_true, e2]

end Go.Proofs.Ytnalgdobglfndaa.T

/- Lists that a function makes by append. -/
open Go.Vm
set_option linter.unusedVariables false
namespace Go.Proofs.Ytnalgdobglfndaa.T
open Go

/-- a list made by append, in a block from L on -/
def GV (hp : Heap) (L e es : Nat) (v : AVal) (k : Nat) (cs : List AVal) : Prop :=
  (v = .nsl ∧ k = 0 ∧ cs = []) ∨ ∃ b blk, v = .sl ⟨false, b, 0⟩ k .grow ∧ 0 < k ∧ L ≤ b ∧ lget hp b = some (some blk) ∧ blk.e = e ∧ cs.length = k * es ∧ k * es ≤ blk.n ∧ ∀ j, j < k * es → blk.c.get j = cs.getD j und
theorem GV.nil (hp : Heap) (L e es : Nat) : GV hp L e es .nsl 0 [] := .inl ⟨rfl, rfl, rfl⟩
/-- blocks below L, and those above that are kept, hold the list as before -/
theorem GV.by {hp hp' : Heap} {L e es k : Nat} {v : AVal} {cs : List AVal} (g : GV hp L e es v k cs) (kp : Keep hp hp') : GV hp' L e es v k cs := by
  rcases g with h | ⟨b, blk, h1, h2, h3, h4, h5⟩
  · exact .inl h
  · exact .inr ⟨b, blk, h1, h2, h3, by rw [lget_of (kp.2 b (lget_lt h4))]; exact h4, h5⟩
theorem row_row {t : Tr} : ∀ (n i : Nat) (cs : List AVal), cs.length = n → (∀ j, j < n → t.get (i + j) = cs.getD j und) → t.row i n = cs := by
  intro n i cs hl h
  subst hl
  exact row_list cs i h
theorem GV.push {ro : List ABlk} {hp : Heap} {L0 L e es bytes k : Nat} {z : List AVal} {v w : AVal} {cs ws : List AVal} (g : GV hp L e es v k cs) (hL0 : L0 ≤ L) (hL : L ≤ hp.length) (hk : k ≤ 100000) (hb : bytes ≤ 1000) (hes : 0 < es) (hz : z.length = es) (hw : w.cells = ws) (hwl : ws.length = es) (ho : ones ws = true) (hsp : splice z 0 ws = ws) :
    ∃ v2 hp2 v3 hp3, stepM ro ⟨hp, L0, L0⟩ (.bsl e es z 1 [((0, es), .c w)]) = some (v2, ⟨hp2, L0, L0⟩) ∧ stepM ro ⟨hp2, L0, L0⟩ (.app e es bytes z (.c v) (.c v2)) = some (v3, ⟨hp3, L0, L0⟩) ∧
      GV hp3 L e es v3 (k + 1) (cs ++ ws) ∧ hp.length ≤ hp3.length ∧ ∀ i, i < L → hp3[i]? = hp[i]? := by
  have s1 : stepM ro ⟨hp, L0, L0⟩ (.bsl e es z 1 [((0, es), .c w)]) = some (.sl ⟨false, hp.length, 0⟩ 1 (.known 1), ⟨hp ++ [some (blkOf e ws)], L0, L0⟩) := by
    simp [stepM, stepK, st_bsl, rep, fillA, opd, hw, hwl, hz, hsp, newB, St.mm]
  have src : app_src ro (hp ++ [some (blkOf e ws)]) es (.sl ⟨false, hp.length, 0⟩ 1 (.known 1)) = some (ws, 1) := by
    have hbq : rdB ro (hp ++ [some (blkOf e ws)]) ⟨false, hp.length, 0⟩ = some (blkOf e ws) := by simp [rdB, lget_eq]
    have hg : (blkOf e ws).c.row 0 es = ws := row_row es 0 ws hwl fun j hj => by rw [Nat.zero_add, get_blk]
    have hble : Nat.ble (0 + 1 * es) (blkOf e ws).n = true := by rw [Nat.ble_eq]; show 0 + 1 * es ≤ ws.length; omega
    simp only [app_src, hbq, hble, cond_true]
    rw [show 1 * es = es by omega, hg]
  rcases g with ⟨rfl, rfl, rfl⟩ | ⟨b, blk, rfl, hpos, hLb, hbk, hbe, hcl, hbn, hrows⟩
  · refine ⟨_, _, .sl ⟨false, hp.length + 1, 0⟩ 1 .grow, hp ++ [some (blkOf e ws)] ++ [some (blkOf e ws)], s1, ?_, .inr ⟨hp.length + 1, blkOf e ws, rfl, by omega, by omega, ?_, rfl, by simp; omega, by show 1 * es ≤ ws.length; omega, fun j hj => ?_⟩, by simp, fun i hi => ?_⟩
    · have hb1 : Nat.beq 1 0 = false := rfl
      simp only [stepM, stepK, opd, st_app, src, hb1, cond_false, fits_small (by omega : 1 ≤ 1000000) hb, cond_true, newB, St.mm, List.length_append, List.length_cons, List.length_nil, Nat.zero_add]
    · have := lget_last (hp ++ [some (blkOf e ws)]) (some (blkOf e ws))
      rwa [List.length_append, List.length_singleton] at this
    · rw [get_blk]; simp
    · rw [List.append_assoc, List.getElem?_append_left (by omega)]
  · obtain ⟨hp2, e2⟩ : ∃ hp2, hp2 = hp ++ [some (blkOf e ws)] := ⟨_, rfl⟩
    rw [← e2] at src s1
    have hlt : b < hp.length := lget_lt hbk
    have hb2 : lget hp2 b = some (some blk) := by rw [e2]; exact lget_ext hbk _
    have hlen2 : hp2.length = hp.length + 1 := by rw [e2]; simp
    have hrow : blk.c.row 0 (k * es) = cs := row_row (k * es) 0 cs hcl fun j hj => by rw [Nat.zero_add]; exact hrows j hj
    have hke : 0 < k * es := Nat.mul_pos hpos hes
    refine ⟨_, _, .sl ⟨false, hp2.length, 0⟩ (k + 1) .grow, lset none hp2 b ++ [some (blkOf e (cs ++ ws))], s1, ?_, .inr ⟨hp2.length, blkOf e (cs ++ ws), rfl, by omega, by omega, ?_, rfl, ?_, ?_, fun j hj => ?_⟩, ?_, fun i hi => ?_⟩
    · have h1 : (Nat.beq blk.e e && Nat.ble (k * es) blk.n && fits (k + 1) bytes && ones ws) = true := by
        rw [hbe, fits_small (by omega : k + 1 ≤ 1000000) hb]
        simp [ho, Nat.ble_eq]; omega
      have h2 : (false || !Nat.beq 0 0 || Nat.beq 1 0) = false := rfl
      have h3 : Nat.blt 0 blk.n = true := by rw [Nat.blt_eq]; omega
      simp only [stepM, stepK, opd, st_app, src, app_grow, h2, cond_false, hb2, h1, h3, Bool.and_self, cond_true, St.mm, hrow, Nat.min_eq_left (Nat.le_trans hL0 hLb)]
    · rw [lget_eq, lset_eq, List.getElem?_append_right (by simp)]
      simp
    · rw [List.length_append, hcl, hwl, Nat.add_mul]; omega
    · show (k + 1) * es ≤ (cs ++ ws).length
      rw [List.length_append, hcl, hwl, Nat.add_mul]; omega
    · rw [get_blk]
    · simp [lset_eq]; omega
    · rw [lset_eq, List.getElem?_append_left (by simp; omega), List.getElem?_set_ne (by omega), e2, List.getElem?_append_left (by omega)]
theorem GV.row {ro : List ABlk} {hp : Heap} {L e : Nat} {v : AVal} {k : Nat} {z : List Int} (g : GV hp L e 1 v k (z.map (AVal.i .i64))) (hk : z.length = k) : IsRow ro hp v z := by
  subst hk
  rcases g with ⟨rfl, h2, -⟩ | ⟨b, blk, rfl, hpos, hLb, hbk, hbe, hcl, hbn, hrows⟩
  · exact .inl ⟨rfl, List.length_eq_zero_iff.1 h2⟩
  · refine .inr ⟨_, _, blk, rfl, rdB_heap hbk 0, by simpa using hbn, fun j hj => ?_⟩
    rw [Nat.zero_add, hrows j (by omega), map_getD hj]
end Go.Proofs.Ytnalgdobglfndaa.T

/- What a record is: the program's checks and the reference's. -/
open Go.Vm
set_option linter.unusedVariables false
namespace Go.Proofs.Ytnalgdobglfndaa.T
open Go

def bitP (x : Int) : Prop := x = 0 ∨ x = 1
instance (x : Int) : Decidable (bitP x) := inferInstanceAs (Decidable (_ ∨ _))
def bitsP (z : List Int) : Prop := ∀ j, j < z.length → bitP (z.getD j 0)
instance (z : List Int) : Decidable (bitsP z) := inferInstanceAs (Decidable (∀ j, j < z.length → bitP (z.getD j 0)))
/-- a row of so many numbers 0 or 1 -/
def rowP (z : List Int) (n : Int) : Prop := bitsP z ∧ (z.length : Int) = n
instance (z : List Int) (n : Int) : Decidable (rowP z n) := inferInstanceAs (Decidable (_ ∧ _))
def matP (x : List (List Int)) (k n : Int) : Prop := (∀ i, i < x.length → rowP (nthR x i) n) ∧ (x.length : Int) = k
instance (x : List (List Int)) (k n : Int) : Decidable (matP x k n) := inferInstanceAs (Decidable (_ ∧ _))

section
variable {ro : List ABlk} {h : Heap} {a b : AVal} {x : List (List Int)} {z : List Int}

theorem bit_ok {n : Int} : callX F1 ro 65 [.i .i64 n] h = some (.b (decide (bitP n)), h, h.length, h.length) := by
  refine g65_ok (meansX_ok F1 ro) rfl ?_
  unfold g65
  simp only [forceB_eq, eqI_eq]
  have e : decide (bitP n) = ((n == 0) || (n == 1)) := by
    by_cases h0 : n = 0
    · subst h0; rfl
    · by_cases h1 : n = 1
      · subst h1; rfl
      · rw [dF (show ¬ bitP n from fun hh => by rcases hh with hh | hh <;> contradiction)]; simp [h0, h1]
  rw [e]
  cases h0 : (n == 0)
  · simp only [cond_false, bindO_some, Bool.false_or, tupA]; exact fin_pure rfl
  · simp only [cond_true, bindO_some, Bool.true_or, tupA]; exact fin_pure rfl

theorem areBits_ok {n : Int} (hb : IsRow ro h b z) (hz : z.length ≤ 9223372036854775807) : callX F1 ro 61 [b, .i .i64 n] h = some (.b (decide (rowP z n)), h, h.length, h.length) := by
  refine g61_ok (meansX_ok F1 ro) rfl ?_
  unfold g61
  simp only [len_row hb, bindO_some, asI_i, meansX_loop]
  have hloop := loop_if (b := fun s => g61_b0 (meansX F1 ro) ro b n z.length ⟨h, h.length, h.length⟩ s) (fun i => (i : Int)) z.length (fun i => bitP (z.getD i 0)) (.inl ()) (.inr false) ?_ ?_ ?_
  · have e0 : ((0 : Nat) : Int) = 0 := rfl
    rw [e0] at hloop
    rw [hloop]
    by_cases hf : bitsP z
    · rw [if_pos (show ∀ i, i < z.length → bitP (z.getD i 0) from hf)]
      simp only [bindO_some, forceB_eq, eqI_eq, tupA]
      have e : decide (rowP z n) = ((z.length : Int) == n) := by
        by_cases hn : (z.length : Int) = n
        · rw [dT (show rowP z n from ⟨hf, hn⟩)]; simp [hn]
        · rw [dF (show ¬ rowP z n from fun hh => hn hh.2)]; simp [hn]
      rw [e]
      exact fin_pure rfl
    · rw [if_neg (show ¬ ∀ i, i < z.length → bitP (z.getD i 0) from hf)]
      simp only [bindO_some, dF (show ¬ rowP z n from fun hh => hf hh.1), tupA]
      exact fin_pure rfl
  · simp only [g61_b0, forceB_eq, ltI_eq, lt_no, cond_false]
  · intro i hi hp
    obtain ⟨p, h1, h2, h3⟩ := at_row (m := ⟨h, h.length, h.length⟩) rfl hb hi
    simp only [g61_b0, forceB_eq, ltI_eq, lt_yes hi, cond_true, h1, h2, bindO_some, asI_i, eqI_eq]
    rcases hp with hp | hp
    · simp only [hp, beq_self_eq_true, Bool.not_true, cond_false, bindO_some, forceI_eq]
      rw [wr_id' (by omega) (by omega)]; rfl
    · have e0 : ((1 : Int) == 0) = false := rfl
      simp only [hp, e0, Bool.not_false, cond_true, beq_self_eq_true, Bool.not_true, cond_false, bindO_some, forceI_eq]
      rw [wr_id' (by omega) (by omega)]; rfl
  · intro i hi hp
    obtain ⟨p, h1, h2, h3⟩ := at_row (m := ⟨h, h.length, h.length⟩) rfl hb hi
    have e0 : (z.getD i 0 == 0) = false := by rw [beq_eq_false_iff_ne]; exact fun hh => hp (.inl hh)
    have e1 : (z.getD i 0 == 1) = false := by rw [beq_eq_false_iff_ne]; exact fun hh => hp (.inr hh)
    simp only [g61_b0, forceB_eq, ltI_eq, lt_yes hi, cond_true, h1, h2, bindO_some, asI_i, eqI_eq, e0, e1, Bool.not_false]

/-- how long the rows and the list are: no more than an int can count -/
def LenOk (x : List (List Int)) : Prop := x.length ≤ 9223372036854775807 ∧ ∀ i, i < x.length → (nthR x i).length ≤ 9223372036854775807
theorem areSaid_ok {k n : Int} (ha : IsMat ro h a x) (hl : LenOk x) : callX F1 ro 68 [a, .i .i64 k, .i .i64 n] h = some (.b (decide (matP x k n)), h, h.length, h.length) := by
  refine g68_ok (meansX_ok F1 ro) rfl ?_
  unfold g68
  simp only [len_mat ha, bindO_some, asI_i, meansX_loop]
  have hloop := loop_if (b := fun s : Int × Mm => g68_b0 (meansX F1 ro) ro a k n x.length s.1 s.2) (fun i => ((i : Int), (⟨h, h.length, h.length⟩ : Mm))) x.length (fun i => rowP (nthR x i) n) (.inl ⟨h, h.length, h.length⟩) (.inr (false, ⟨h, h.length, h.length⟩)) ?_ ?_ ?_
  · have e0 : ((0 : Nat) : Int) = 0 := rfl
    rw [e0] at hloop
    rw [hloop]
    by_cases hf : ∀ i, i < x.length → rowP (nthR x i) n
    · rw [if_pos hf]
      simp only [bindO_some, forceB_eq, eqI_eq, tupA]
      have e : decide (matP x k n) = ((x.length : Int) == k) := by
        by_cases hn : (x.length : Int) = k
        · rw [dT (show matP x k n from ⟨hf, hn⟩)]; simp [hn]
        · rw [dF (show ¬ matP x k n from fun hh => hn hh.2)]; simp [hn]
      rw [e]
      exact fin_pure rfl
    · rw [if_neg hf]
      simp only [bindO_some, dF (show ¬ matP x k n from fun hh => hf hh.1), tupA]
      exact fin_pure rfl
  · simp only [g68_b0, forceB_eq, ltI_eq, lt_no, cond_false]
  · intro i hi hp
    obtain ⟨p, u, h1, h2, h3, h4⟩ := at_mat (m := ⟨h, h.length, h.length⟩) rfl ha hi
    have := hl.1
    simp only [g68_b0, forceB_eq, ltI_eq, lt_yes hi, cond_true, h1, h2, bindO_some, meansX_call, cp0 (areBits_ok (n := n) h4 (hl.2 i hi)), bindP_some, asB_b, dT hp, Bool.not_true, cond_false, forceI_eq]
    rw [wr_id' (by omega) (by omega)]; rfl
  · intro i hi hp
    obtain ⟨p, u, h1, h2, h3, h4⟩ := at_mat (m := ⟨h, h.length, h.length⟩) rfl ha hi
    simp only [g68_b0, forceB_eq, ltI_eq, lt_yes hi, cond_true, h1, h2, bindO_some, meansX_call, cp0 (areBits_ok (n := n) h4 (hl.2 i hi)), bindP_some, asB_b, dF hp, Bool.not_false]

/-- the bits of one row, as the reference looks at them -/
theorem rowLoop {R : Type} {n : Nat} (r : R) {b0 : Int × Mm → Option ((Int × Mm) ⊕ (Mm ⊕ R))} {m : Mm} {zz : List Int} (hn : n = zz.length)
    (hin : ∀ i, i < n → b0 ((i : Int), m) = some (cond (decide (bitP (zz.getD i 0))) (.inl (((i + 1 : Nat) : Int), m)) (.inr (.inr r)))) (hout : b0 ((n : Int), m) = some (.inr (.inl m))) :
    loopX b0 (0, m) = some (if bitsP zz then .inl m else .inr r) := by
  subst hn
  have hloop := loop_if (b := b0) (fun i => ((i : Int), m)) zz.length (fun i => bitP (zz.getD i 0)) (.inl m) (.inr r) hout (fun i hi hp => by rw [hin i hi, dT hp]; rfl) (fun i hi hp => by rw [hin i hi, dF hp]; rfl)
  have e0 : ((0 : Nat) : Int) = 0 := rfl
  rw [e0] at hloop
  exact hloop

end
end Go.Proofs.Ytnalgdobglfndaa.T

/- Ratios in lowest terms; what foretellers say; how many bits a number has. -/
open Go.Vm
set_option linter.unusedVariables false
namespace Go.Proofs.Ytnalgdobglfndaa.T
open Go

abbrev rV (a b : Int) : AVal := .agg [.i .i64 a, .i .i64 b]
/-- a ratio in lowest terms -/
def ratV (a b : Nat) : AVal := rV ((a / Nat.gcd a b : Nat) : Int) ((b / Nat.gcd a b : Nat) : Int)
def saidP (k n : Int) (x : List (List Int)) : Prop := 1 ≤ k ∧ k ≤ 10 ∧ 1 ≤ n ∧ n ≤ 20 ∧ matP x k n
instance (k n : Int) (x : List (List Int)) : Decidable (saidP k n x) := inferInstanceAs (Decidable (_ ∧ _))

section
variable {ro : List ABlk} {h hp : Heap} {a b : AVal} {x : List (List Int)} {z : List Int}

theorem fill2 (a b : Int) : (fillA [(AVal.i IntKind.i64 0), (AVal.i IntKind.i64 0)] [((0, 1), (.i .i64 a)), ((1, 1), (.i .i64 b))]).map AVal.agg = some (rV a b) := rfl
theorem fill0 : (fillA [(AVal.i IntKind.i64 0), (AVal.i IntKind.i64 0)] []).map AVal.agg = some (rV 0 0) := rfl
/-- a cell for a ratio is written whole -/
theorem put2 {q : Nat} {u : AVal} {v : List AVal} (a : Holds hp q v) (hv : v.length = 2) (hL : h.length ≤ q) (kp : Keep h hp) {x y : Int} (hu : u = rV x y) :
    ∃ hp', stepM ro ⟨hp, h.length, h.length⟩ (.st 2 (.c (.p (some ⟨false, q, 0⟩))) (.c u)) = some (und, ⟨hp', h.length, h.length⟩) ∧ ldM ro ⟨hp', h.length, h.length⟩ false 2 (.p (some ⟨false, q, 0⟩)) = some u ∧ hp'.length = hp.length ∧ (∀ i, i ≠ q → hp'[i]? = hp[i]?) ∧ Keep h hp' := by
  subst hu
  obtain ⟨hp', h1, h2, h3, h4, h5⟩ := a.st (ro := ro) (h := h) (vs' := [.i .i64 x, .i .i64 y]) (v := rV x y) (n := 2) rfl rfl (by rw [hv]; rfl) rfl hL kp
  exact ⟨hp', h1, h2.all rfl, h3, h4, h5⟩

theorem wr_nat {n : Nat} (hn : n ≤ 9223372036854775807) : wr .i64 (n : Int) = (n : Int) := wr_id' (by omega) (by omega)
theorem gcdLoop {b0 : Int × Int → Option ((Int × Int) ⊕ Int)} (hb : ∀ x y, b0 (x, y) = forceB (!eqI y 0) fun c => cond c (chk (!eqI y (.ofNat 0)) <| forceI (Int.tmod x y) fun r => some (.inl (y, r))) (some (.inr x))) (a b : Nat) : loopX b0 ((a : Int), (b : Int)) = some ((Nat.gcd a b : Nat) : Int) := by
  refine gcd_loop (fun a => ?_) (fun a b hb0 => ?_) (b + 1) a b (by omega)
  · rw [hb]; rfl
  · rw [hb]
    have e : (!eqI (b : Int) 0) = true := by rw [eqI_eq]; simp; omega
    have e2 : (!eqI (b : Int) (.ofNat 0)) = true := e
    simp only [e, e2, forceB_eq, cond_true, chk_true, forceI_eq, tmod_nat]

theorem lowest_ok {n d : Nat} (hd : 0 < d) (hn : n ≤ 1000000000) (hd2 : d ≤ 1000000000) : callX F1 ro 63 [.i .i64 (n : Int), .i .i64 (d : Int)] h = some (ratV n d, h, h.length, h.length) := by
  refine g63_ok (meansX_ok F1 ro) rfl ?_
  unfold g63
  rw [al_ok]
  simp only [bindP_some, meansX_loop]
  have hloop := gcdLoop (b0 := fun s => g63_b0 (meansX F1 ro) ro (n : Int) (d : Int) (.p (some ⟨false, h.length, 0⟩)) ⟨h ++ [some (blkOf 42 [(AVal.i IntKind.i64 0), (AVal.i IntKind.i64 0)])], h.length, h.length⟩ s.1 s.2) (fun x y => rfl) n d
  have hg : 0 < Nat.gcd n d := Nat.gcd_pos_of_pos_right n hd
  have e : (!eqI ((Nat.gcd n d : Nat) : Int) (.ofNat 0)) = true := by rw [eqI_eq]; simp; omega
  have w1 : wr .i64 (((n / Nat.gcd n d : Nat)) : Int) = _ := wr_nat (Nat.le_trans (Nat.div_le_self _ _) (by omega))
  have w2 : wr .i64 (((d / Nat.gcd n d : Nat)) : Int) = _ := wr_nat (Nat.le_trans (Nat.div_le_self _ _) (by omega))
  obtain ⟨hp', h1, h2, h3, h4, h5⟩ := put2 (ro := ro) (h := h) (Holds.new h 42 [(AVal.i IntKind.i64 0), (AVal.i IntKind.i64 0)]) rfl (Nat.le_refl _) (Keep.app _) (u := ratV n d) rfl
  simp only [hloop, bindO_some, e, chk_true, forceI_eq, tdiv_nat, w1, w2, fill2]
  have h1' : stepM ro ⟨h ++ [some (blkOf 42 [(AVal.i IntKind.i64 0), (AVal.i IntKind.i64 0)])], h.length, h.length⟩ (.st 2 (.c (.p (some ⟨false, h.length, 0⟩))) (.c (rV ((n / Nat.gcd n d : Nat) : Int) ((d / Nat.gcd n d : Nat) : Int)))) = _ := h1
  simp only [h1', bindP_some, h2, bindO_some, tupA]
  exact fin_keep h5 rfl

theorem Said_ok {k n : Int} (ha : IsMat ro h a x) (hl : LenOk x) : callX F1 ro 46 [.i .i64 k, .i .i64 n, a] h = some (.b (decide (saidP k n x)), h, h.length, h.length) := by
  refine g46_ok (meansX_ok F1 ro) rfl ?_
  unfold g46
  simp only [forceB_eq, ltI_eq, len_mat ha, bindO_some, asI_i, meansX_loop, eqI_eq]
  by_cases h1 : k < 1
  · simp only [dT h1, cond_true, bindO_some, dF (show ¬ saidP k n x from fun hh => by have := hh.1; omega), tupA]; exact fin_pure rfl
  by_cases h2 : 10 < k
  · simp only [dF h1, dT h2, cond_true, cond_false, bindO_some, dF (show ¬ saidP k n x from fun hh => by have := hh.2.1; omega), tupA]; exact fin_pure rfl
  by_cases h3 : n < 1
  · simp only [dF h1, dF h2, dT h3, cond_true, cond_false, bindO_some, dF (show ¬ saidP k n x from fun hh => by have := hh.2.2.1; omega), tupA]; exact fin_pure rfl
  by_cases h4 : 20 < n
  · simp only [dF h1, dF h2, dF h3, dT h4, cond_true, cond_false, bindO_some, dF (show ¬ saidP k n x from fun hh => by have := hh.2.2.2.1; omega), tupA]; exact fin_pure rfl
  by_cases h5 : (x.length : Int) = k
  case neg =>
    have e5 : (!((x.length : Int) == k)) = true := by simpa using h5
    simp only [dF h1, dF h2, dF h3, dF h4, cond_true, cond_false, bindO_some, e5, dF (show ¬ saidP k n x from fun hh => h5 hh.2.2.2.2.2), tupA]; exact fin_pure rfl
  have e5 : (!((x.length : Int) == k)) = false := by rw [h5]; simp
  simp only [dF h1, dF h2, dF h3, dF h4, cond_false, bindO_some, e5]
  have hloop := loop_if (b := fun s : Int × Mm => g46_b4 (meansX F1 ro) ro k n a s.1 s.2) (fun i => ((i : Int), (⟨h, h.length, h.length⟩ : Mm))) x.length (fun i => rowP (nthR x i) n) (.inl ⟨h, h.length, h.length⟩) (.inr (false, ⟨h, h.length, h.length⟩)) ?_ ?_ ?_
  · have e0 : ((0 : Nat) : Int) = 0 := rfl
    rw [e0] at hloop
    rw [hloop]
    by_cases hf : ∀ i, i < x.length → rowP (nthR x i) n
    · rw [if_pos hf]
      simp only [bindO_some, dT (show saidP k n x from ⟨by omega, by omega, by omega, by omega, hf, h5⟩), tupA]; exact fin_pure rfl
    · rw [if_neg hf]
      simp only [bindO_some, dF (show ¬ saidP k n x from fun hh => hf hh.2.2.2.2.1), tupA]; exact fin_pure rfl
  · simp only [g46_b4, forceB_eq, ltI_eq, ← h5, lt_no, cond_false]
  all_goals
    intro i hi hp
    obtain ⟨p, u, h1', h2', h3', h4'⟩ := at_mat (m := ⟨h, h.length, h.length⟩) rfl ha hi
    simp only [g46_b4, forceB_eq, ltI_eq, ← h5, lt_yes hi, cond_true, h1', h2', bindO_some, len_row h4', asI_i, eqI_eq, meansX_loop]
    by_cases h4 : ((nthR x i).length : Int) = n
    · have e4 : (!(((x.getD i []).length : Int) == n)) = false := by rw [show ((x.getD i []).length : Int) = n from h4]; simp
      have hl3 := rowLoop (r := (false, (⟨h, h.length, h.length⟩ : Mm))) (b0 := fun s : Int × Mm => g46_b5 (meansX F1 ro) ro (x.length : Int) n a (i : Int) s.1 s.2) (m := ⟨h, h.length, h.length⟩) (zz := nthR x i) rfl (fun j hj => by
          obtain ⟨p', h1'', h2'', h3''⟩ := at_row (m := ⟨h, h.length, h.length⟩) rfl h4' hj
          have hjn : decide ((j : Int) < n) = true := dT (by rw [← h4]; omega)
          have hll := hl.2 i hi
          simp only [g46_b5, forceB_eq, ltI_eq, hjn, cond_true, h1', h2', bindO_some, h1'', h2'', asI_i, meansX_call, cp0 bit_ok, bindP_some, asB_b]
          cases decide (bitP ((nthR x i).getD j 0))
          · rfl
          · simp only [Bool.not_true, cond_false, cond_true, forceI_eq]
            rw [wr_id' (by omega) (by omega)]; rfl) (by
          have hjn : decide (((nthR x i).length : Int) < n) = false := dF (by omega)
          simp only [g46_b5, forceB_eq, ltI_eq, hjn, cond_false])
      simp only [e4, cond_false, hl3]
      by_cases h5 : bitsP (nthR x i)
      · simp only [if_pos h5, bindO_some, forceI_eq]
        first
        | (rw [wr_id' (by omega) (by omega)]; rfl)
        | exact absurd ⟨h5, h4⟩ hp
      · first
        | exact absurd hp.1 h5
        | simp only [if_neg h5, bindO_some]
    · have e4 : (!(((x.getD i []).length : Int) == n)) = true := by
        have h4 : ¬ ((x.getD i []).length : Int) = n := h4
        simpa using h4
      first
      | exact absurd hp.2 h4
      | simp only [e4, cond_true]

/- bits -/
/-- how many of the last k bits are 1 -/
def onesT (k n : Nat) : Nat → Nat
  | 0 => 0
  | j + 1 => onesT k n j + n / 2 ^ (k - 1 - j) % 2
def pop83 (x0 : Int) : Int :=
  let x8 := wr .u64 (bitV .and .u64 (shrV .u64 x0 1) 6148914691236517205 + bitV .and .u64 x0 6148914691236517205)
  let x14 := wr .u64 (bitV .and .u64 (shrV .u64 x8 2) 3689348814741910323 + bitV .and .u64 x8 3689348814741910323)
  let x19 := bitV .and .u64 (wr .u64 (shrV .u64 x14 4 + x14)) 1085102592571150095
  let x23 := wr .u64 (x19 + shrV .u64 x19 8)
  let x27 := wr .u64 (x23 + shrV .u64 x23 16)
  let x31 := wr .u64 (x27 + shrV .u64 x27 32)
  bitV .and .i64 (wr .i64 x31) 127
theorem pop_all : ∀ k : Nat, k < 11 → ∀ n : Nat, n < 2 ^ k → pop83 (n : Int) = ((onesT k n k : Nat) : Int) := by decide +kernel
theorem pop83_ok {n : Int} : callX F1 ro 78 [.i .u64 n] h = some (.i .i64 (pop83 n), h, h.length, h.length) := by
  refine g78_ok (meansX_ok F1 ro) rfl ?_
  unfold g78
  have hc : callX F1 ro 83 [.i .u64 n] h = some (.i .i64 (pop83 n), h, h.length, h.length) := by
    refine g83_ok (meansX_ok F1 ro) rfl ?_
    unfold g83
    simp only [forceI_eq]
    exact fin_pure rfl
  simp only [meansX_call, cp0 hc, bindP_some, asI_i, tupA]
  exact fin_pure rfl
end
end Go.Proofs.Ytnalgdobglfndaa.T

/- How often foretellers are wrong: by bits, and one by one. -/
open Go.Vm
set_option linter.unusedVariables false
namespace Go.Proofs.Ytnalgdobglfndaa.T
open Go

def bt (x : List (List Int)) (j f : Nat) : Nat := ((nthR x j).getD f 0).toNat
def ser (x : List (List Int)) (f : Nat) : Nat → Nat
  | 0 => 0
  | i + 1 => 2 * ser x f i + bt x i f
def wrongN (x : List (List Int)) (f s k : Nat) : Nat → Nat
  | 0 => 0
  | j + 1 => wrongN x f s k j + (if bt x j f ≠ s / 2 ^ (k - 1 - j) % 2 then 1 else 0)
def minN (w : Nat → Nat) (d : Nat) : Nat → Nat
  | 0 => d
  | f + 1 => min (minN w d f) (w f)
def best (x : List (List Int)) (k n s : Nat) : Nat := minN (fun f => wrongN x f s k k) k n

theorem bt_of {x : List (List Int)} {k n : Nat} (hm : matP x k n) {j f : Nat} (hj : j < k) (hf : f < n) : (nthR x j).getD f 0 = ((bt x j f : Nat) : Int) ∧ bt x j f < 2 := by
  have hr := hm.1 j (by have := hm.2; omega)
  have := hr.1 f (by have := hr.2; omega)
  unfold bt
  rcases this with e | e <;> rw [e] <;> exact ⟨rfl, by decide⟩
theorem mat_len {x : List (List Int)} {k n : Nat} (hm : matP x k n) : x.length = k := by have := hm.2; omega
theorem row_len {x : List (List Int)} {k n : Nat} (hm : matP x k n) {j : Nat} (hj : j < k) : (nthR x j).length = n := by
  have := (hm.1 j (by have := hm.2; omega)).2; omega
theorem ser_lt {x : List (List Int)} {k n : Nat} (hm : matP x k n) {f : Nat} (hf : f < n) : ∀ i, i ≤ k → ser x f i < 2 ^ i
  | 0, _ => by simp [ser]
  | i + 1, hi => by
    have h1 := ser_lt hm hf i (by omega)
    have h2 := (bt_of hm (show i < k by omega) hf).2
    simp only [ser, Nat.pow_succ]; omega
/-- the digits of a series -/
theorem ser_bit {x : List (List Int)} {k n : Nat} (hm : matP x k n) {f : Nat} (hf : f < n) : ∀ i, i ≤ k → ∀ j, j < i → ser x f i / 2 ^ (i - 1 - j) % 2 = bt x j f
  | 0, _, j, hj => by omega
  | i + 1, hi, j, hj => by
    have h2 := (bt_of hm (show i < k by omega) hf).2
    by_cases e : j = i
    · subst e
      simp only [ser, Nat.add_sub_cancel, Nat.sub_self, Nat.pow_zero, Nat.div_one]; omega
    · have ih := ser_bit hm hf i (by omega) j (by omega)
      rw [show i + 1 - 1 - j = (i - 1 - j) + 1 by omega, Nat.pow_succ, Nat.mul_comm, ← Nat.div_div_eq_div_mul]
      have : ser x f (i + 1) / 2 = ser x f i := by simp only [ser]; omega
      rw [this, ih]
theorem xor_bit (a b q : Nat) : (a ^^^ b) / 2 ^ q % 2 = if a / 2 ^ q % 2 ≠ b / 2 ^ q % 2 then 1 else 0 := by
  have h := Nat.testBit_xor a b q
  simp only [Nat.testBit_eq_decide_div_mod_eq] at h
  have ha := Nat.mod_two_eq_zero_or_one (a / 2 ^ q)
  have hb := Nat.mod_two_eq_zero_or_one (b / 2 ^ q)
  have hc := Nat.mod_two_eq_zero_or_one ((a ^^^ b) / 2 ^ q)
  rcases ha with ha | ha <;> rcases hb with hb | hb <;> rcases hc with hc | hc <;> rw [ha, hb, hc] at h <;> simp_all
theorem ones_wrong {x : List (List Int)} {k n : Nat} (hm : matP x k n) {f : Nat} (hf : f < n) (s : Nat) : ∀ j, j ≤ k → onesT k (ser x f k ^^^ s) j = wrongN x f s k j
  | 0, _ => rfl
  | j + 1, hj => by
    simp only [onesT, wrongN, ones_wrong hm hf s j (by omega), xor_bit, ser_bit hm hf k (Nat.le_refl _) j (by omega)]
theorem wrong_le (x : List (List Int)) (f s k : Nat) : ∀ j, wrongN x f s k j ≤ j
  | 0 => Nat.le_refl _
  | j + 1 => by
    have := wrong_le x f s k j
    simp only [wrongN]
    split <;> omega
theorem minN_le {w : Nat → Nat} {d : Nat} : ∀ n, minN w d n ≤ d
  | 0 => Nat.le_refl _
  | n + 1 => Nat.le_trans (Nat.min_le_left _ _) (minN_le n)
theorem minN_congr {w w' : Nat → Nat} {d : Nat} : ∀ n, (∀ f, f < n → w f = w' f) → minN w d n = minN w' d n
  | 0, _ => rfl
  | n + 1, h => by simp only [minN]; rw [minN_congr n fun f hf => h f (by omega), h n (by omega)]
theorem minN_base {w : Nat → Nat} {d d' : Nat} (hw : ∀ f, w f ≤ d) (hd : d ≤ d') : ∀ n, 0 < n → minN w d' n = minN w d n
  | 1, _ => by simp only [minN]; have := hw 0; omega
  | n + 2, _ => by
    have := minN_base hw hd (n + 1) (by omega)
    show min (minN w d' (n + 1)) _ = min (minN w d (n + 1)) _
    rw [this]

section
variable {ro : List ABlk} {h hp : Heap} {a b v : AVal} {x : List (List Int)} {z : List Int}

theorem bit_xor64 {a c : Nat} (ha : a < 1024) (hc : c < 1024) : bitV .xor .i64 a c = ((a ^^^ c : Nat) : Int) := by
  have hx : a ^^^ c < 2 ^ 10 := Nat.xor_lt_two_pow (n := 10) ha hc
  have e : bitV .xor .i64 a c = IntKind.i64.wrap (BitVec.ofInt 64 (a : Int) ^^^ BitVec.ofInt 64 (c : Int)).toNat := by
    show numA (Go.Vm.bits .xor .i64 a c) = _
    show numA (some (mkI .i64 _)) = _
    rw [mkI_eq]; rfl
  have e1 : (BitVec.ofInt 64 (a : Int) ^^^ BitVec.ofInt 64 (c : Int)).toNat = a ^^^ c := by
    rw [BitVec.toNat_xor]
    have h1 : ∀ n : Nat, n < 1024 → (BitVec.ofInt 64 (n : Int)).toNat = n := fun n hn => by
      simp; omega
    rw [h1 a ha, h1 c hc]
  rw [e, e1, wrap_i64_in _ (by omega) (by omega)]
theorem wr_u64_id {n : Nat} (hn : n < 1024) : wr .u64 (n : Int) = (n : Int) := by
  show IntKind.u64.wrap (n : Int) = _
  rw [IntKind.wrap_u64]; omega
theorem mxF {a c : Nat} : mxV false (a : Int) (c : Int) = ((min a c : Nat) : Int) := by
  unfold mxV
  simp only [Bool.false_eq_true, if_false]
  split <;> omega
theorem shr_nat {n q : Nat} (hq : q ≤ 60) : shrV .i64 (n : Int) (q : Int) = ((n / 2 ^ q : Nat) : Int) := by
  unfold shrV
  have e : min ((q : Int)).toNat (IntKind.bits .i64) = q := by
    have : IntKind.bits .i64 = 64 := rfl
    omega
  rw [e]
  show Int.fdiv (n : Int) ((2 ^ q : Nat) : Int) = _
  rw [Int.fdiv_eq_ediv_of_nonneg _ (Int.natCast_nonneg _)]
  rfl
theorem shl_nat : ∀ k, k < 11 → shlV .i64 1 ((k : Nat) : Int) = ((2 ^ k : Nat) : Int) := by decide
theorem fewest_ok {k n s : Nat} (hk : k ≤ 10) (hm : matP x k n) (hn : n ≤ 20) (hs : s < 2 ^ k) (hv : IsRow ro h v z) (hz : z.length = n) (hzz : ∀ f, f < n → z.getD f 0 = ((ser x f k : Nat) : Int)) :
    callX F1 ro 69 [v, .i .i64 (s : Int)] h = some (.i .i64 ((minN (fun f => onesT k (ser x f k ^^^ s) k) 10 n : Nat) : Int), h, h.length, h.length) := by
  refine g69_ok (meansX_ok F1 ro) rfl ?_
  unfold g69
  simp only [len_row hv, bindO_some, asI_i, meansX_loop]
  have hk2 : 2 ^ k ≤ 1024 := Nat.le_trans (Nat.pow_le_pow_right (by omega) hk) (by decide)
  have hloop := loop_run (b := fun s1 : Int × Int × Mm => g69_b0 (meansX F1 ro) ro (s : Int) v (z.length : Int) s1.1 s1.2.1 s1.2.2) (fun i => (((minN (fun f => onesT k (ser x f k ^^^ s) k) 10 i : Nat) : Int), (i : Int), (⟨h, h.length, h.length⟩ : Mm))) n
    (r0 := (((minN (fun f => onesT k (ser x f k ^^^ s) k) 10 n : Nat) : Int), (⟨h, h.length, h.length⟩ : Mm))) ?_ ?_
  · have e0 : ((0 : Nat) : Int) = 0 := rfl
    have e1 : ((minN (fun f => onesT k (ser x f k ^^^ s) k) 10 0 : Nat) : Int) = 10 := rfl
    rw [e0, e1] at hloop
    rw [hloop]
    simp only [bindO_some, tupA]
    exact fin_pure rfl
  · simp only [g69_b0, forceB_eq, ltI_eq, hz, lt_no, cond_false]
  · intro i hi
    obtain ⟨p, h1, h2, h3⟩ := at_row (m := ⟨h, h.length, h.length⟩) rfl hv (show i < z.length by omega)
    rw [hzz i hi] at h2
    have hsr := ser_lt hm hi k (Nat.le_refl _)
    have hx : ser x i k ^^^ s < 2 ^ k := Nat.xor_lt_two_pow hsr hs
    simp only [g69_b0, forceB_eq, ltI_eq, hz, lt_yes hi, cond_true, h1, h2, bindO_some, asI_i, forceI_eq, bit_xor64 (show ser x i k < 1024 by omega) (show s < 1024 by omega), wr_u64_id (show ser x i k ^^^ s < 1024 by omega), meansX_call, cp0 pop83_ok, bindP_some, pop_all k (by omega) _ hx, mxF]
    rw [wr_next (by omega)]; rfl

theorem BestOf_ok {k n s : Nat} (hk1 : 1 ≤ k) (hk : k ≤ 10) (hm : matP x k n) (hn : n ≤ 20) (ha : IsMat ro h a x) : callX F1 ro 48 [.i .i64 (k : Int), .i .i64 (n : Int), a, .i .i64 (s : Int)] h = some (.i .i64 ((best x k n s : Nat) : Int), h, h.length, h.length) := by
  refine g48_ok (meansX_ok F1 ro) rfl ?_
  unfold g48
  simp only [meansX_loop]
  have hloop := loop_run (b := fun s1 : Int × Int => g48_b0 (meansX F1 ro) ro (k : Int) (n : Int) a (s : Int) ⟨h, h.length, h.length⟩ s1.1 s1.2) (fun i => (((minN (fun f => wrongN x f s k k) k i : Nat) : Int), (i : Int))) n (r0 := ((best x k n s : Nat) : Int)) ?_ ?_
  · have e0 : ((0 : Nat) : Int) = 0 := rfl
    have e1 : ((minN (fun f => wrongN x f s k k) k 0 : Nat) : Int) = (k : Int) := rfl
    rw [e0, e1] at hloop
    rw [hloop]
    simp only [bindO_some, tupA]
    exact fin_pure rfl
  · simp only [g48_b0, forceB_eq, ltI_eq, lt_no, cond_false]; rfl
  · intro f hf
    have hin := loop_run (b := fun s1 : Int × Int => g48_b1 (meansX F1 ro) ro (k : Int) (n : Int) a (s : Int) ((minN (fun f => wrongN x f s k k) k f : Nat) : Int) (f : Int) ⟨h, h.length, h.length⟩ s1.1 s1.2) (fun j => (((wrongN x f s k j : Nat) : Int), (j : Int))) k (r0 := ((wrongN x f s k k : Nat) : Int)) ?_ ?_
    · have e0 : ((0 : Nat) : Int) = 0 := rfl
      have e1 : ((wrongN x f s k 0 : Nat) : Int) = 0 := rfl
      rw [e0, e1] at hin
      simp only [g48_b0, forceB_eq, ltI_eq, lt_yes hf, cond_true, meansX_loop, hin, bindO_some, forceI_eq, mxF]
      rw [wr_next (by omega)]; rfl
    · simp only [g48_b1, forceB_eq, ltI_eq, lt_no, cond_false]
    · intro j hj
      obtain ⟨p, u, h1, h2, h3, h4⟩ := at_mat (m := ⟨h, h.length, h.length⟩) rfl ha (show j < x.length by rw [mat_len hm]; exact hj)
      obtain ⟨p', h1', h2', h3'⟩ := at_row (m := ⟨h, h.length, h.length⟩) rfl h4 (show f < (nthR x j).length by rw [row_len hm hj]; exact hf)
      obtain ⟨hb1, hb2⟩ := bt_of hm hj hf
      have hb1' : (x.getD j []).getD f 0 = ((bt x j f : Nat) : Int) := hb1
      rw [hb1'] at h2'
      have w1 : wr .i64 ((k : Int) - 1) = (((k - 1 : Nat)) : Int) := by rw [wr_id' (by omega) (by omega)]; omega
      have w2 : wr .i64 (((k - 1 : Nat) : Int) - (j : Int)) = ((k - 1 - j : Nat) : Int) := by rw [wr_id' (by omega) (by omega)]; omega
      have hng : (!decide (((k - 1 - j : Nat) : Int) < Int.ofNat 0)) = true := nneg _
      have hwl := wrong_le x f s k j
      have ht : Int.tmod ((s / 2 ^ (k - 1 - j) : Nat) : Int) 2 = ((s / 2 ^ (k - 1 - j) % 2 : Nat) : Int) := tmod_nat _ 2
      simp only [g48_b1, forceB_eq, ltI_eq, lt_yes hj, cond_true, h1, h2, bindO_some, asI_i, forceI_eq, w1, w2, hng, chk_true, shr_nat (show k - 1 - j ≤ 60 by omega), ht, h1', h2', eqI_eq]
      by_cases e : bt x j f = s / 2 ^ (k - 1 - j) % 2
      · have e2 : (!((bt x j f : Int) == ((s / 2 ^ (k - 1 - j) % 2 : Nat) : Int))) = false := by rw [e]; simp
        simp only [e2, cond_false, bindO_some]
        rw [wr_next (by omega)]
        have : wrongN x f s k (j + 1) = wrongN x f s k j := by simp only [wrongN]; rw [if_neg (by simpa using e)]; rfl
        rw [this]
      · have e2 : (!((bt x j f : Int) == ((s / 2 ^ (k - 1 - j) % 2 : Nat) : Int))) = true := by
          have : ¬ ((bt x j f : Int) = ((s / 2 ^ (k - 1 - j) % 2 : Nat) : Int)) := fun hh => e (by omega)
          simpa using this
        simp only [e2, cond_true, bindO_some]
        rw [wr_next (by omega), wr_next (by omega)]
        have : wrongN x f s k (j + 1) = wrongN x f s k j + 1 := by simp only [wrongN]; rw [if_pos e]
        rw [this]
end
end Go.Proofs.Ytnalgdobglfndaa.T

/- Regret: the program's and the reference's. -/
open Go.Vm
set_option linter.unusedVariables false
namespace Go.Proofs.Ytnalgdobglfndaa.T
open Go

def sumN (w : Nat → Nat) : Nat → Nat
  | 0 => 0
  | s + 1 => sumN w s + w s
theorem sumN_congr {w w' : Nat → Nat} : ∀ n, (∀ s, s < n → w s = w' s) → sumN w n = sumN w' n
  | 0, _ => rfl
  | n + 1, h => by simp only [sumN]; rw [sumN_congr n fun s hs => h s (by omega), h n (by omega)]
theorem sumN_add (w w' : Nat → Nat) : ∀ n, sumN (fun s => w s + w' s) n = sumN w n + sumN w' n
  | 0 => rfl
  | n + 1 => by simp only [sumN, sumN_add w w' n]; omega
theorem sumN_le {w w' : Nat → Nat} : ∀ n, (∀ s, s < n → w s ≤ w' s) → sumN w n ≤ sumN w' n
  | 0, _ => Nat.le_refl _
  | n + 1, h => by simp only [sumN]; have := sumN_le n (fun s hs => h s (by omega)); have := h n (by omega); omega
theorem sumN_const (c : Nat) : ∀ n, sumN (fun _ => c) n = c * n
  | 0 => rfl
  | n + 1 => by simp only [sumN, sumN_const c n, Nat.mul_succ]
/-- half of the series have a given bit -/
theorem half_bits : ∀ k : Nat, k < 11 → ∀ q : Nat, q < k → 2 * sumN (fun s => s / 2 ^ q % 2) (2 ^ k) = 2 ^ k := by decide +kernel
theorem half_ne {k q b : Nat} (hk : k < 11) (hq : q < k) (hb : b < 2) : sumN (fun s => if b ≠ s / 2 ^ q % 2 then 1 else 0) (2 ^ k) = 2 ^ (k - 1) := by
  have h1 := half_bits k hk q hq
  have hp : 2 ^ k = 2 * 2 ^ (k - 1) := by rw [← Nat.pow_succ']; congr 1; omega
  have h2 : sumN (fun s => (if b ≠ s / 2 ^ q % 2 then 1 else 0)) (2 ^ k) = if b = 0 then sumN (fun s => s / 2 ^ q % 2) (2 ^ k) else 2 ^ k - sumN (fun s => s / 2 ^ q % 2) (2 ^ k) := by
    by_cases e : b = 0
    · rw [if_pos e]
      refine sumN_congr _ fun s _ => ?_
      have := Nat.mod_two_eq_zero_or_one (s / 2 ^ q)
      split <;> omega
    · rw [if_neg e]
      have h3 : sumN (fun s => (if b ≠ s / 2 ^ q % 2 then 1 else 0) + s / 2 ^ q % 2) (2 ^ k) = 2 ^ k := by
        rw [sumN_congr (w' := fun _ => 1) _ fun s _ => ?_, sumN_const]
        · omega
        · have := Nat.mod_two_eq_zero_or_one (s / 2 ^ q)
          split <;> omega
      rw [sumN_add] at h3
      omega
  rw [h2]
  split <;> omega
theorem sum_wrong {x : List (List Int)} {k n : Nat} (hk : k < 11) (hm : matP x k n) {f : Nat} (hf : f < n) : ∀ j, j ≤ k → sumN (fun s => wrongN x f s k j) (2 ^ k) = j * 2 ^ (k - 1)
  | 0, _ => by simp only [wrongN]; rw [sumN_const]; omega
  | j + 1, hj => by
    have h1 := sum_wrong hk hm hf j (by omega)
    have h2 := half_ne (q := k - 1 - j) hk (by omega) (bt_of hm (show j < k by omega) hf).2
    simp only [wrongN]
    rw [sumN_add, h1, h2, Nat.succ_mul]
theorem best_le {x : List (List Int)} {k n s f : Nat} (hf : f < n) : best x k n s ≤ wrongN x f s k k := by
  unfold best
  have : ∀ n, f < n → minN (fun f => wrongN x f s k k) k n ≤ wrongN x f s k k := by
    intro n
    induction n with
    | zero => intro h; omega
    | succ n ih =>
      intro h
      simp only [minN]
      by_cases e : f = n
      · subst e; exact Nat.min_le_right _ _
      · exact Nat.le_trans (Nat.min_le_left _ _) (ih (by omega))
  exact this n hf
/-- how often the best one is wrong in all series -/
def bestSum (x : List (List Int)) (k n : Nat) : Nat := sumN (best x k n) (2 ^ k)
theorem bestSum_le {x : List (List Int)} {k n : Nat} (hk : k < 11) (hm : matP x k n) (hn : 0 < n) : bestSum x k n ≤ k * 2 ^ (k - 1) := by
  rw [← sum_wrong hk hm hn k (Nat.le_refl _)]
  exact sumN_le _ fun s _ => best_le hn
/-- what Regret answers -/
def regV (x : List (List Int)) (k n : Int) : AVal :=
  if saidP k n x then .tup [ratV (k.toNat * 2 ^ (k.toNat - 1) - bestSum x k.toNat n.toNat) (2 ^ k.toNat), .i .i64 0] else .tup [rV 0 0, .i .i64 2]
theorem rat_two (a b : Nat) : ratV (2 * a) (2 * b) = ratV a b := by
  unfold ratV
  rw [Nat.gcd_mul_left, Nat.mul_div_mul_left _ _ (by omega), Nat.mul_div_mul_left _ _ (by omega)]

section
variable {ro : List ABlk} {h hp : Heap} {a b v : AVal} {x : List (List Int)} {z : List Int}

theorem pow10 {k : Nat} (hk : k ≤ 10) : 2 ^ k ≤ 1024 := Nat.le_trans (Nat.pow_le_pow_right (by omega) hk) (by decide)
theorem sum_small {w : Nat → Nat} {c : Nat} (hw : ∀ s, w s ≤ 10) (hc : c ≤ 1024) : sumN w c ≤ 10240 := by
  have := sumN_le (w := w) (w' := fun _ => 10) c (fun s _ => hw s)
  rw [sumN_const] at this; omega
theorem best_small (x : List (List Int)) {k n : Nat} (hk : k ≤ 10) (s : Nat) : best x k n s ≤ 10 := Nat.le_trans (minN_le n) hk

/-- the series of the foretellers, as far as they are made: i nights, and of the next one f foretellers -/
def serL (x : List (List Int)) (n i f : Nat) : List AVal := (List.range n).map fun j : Nat => .i .i64 ((ser x j (if j < f then i + 1 else i) : Nat) : Int)
theorem serL_len (x : List (List Int)) (n i f : Nat) : (serL x n i f).length = n := by simp [serL]
theorem serL_get {x : List (List Int)} {n i f j : Nat} (hj : j < n) : (serL x n i f).getD j und = .i .i64 ((ser x j (if j < f then i + 1 else i) : Nat) : Int) := by simp [serL, List.getD, hj]
theorem serL_set {x : List (List Int)} {n i f : Nat} (hf : f < n) : (serL x n i f).set f (.i .i64 ((ser x f (i + 1) : Nat) : Int)) = serL x n i (f + 1) := by
  refine List.ext_getElem (by simp [serL]) fun j h1 h2 => ?_
  have hj : j < n := by simpa [serL] using h2
  rw [List.getElem_set]
  by_cases e : f = j
  · subst e
    simp [serL]
  · rw [if_neg e]
    have : (j < f ↔ j < f + 1) := by omega
    simp [serL, this]
theorem serL_end {x : List (List Int)} {n i : Nat} : serL x n i n = serL x n (i + 1) 0 := by
  refine List.ext_getElem (by simp [serL]) fun j h1 h2 => ?_
  have hj : j < n := by simpa [serL] using h2
  simp [serL, hj]
theorem holds_row {hp : Heap} {q n : Nat} {vs : List AVal} {z : List Int} (a : Holds hp q vs) (hz : vs = z.map (AVal.i .i64)) (hn : z.length = n) {cap : Cap} : IsRow ro hp (.sl ⟨false, q, 0⟩ n cap) z := by
  subst hz; subst hn
  obtain ⟨blk, h1, h2, h3⟩ := a
  refine .inr ⟨_, cap, blk, rfl, rdB_heap h1 0, by simpa using (Nat.le_of_eq h2.symm), fun j hj => ?_⟩
  rw [show (0 + j) = j by omega, h3 j (by simpa using hj), map_getD hj]

theorem Regret_ok {k n : Int} (ha : IsMat ro h a x) (hl : LenOk x) : callX F1 ro 35 [.i .i64 k, .i .i64 n, a] h = some (regV x k n, h, h.length, h.length) := by
  refine g35_ok (meansX_ok F1 ro) rfl ?_
  unfold g35
  rw [al_ok]
  have kp : Keep h (h ++ [some (blkOf 42 [(AVal.i IntKind.i64 0), (AVal.i IntKind.i64 0)])]) := Keep.app _
  have ha1 := mat_by ha kp
  have cpk : ∀ {f : Nat} {a : List AVal} {v : AVal}, callX F1 ro f a (h ++ [some (blkOf 42 [(AVal.i IntKind.i64 0), (AVal.i IntKind.i64 0)])]) = some (v, _, _, _) → callM (callX F1 ro) ⟨h ++ [some (blkOf 42 [(AVal.i IntKind.i64 0), (AVal.i IntKind.i64 0)])], h.length, h.length⟩ f a = some (v, ⟨h ++ [some (blkOf 42 [(AVal.i IntKind.i64 0), (AVal.i IntKind.i64 0)])], h.length, h.length⟩) := fun e => cp e (by simp) (by simp)
  have hno : ¬ saidP k n x → (bindO ((fillA [(AVal.i IntKind.i64 0), (AVal.i IntKind.i64 0)] []).map AVal.agg) fun v37 =>
    bindP (stepM ro ⟨h ++ [some (blkOf 42 [(AVal.i IntKind.i64 0), (AVal.i IntKind.i64 0)])], h.length, h.length⟩ (.st 2 (.c (.p (some ⟨false, h.length, 0⟩))) (.c v37))) fun vn m_4 =>
    bindO (ldM ro m_4 false 2 (.p (some ⟨false, h.length, 0⟩))) fun vr =>
    finM h.length (tupA [vr, (.i .i64 2)]) m_4) = some (regV x k n, h, h.length, h.length) := fun hs => by
    obtain ⟨hp', h1, h2, h3, h4, h5⟩ := put2 (ro := ro) (h := h) (Holds.new h 42 [(AVal.i IntKind.i64 0), (AVal.i IntKind.i64 0)]) rfl (Nat.le_refl _) kp (u := rV 0 0) rfl
    simp only [fill0, bindO_some, h1, bindP_some, h2, tupA]
    have e4 : regV x k n = .tup [rV 0 0, .i .i64 2] := by unfold regV; rw [if_neg hs]
    rw [e4]
    exact fin_keep h5 rfl
  simp only [bindP_some, meansX_call, forceB_eq, ltI_eq]
  by_cases h1 : k < 1
  · simp only [dT h1, cond_true, bindO_some]; exact hno fun hh => by have := hh.1; omega
  by_cases h2 : 10 < k
  · simp only [dF h1, dT h2, cond_true, cond_false, bindO_some]; exact hno fun hh => by have := hh.2.1; omega
  by_cases h3 : n < 1
  · simp only [dF h1, dF h2, dT h3, cond_true, cond_false, bindO_some]; exact hno fun hh => by have := hh.2.2.1; omega
  by_cases h4 : 20 < n
  · simp only [dF h1, dF h2, dF h3, dT h4, cond_true, cond_false, bindO_some]; exact hno fun hh => by have := hh.2.2.2.1; omega
  simp only [dF h1, dF h2, dF h3, dF h4, cond_false, bindO_some, cpk (areSaid_ok (k := k) (n := n) ha1 hl), bindP_some, asB_b]
  by_cases hm : matP x k n
  case neg => simp only [dF hm, Bool.not_false, cond_true]; exact hno fun hh => hm hh.2.2.2.2
  have hs : saidP k n x := ⟨by omega, by omega, by omega, by omega, hm⟩
  simp only [dT hm, Bool.not_true, cond_false]
  clear hno
  obtain ⟨K, rfl⟩ : ∃ K : Nat, k = (K : Int) := ⟨k.toNat, by omega⟩
  obtain ⟨N, rfl⟩ : ∃ N : Nat, n = (N : Int) := ⟨n.toNat, by omega⟩
  have hK : K ≤ 10 := by omega
  have hp2 := pow10 hK
  rw [mk_ok (n := N) (v := .i .i64 0) (by omega) (by omega)]
  simp only [bindP_some, len_mat ha, bindO_some, asI_i, meansX_loop]
  generalize hc0 : h ++ [some (blkOf 42 [(AVal.i IntKind.i64 0), (AVal.i IntKind.i64 0)])] = h0 at *
  have hl0 : h0.length = h.length + 1 := by rw [← hc0]; simp
  -- the series are made
  have hx := loop_all (b := fun s : Int × Mm => g35_b4 (meansX F1 ro) ro (K : Int) (.p (some ⟨false, h.length, 0⟩)) (.sl ⟨false, h0.length, 0⟩ N (.known N)) a (x.length : Int) s.1 s.2) K
    (fun i m => ∃ hp, m = ⟨hp, h.length, h.length⟩ ∧ Keep h0 hp ∧ Holds hp h0.length (serL x N i 0)) ?_ ?_ K 0 ⟨h0 ++ [some (newBlk 3 (.i .i64 0) N)], h.length, h.length⟩ (by omega) ⟨_, rfl, Keep.app _, ?_⟩
  · obtain ⟨m', hrun, hI⟩ := hx
    obtain ⟨hp, rfl, kp0, hh⟩ := hI
    have kph := kp.trans kp0
    have e0 : ((0 : Nat) : Int) = 0 := rfl
    rw [e0] at hrun
    have e3 : (!decide ((K : Int) < Int.ofNat 0)) = true := nneg _
    have hrow : IsRow ro hp (.sl ⟨false, h0.length, 0⟩ N (.known N)) ((List.range N).map fun j : Nat => ((ser x j K : Nat) : Int)) := holds_row hh (by simp [serL]) (by simp)
    have hloop := loop_run (b := fun s1 : Int × Int × Mm => g35_b6 (meansX F1 ro) ro (K : Int) (.p (some ⟨false, h.length, 0⟩)) (.sl ⟨false, h0.length, 0⟩ N (.known N)) ((2 ^ K : Nat) : Int) s1.1 s1.2.1 s1.2.2) (fun i => (((sumN (best x K N) i : Nat) : Int), (i : Int), (⟨hp, h.length, h.length⟩ : Mm))) (2 ^ K)
      (r0 := (((bestSum x K N : Nat) : Int), (⟨hp, h.length, h.length⟩ : Mm))) ?_ ?_
    · have e1 : ((sumN (best x K N) 0 : Nat) : Int) = 0 := rfl
      rw [e0, e1] at hloop
      have hle := bestSum_le (show K < 11 by omega) hm (show 0 < N by omega)
      have hpk : 2 ^ K = 2 * 2 ^ (K - 1) := by rw [← Nat.pow_succ']; congr 1; omega
      have hkk : K * 2 ^ (K - 1) ≤ 10240 := Nat.le_trans (Nat.mul_le_mul hK (pow10 (show K - 1 ≤ 10 by omega))) (by omega)
      have hk2 : K * 2 ^ K = 2 * (K * 2 ^ (K - 1)) := by rw [hpk, Nat.mul_left_comm]
      have w1 : wr .i64 ((K : Int) * ((2 ^ K : Nat) : Int)) = ((K * 2 ^ K : Nat) : Int) := wr_mul (by omega)
      have w2 : wr .i64 (2 * ((bestSum x K N : Nat) : Int)) = ((2 * bestSum x K N : Nat) : Int) := by rw [wr_id' (by omega) (by omega)]; omega
      have w3 : wr .i64 (((K * 2 ^ K : Nat) : Int) - ((2 * bestSum x K N : Nat) : Int)) = ((2 * (K * 2 ^ (K - 1) - bestSum x K N) : Nat) : Int) := by rw [wr_id' (by omega) (by omega)]; omega
      have w4 : wr .i64 (2 * ((2 ^ K : Nat) : Int)) = ((2 * 2 ^ K : Nat) : Int) := by rw [wr_id' (by omega) (by omega)]; omega
      have hcell : Holds hp h.length [(AVal.i IntKind.i64 0), (AVal.i IntKind.i64 0)] := by
        have := (Holds.new h 42 [(AVal.i IntKind.i64 0), (AVal.i IntKind.i64 0)])
        rw [hc0] at this
        exact this.by kp0
      obtain ⟨hp', h1, h2, h3, h4, h5⟩ := put2 (ro := ro) (h := h) hcell rfl (Nat.le_refl _) kph (u := ratV (K * 2 ^ (K - 1) - bestSum x K N) (2 ^ K)) rfl
      have hlow := cp (l := h.length) (p := h.length) (lowest_ok (ro := ro) (h := hp) (n := 2 * (K * 2 ^ (K - 1) - bestSum x K N)) (d := 2 * 2 ^ K) (by have := Nat.two_pow_pos K; omega) (by omega) (by omega)) kph.1 kph.1
      rw [rat_two] at hlow
      simp only [mat_len hm] at hrun ⊢
      simp only [hrun, bindO_some, forceI_eq, e3, chk_true, shl_nat K (by omega), hloop, w1, w2, w3, w4, hlow, bindP_some, h1, h2, tupA]
      have e4 : regV x (K : Int) (N : Int) = .tup [ratV (K * 2 ^ (K - 1) - bestSum x K N) (2 ^ K), .i .i64 0] := by unfold regV; rw [if_pos hs]; rfl
      rw [e4]
      exact fin_keep h5 rfl
    · simp only [g35_b6, forceB_eq, ltI_eq, lt_no, cond_false]; rfl
    · intro s hs2
      have hsm := sum_small (fun s => best_small x (n := N) hK s) (show s ≤ 1024 by omega)
      have hb := best_small x (n := N) hK s
      have hf := fewest_ok (s := s) hK hm (by omega) hs2 hrow (by simp) (fun f hf => by simp [List.getD, hf])
      have he : minN (fun f => onesT K (ser x f K ^^^ s) K) 10 N = best x K N s := by
        unfold best
        rw [minN_congr N (fun f hf => ones_wrong hm hf s K (Nat.le_refl _))]
        exact minN_base (fun f => wrong_le x f s K K) hK N (by omega)
      rw [he] at hf
      simp only [g35_b6, forceB_eq, ltI_eq, lt_yes hs2, cond_true, meansX_call, cp (l := h.length) (p := h.length) hf kph.1 kph.1, bindP_some, asI_i, forceI_eq]
      rw [wr_next (by omega), wr_id' (by omega) (by omega)]
      rfl
  · rintro i m hi ⟨hp, rfl, kp0, hh⟩
    obtain ⟨p, u, h1', hld, h4'⟩ := at_matK ha1 (show i < x.length by rw [mat_len hm]; exact hi)
    have h2' := (hld (l := h.length) (q := h.length) kp0).1
    have hxl := mat_len hm
    have hrl := row_len hm hi
    have hx := loop_all (b := fun s : Int × Mm => g35_b5 (meansX F1 ro) ro (K : Int) (.p (some ⟨false, h.length, 0⟩)) (.sl ⟨false, h0.length, 0⟩ N (.known N)) a (x.length : Int) (i : Int) u (N : Int) s.1 s.2) N
      (fun f m => ∃ hp', m = ⟨hp', h.length, h.length⟩ ∧ Keep h0 hp' ∧ Holds hp' h0.length (serL x N i f)) ?_ ?_ N 0 ⟨hp, h.length, h.length⟩ (by omega) ⟨_, rfl, kp0, hh⟩
    · obtain ⟨m', hrun, hI⟩ := hx
      obtain ⟨hp', rfl, kp1, hh1⟩ := hI
      have e0 : ((0 : Nat) : Int) = 0 := rfl
      rw [e0] at hrun
      refine ⟨_, ?_, hp', rfl, kp1, by rw [← serL_end]; exact hh1⟩
      have hlr := len_row h4'
      rw [show ((x.getD i []).length : Int) = (N : Int) from by rw [show (x.getD i []).length = N from hrl]] at hlr
      simp only [g35_b4, forceB_eq, ltI_eq, hxl, lt_yes hi, cond_true, h1', h2', bindO_some, hlr, asI_i, meansX_loop] at hrun ⊢
      simp only [hrun, bindO_some, forceI_eq]
      rw [wr_next (by omega)]
    · rintro f m hf ⟨hp', rfl, kp1, hh1⟩
      obtain ⟨p', g1, gld⟩ := at_rowK h4' (show f < (nthR x i).length by rw [hrl]; exact hf)
      have g2 := (gld (l := h.length) (q := h.length) kp1).1
      rw [show (x.getD i []).getD f 0 = (nthR x i).getD f 0 from rfl] at g2
      obtain ⟨hb1, hb2⟩ := bt_of hm hi hf
      rw [hb1] at g2
      have g4 := ixS_eq (q := ⟨false, h0.length, 0⟩) (cap := .known N) hf
      have g5 := hh1.one (ro := ro) (l := h.length) (p := h.length) (k := f) (by rw [serL_len]; exact hf)
      rw [serL_get hf, if_neg (by omega)] at g5
      have hsl := ser_lt hm hf i (by omega)
      have hpi : 2 ^ i ≤ 1024 := pow10 (by omega)
      have w1 : wr .i64 (2 * ((ser x f i : Nat) : Int)) = ((2 * ser x f i : Nat) : Int) := by rw [wr_id' (by omega) (by omega)]; omega
      have w2 : wr .i64 (((2 * ser x f i : Nat) : Int) + ((bt x i f : Nat) : Int)) = ((ser x f (i + 1) : Nat) : Int) := by rw [wr_id' (by omega) (by omega)]; simp only [ser]; omega
      obtain ⟨hp2, s1, s2, s3, s4, s5⟩ := hh1.set (ro := ro) (h := h) (k := f) (v := .i .i64 ((ser x f (i + 1) : Nat) : Int)) (by rw [serL_len]; exact hf) rfl rfl rfl (by omega) (kp.trans kp1)
      rw [Nat.mul_one] at s1
      have k2 : Keep h0 hp2 := ⟨by rw [s3]; exact kp1.1, fun j hj => by rw [s4 j (by omega)]; exact kp1.2 j hj⟩
      refine ⟨_, ?_, hp2, rfl, k2, by rw [← serL_set hf]; exact s2⟩
      simp only [g35_b5, forceB_eq, ltI_eq, lt_yes hf, cond_true, g1, g2, bindO_some, asI_i, g4, g5, forceI_eq, w1, w2, s1, bindP_some]
      rw [wr_next (by omega)]
    · rintro m ⟨hp', rfl, -⟩
      simp only [g35_b5, forceB_eq, ltI_eq, lt_no, cond_false]
  · rintro m ⟨hp, rfl, -⟩
    simp only [g35_b4, forceB_eq, ltI_eq, mat_len hm, lt_no, cond_false]
  · have e : rep [(AVal.i .i64 0)] N = serL x N 0 0 := by
      refine List.ext_getElem (by rw [rep_len, serL_len]) fun j h1 h2 => ?_
      have hj : j < N := by rw [rep_len] at h1; exact h1
      have e1 := rep_get (AVal.i .i64 0) N j hj
      have e2 := serL_get (x := x) (i := 0) (f := 0) hj
      rw [if_neg (by omega)] at e2
      rw [List.getD_eq_getElem?_getD, List.getElem?_eq_getElem h1] at e1
      rw [List.getD_eq_getElem?_getD, List.getElem?_eq_getElem h2] at e2
      simp only [Option.getD_some] at e1 e2
      rw [e1, e2]; rfl
    show Holds (h0 ++ [some (blkOf 3 (rep [(AVal.i .i64 0)] N))]) _ _
    rw [e]
    exact Holds.new h0 3 _
theorem Fits.lens {x : List (List Int)} (hf : Fits x) : LenOk x := ⟨hf.1, fun i hi => by
  have : nthR x i ∈ x := by
    have : nthR x i = x[i] := by simp [nthR, List.getD, hi]
    rw [this]; exact List.getElem_mem hi
  exact (hf.2 _ this).1⟩
theorem nil_row (h : Heap) : IsRow ro h .nsl [] := .inl ⟨rfl, rfl⟩

end
end Go.Proofs.Ytnalgdobglfndaa.T

/- What points are: the program's checks and the reference's. -/
open Go.Vm
set_option linter.unusedVariables false
namespace Go.Proofs.Ytnalgdobglfndaa.T
open Go

def coordP (z : List Int) : Prop := ∀ j, j < z.length → -100 ≤ z.getD j 0 ∧ z.getD j 0 ≤ 100
instance (z : List Int) : Decidable (coordP z) := inferInstanceAs (Decidable (∀ j, j < z.length → -100 ≤ z.getD j 0 ∧ z.getD j 0 ≤ 100))
def pointP (z : List Int) : Prop := 1 ≤ z.length ∧ z.length ≤ 6 ∧ coordP z
instance (z : List Int) : Decidable (pointP z) := inferInstanceAs (Decidable (_ ∧ _))
def signP (n : Int) : Prop := n = 1 ∨ n = -1
instance (n : Int) : Decidable (signP n) := inferInstanceAs (Decidable (_ ∨ _))
def ptP (x : List (List Int)) (z : List Int) (i : Nat) : Prop := (nthR x i).length = (nthR x 0).length ∧ pointP (nthR x i) ∧ signP (z.getD i 0)
instance (x : List (List Int)) (z : List Int) (i : Nat) : Decidable (ptP x z i) := inferInstanceAs (Decidable (_ ∧ _))
def ptsP (x : List (List Int)) (z : List Int) : Prop := 0 < x.length ∧ z.length = x.length ∧ ∀ i, i < x.length → ptP x z i
instance (x : List (List Int)) (z : List Int) : Decidable (ptsP x z) := inferInstanceAs (Decidable (_ ∧ _ ∧ ∀ i, i < x.length → ptP x z i))
section
variable {ro : List ABlk} {h : Heap} {a b : AVal} {x : List (List Int)} {z : List Int}

end
end Go.Proofs.Ytnalgdobglfndaa.T

/- Perceptron: the program's and the reference's. -/
open Go.Vm
set_option linter.unusedVariables false
namespace Go.Proofs.Ytnalgdobglfndaa.T
open Go

def ints (w : List Int) : List AVal := w.map (AVal.i .i64)
/-- the sum of the coordinates times the weights -/
def dotN (p w : List Int) : Nat → Int
  | 0 => 0
  | k + 1 => wr .i64 (dotN p w k + wr .i64 (p.getD k 0 * w.getD k 0))
/-- is the point at which a round is, on its side? -/
def hitP (x : List (List Int)) (z : List Int) (i : Nat) (w : List Int) : Prop := 0 < wr .i64 (z.getD i 0 * dotN (nthR x i) w w.length)
instance (x : List (List Int)) (z : List Int) (i : Nat) (w : List Int) : Decidable (hitP x z i w) := inferInstanceAs (Decidable (_ < _))
section
variable {ro : List ABlk} {h hp : Heap} {a b v : AVal} {x : List (List Int)} {z : List Int}

theorem Holds.wr {b k : Nat} {vs : List AVal} {v : AVal} (a : Holds hp b vs) (hk : k < vs.length) (hv : v.one = true) (hc : v.cells = [v]) (hn : nonp [v] = true) (hL : h.length ≤ b) (kp : Keep h hp) :
    ∃ hp', writesM ro [] [(⟨false, b, 0 + k⟩, AVal.cells v)] ⟨hp, h.length, h.length⟩ = some ⟨hp', h.length, h.length⟩ ∧ Holds hp' b (vs.set k v) ∧ hp'.length = hp.length ∧ (∀ i, i ≠ b → hp'[i]? = hp[i]?) ∧ Keep h hp' := by
  obtain ⟨blk, h1, h2, h3⟩ := a
  refine ⟨hp.set b (some { blk with c := blk.c.set (0 + k) v }), ?_, ⟨_, lget_set h1 _, by simpa using h2, fun j hj => ?_⟩, by simp, fun i hi => List.getElem?_set_ne (Ne.symm hi), kp.set hL _⟩
  · rw [hc, wr_heap h1 (by omega) hv hn, Nat.min_eq_left hL]
  · show (blk.c.set (0 + k) v).get j = _
    rw [get_set]
    simp only [List.length_set] at hj
    by_cases e : 0 + k = j
    · have e' : k = j := by omega
      subst e'; simp [List.getD, hj]
    · rw [if_neg e, h3 j hj]
      simp [List.getD, List.getElem?_set_ne (show k ≠ j by omega)]
theorem keep_o {h0 hp' : Heap} {q : Nat} (k : Keep h0 hp) (hq : h0.length ≤ q) (hl : hp'.length = hp.length) (ho : ∀ i, i ≠ q → hp'[i]? = hp[i]?) : Keep h0 hp' :=
  ⟨by rw [hl]; exact k.1, fun j hj => by rw [ho j (by omega)]; exact k.2 j hj⟩
end
end Go.Proofs.Ytnalgdobglfndaa.T

/- Perceptron whole; the law that compares both. -/
open Go.Vm
set_option linter.unusedVariables false
namespace Go.Proofs.Ytnalgdobglfndaa.T
open Go

section
variable {ro : List ABlk} {h hp : Heap} {a b v : AVal} {x : List (List Int)} {z : List Int}

end
end Go.Proofs.Ytnalgdobglfndaa.T

/- Goals: what they are, their halves, room, guess. -/
open Go.Vm
set_option linter.unusedVariables false
namespace Go.Proofs.Ytnalgdobglfndaa.T
open Go

def goalP (k : Int) (z : List Int) : Prop := 1 ≤ k ∧ k ≤ 10 ∧ z.length = 2 ^ k.toNat ∧ ∀ j, j < z.length → 0 ≤ z.getD j 0 ∧ z.getD j 0 ≤ k * 60
instance (k : Int) (z : List Int) : Decidable (goalP k z) := inferInstanceAs (Decidable (_ ∧ _ ∧ _ ∧ ∀ j, j < z.length → 0 ≤ z.getD j 0 ∧ z.getD j 0 ≤ k * 60))
/-- part i of 2^j numbers each -/
def subL (z : List Int) (j i : Nat) : List Int := (List.range (2 ^ j)).map fun t => z.getD (i * 2 ^ j + t) 0
theorem subL_len (z : List Int) (j i : Nat) : (subL z j i).length = 2 ^ j := by simp [subL]
theorem subL_get {z : List Int} {j i t : Nat} (h : t < 2 ^ j) : (subL z j i).getD t 0 = z.getD (i * 2 ^ j + t) 0 := by simp [subL, List.getD, h]
theorem subL_all {z : List Int} {k : Nat} (h : z.length = 2 ^ k) : subL z k 0 = z := by
  refine List.ext_getElem (by rw [subL_len, h]) fun t h1 h2 => ?_
  simp [subL, List.getD, h2]
/-- how much may be lost before -/
def roomO (z : List Int) : Nat → Nat → Int
  | 0, i => z.getD i 0
  | j + 1, i => min (min (roomO z j (2 * i) + roomO z j (2 * i + 1) - 60 * 2 ^ j) (2 * roomO z j (2 * i))) (2 * roomO z j (2 * i + 1))
/-- the sum of the numbers t of a part -/
def sumT (z : List Int) (j i : Nat) : Nat → Int
  | 0 => 0
  | t + 1 => sumT z j i t + z.getD (i * 2 ^ j + t) 0
def sumO (z : List Int) (j i : Nat) : Int := sumT z j i (2 ^ j)
/-- the guess before the two halves of part i, in parts of which 60 * 2^(j+1) are a whole -/
def guessO (z : List Int) (j i : Nat) : Int := max 0 (min (60 * 2 ^ j + sumO z j (2 * i) - sumO z j (2 * i + 1)) (60 * 2 ^ (j + 1)))

/-- every number is small -/
def SmallG (z : List Int) : Prop := ∀ j, 0 ≤ z.getD j 0 ∧ z.getD j 0 ≤ 600
theorem small_of {k : Int} {z : List Int} (h : goalP k z) : SmallG z := fun j => by
  rcases Nat.lt_or_ge j z.length with hj | hj
  · have := h.2.2.2 j hj
    have := h.2.1
    omega
  · rw [List.getD_eq_getElem?_getD, List.getElem?_eq_none hj]; simp
theorem sumT_rng {z : List Int} (h : SmallG z) (j i : Nat) : ∀ t, 0 ≤ sumT z j i t ∧ sumT z j i t ≤ 600 * t
  | 0 => by simp [sumT]
  | t + 1 => by
    have h1 := sumT_rng h j i t
    have h2 := h (i * 2 ^ j + t)
    simp only [sumT]; omega
theorem pow_small {j : Nat} (hj : j ≤ 10) : (2 ^ j : Nat) ≤ 1024 := Nat.le_trans (Nat.pow_le_pow_right (by omega) hj) (by decide)
theorem sumO_rng {z : List Int} (h : SmallG z) {j : Nat} (hj : j ≤ 10) (i : Nat) : 0 ≤ sumO z j i ∧ sumO z j i ≤ 614400 := by
  have := sumT_rng h j i (2 ^ j)
  have := pow_small hj
  unfold sumO; omega
theorem roomO_rng {z : List Int} (h : SmallG z) : ∀ j, j ≤ 10 → ∀ i, -(1000 * 4 ^ j) ≤ roomO z j i ∧ roomO z j i ≤ 1000 * 4 ^ j
  | 0, _, i => by have := h i; simp only [roomO]; omega
  | j + 1, hj, i => by
    have h1 := roomO_rng h j (by omega) (2 * i)
    have h2 := roomO_rng h j (by omega) (2 * i + 1)
    have h3 : (2 : Int) ^ j ≤ 4 ^ j := by
      have : (2 ^ j : Nat) ≤ 4 ^ j := Nat.pow_le_pow_left (by omega) j
      have e1 : ((2 ^ j : Nat) : Int) = 2 ^ j := by simp
      have e2 : ((4 ^ j : Nat) : Int) = 4 ^ j := by simp
      omega
    have h4 : (0 : Int) ≤ 2 ^ j := Int.le_of_lt (Int.pow_pos (by decide))
    have h5 : (4 : Int) ^ (j + 1) = 4 * 4 ^ j := by rw [Int.pow_succ]; omega
    simp only [roomO]
    omega
theorem four10 {j : Nat} (hj : j ≤ 10) : (4 : Int) ^ j ≤ 1048576 := by
  have h : (4 ^ j : Nat) ≤ 4 ^ 10 := Nat.pow_le_pow_right (by omega) hj
  have e : ((4 ^ j : Nat) : Int) = 4 ^ j := by simp
  have : (4 ^ 10 : Nat) = 1048576 := by decide
  omega

section
variable {ro : List ABlk} {h hp : Heap} {a b v : AVal} {x : List (List Int)} {z : List Int}

theorem mxF_eq {a c : Int} : mxV false a c = min a c := by
  unfold mxV; simp only [Bool.false_eq_true, if_false]; split <;> omega
theorem mxT_eq {a c : Int} : mxV true a c = max a c := by
  unfold mxV; simp only [if_true]; split <;> omega

theorem isGoal_ok {k : Int} (hb : IsRow ro h b z) (hz : z.length ≤ 9223372036854775807) : callX F1 ro 58 [.i .i64 k, b] h = some (.b (decide (goalP k z)), h, h.length, h.length) := by
  refine g58_ok (meansX_ok F1 ro) rfl ?_
  unfold g58
  simp only [len_row hb, bindO_some, asI_i, forceB_eq, ltI_eq, meansX_loop, eqI_eq]
  by_cases h1 : k < 1
  · simp only [dT h1, cond_true, bindO_some, dF (show ¬ goalP k z from fun hh => by have := hh.1; omega), tupA]; exact fin_pure rfl
  by_cases h2 : 10 < k
  · simp only [dF h1, dT h2, cond_true, cond_false, bindO_some, dF (show ¬ goalP k z from fun hh => by have := hh.2.1; omega), tupA]; exact fin_pure rfl
  obtain ⟨K, rfl⟩ : ∃ K : Nat, k = (K : Int) := ⟨k.toNat, by omega⟩
  have hK : K ≤ 10 := by omega
  have hp2 := pow_small hK
  simp only [dF h1, dF h2, cond_false, bindO_some, nneg, chk_true, forceI_eq, shl_nat K (by omega)]
  by_cases h3 : z.length = 2 ^ K
  case neg =>
    have e3 : (!((z.length : Int) == ((2 ^ K : Nat) : Int))) = true := by
      have : ¬ (z.length : Int) = ((2 ^ K : Nat) : Int) := by omega
      simp only [Bool.not_eq_true', beq_eq_false_iff_ne]; exact this
    simp only [e3, cond_true, dF (show ¬ goalP (K : Int) z from fun hh => h3 (by have := hh.2.2.1; simpa using this)), tupA]; exact fin_pure rfl
  have e3 : (!((z.length : Int) == ((2 ^ K : Nat) : Int))) = false := by rw [h3]; simp
  simp only [e3, cond_false]
  have hloop := loop_if (b := fun s => g58_b2 (meansX F1 ro) ro (K : Int) b z.length ⟨h, h.length, h.length⟩ s) (fun i => (i : Int)) z.length (fun i => 0 ≤ z.getD i 0 ∧ z.getD i 0 ≤ (K : Int) * 60) (.inl ()) (.inr false) ?_ ?_ ?_
  · have e0 : ((0 : Nat) : Int) = 0 := rfl
    rw [e0] at hloop
    rw [hloop]
    by_cases hf : ∀ j, j < z.length → 0 ≤ z.getD j 0 ∧ z.getD j 0 ≤ (K : Int) * 60
    · rw [if_pos hf]
      simp only [bindO_some, dT (show goalP (K : Int) z from ⟨by omega, by omega, by simpa using h3, hf⟩), tupA]; exact fin_pure rfl
    · rw [if_neg hf]
      simp only [bindO_some, dF (show ¬ goalP (K : Int) z from fun hh => hf hh.2.2.2), tupA]; exact fin_pure rfl
  · simp only [g58_b2, forceB_eq, ltI_eq, lt_no, cond_false]
  all_goals
    intro i hi hp
    obtain ⟨p, h1, h2, h3⟩ := at_row (m := ⟨h, h.length, h.length⟩) rfl hb hi
    simp only [g58_b2, forceB_eq, ltI_eq, lt_yes hi, cond_true, h1, h2, bindO_some, asI_i, forceI_eq, wr_id' (show -9223372036854775808 ≤ (K : Int) * 60 by omega) (by omega)]
    by_cases h4 : z.getD i 0 < 0
    · first
      | (simp only [dT h4, cond_true, bindO_some]; done)
      | (exact absurd hp.1 (by omega))
    · by_cases h5 : (K : Int) * 60 < z.getD i 0
      · first
        | (simp only [dF h4, dT h5, cond_true, cond_false, bindO_some]; done)
        | (exact absurd hp.2 (by omega))
      · first
        | (simp only [dF h4, dF h5, cond_false, bindO_some]; rw [wr_next (by omega)]; done)
        | (exact absurd (⟨by omega, by omega⟩ : 0 ≤ z.getD i 0 ∧ z.getD i 0 ≤ (K : Int) * 60) hp)

/-- a part of a goal in memory -/
def IsSub (ro : List ABlk) (h : Heap) (v : AVal) (z : List Int) (j i : Nat) : Prop := IsRow ro h v (subL z j i) ∧ CapO v
theorem IsSub.bel {j i : Nat} (a : IsSub ro h v z j i) : v.bel h.length = true := row_bel a.1
theorem IsSub.len {j i : Nat} (a : IsSub ro h v z j i) : evP .e (.len false (.c v)) = some (.i .i64 ((2 ^ j : Nat) : Int)) := by
  have := len_row a.1
  rwa [subL_len] at this

theorem after_ok {j i n : Nat} (hj : j ≤ 10) (a : IsSub ro h v z (j + 1) i) (hn : n < 2) : ∃ u, callX F1 ro 62 [v, .i .i64 (n : Int)] h = some (u, h, h.length, h.length) ∧ IsSub ro h u z j (2 * i + n) := by
  obtain ⟨hr, hc⟩ := id a
  have hp := pow_small hj
  have hp0 := Nat.two_pow_pos j
  have hps : 2 ^ (j + 1) = 2 * 2 ^ j := by rw [Nat.pow_succ]; omega
  rcases hr with ⟨-, hnil⟩ | ⟨q, cap, blk, rfl, hb, hbn, hg⟩
  · have := subL_len z (j + 1) i; rw [hnil] at this; simp at this; omega
  rw [subL_len] at hbn hg hc
  have hlen := a.len
  have hw : Go.Vm.wr .i64 (Int.tdiv ((2 ^ (j + 1) : Nat) : Int) 2) = ((2 ^ j : Nat) : Int) := by
    have : Int.tdiv ((2 ^ (j + 1) : Nat) : Int) 2 = ((2 ^ (j + 1) / 2 : Nat) : Int) := tdiv_nat _ 2
    rw [this, show 2 ^ (j + 1) / 2 = 2 ^ j by omega, wr_nat (by omega)]
  have hnn : n = 0 ∨ n = 1 := by omega
  rcases hnn with rfl | rfl
  · refine ⟨.sl q (2 ^ j) cap, g62_ok (meansX_ok F1 ro) rfl ?_, .inr ⟨q, cap, blk, by rw [subL_len], hb, by rw [subL_len]; omega, fun t ht => ?_⟩, fun q' n' c' e => ?_⟩
    · unfold g62
      have e1 : evP .e (.slS 1 (.c (.sl q (subL z (j + 1) i).length cap)) none (some (.c (.i .i64 ((2 ^ j : Nat) : Int)))) none) = some (.sl q (2 ^ j) cap) := by
        have hcb : 2 ^ j ≤ capB cap (2 ^ (j + 1)) := by
          cases cap with
          | known c => have := hc q _ c rfl; show 2 ^ j ≤ c; omega
          | grow => show 2 ^ j ≤ 2 ^ (j + 1); omega
          | any => show 2 ^ j ≤ 2 ^ (j + 1); omega
        have hble : Nat.ble (2 ^ j) (capB cap (2 ^ (j + 1))) = true := by rw [Nat.ble_eq]; exact hcb
        rw [subL_len]
        have en : ((2 ^ j : Nat) : Int) = Int.ofNat (2 ^ j) := rfl
        simp only [evP, ev_slS, opd, sl_lh, Option.map_some, Option.map_none, sbound, en, hble, cond_true]
      have hlen' : evP .e (.len false (.c (.sl q (subL z (j + 1) i).length cap))) = _ := hlen
      simp only [hlen', bindO_some, asI_i, forceI_eq, hw, forceB_eq, eqI_eq, show (((0 : Nat) : Int) == 0) = true from rfl, cond_true, e1, tupA]
      exact fin_pure (by simpa [AVal.bel] using rdB_lt hb)
    · rw [subL_len] at ht
      rw [hg t (by omega), subL_get ht, subL_get (by omega), show 2 * i + 0 = 2 * i by omega, hps, show i * (2 * 2 ^ j) = 2 * i * 2 ^ j by rw [Nat.mul_left_comm, Nat.mul_assoc]]
    · cases e
      have := hc q _ c' rfl
      omega
  · have key : ∃ cap', evP .e (.slS 1 (.c (.sl q (subL z (j + 1) i).length cap)) (some (.c (.i .i64 ((2 ^ j : Nat) : Int)))) none none) = some (.sl ⟨q.ro, q.b, q.off + 2 ^ j⟩ (2 ^ j) cap') ∧ CapO (.sl ⟨q.ro, q.b, q.off + 2 ^ j⟩ (2 ^ j) cap') := by
      rw [subL_len]
      have hcb : 2 ^ (j + 1) ≤ capB cap (2 ^ (j + 1)) := by
        cases cap with
        | known c => have := hc q _ c rfl; exact this
        | grow => exact Nat.le_refl _
        | any => exact Nat.le_refl _
      have hble2 : Nat.ble (2 ^ j) (2 ^ (j + 1)) = true := by rw [Nat.ble_eq]; omega
      have en : ((2 ^ j : Nat) : Int) = Int.ofNat (2 ^ j) := rfl
      obtain ⟨m, hm⟩ : ∃ m, 2 ^ j = m + 1 := ⟨2 ^ j - 1, by omega⟩
      have hs : 2 ^ (j + 1) - (m + 1) = 2 ^ j := by omega
      cases cap with
      | known c =>
        have hcc := hc q _ c rfl
        have hblt : Nat.blt (m + 1) c = true := by rw [Nat.blt_eq]; omega
        refine ⟨.known (c - (m + 1)), ?_, fun q' n' c' e => by cases e; omega⟩
        rw [hm] at hble2 en
        simp only [evP, ev_slS, opd, sl_lh, Option.map_some, Option.map_none, sbound, hm, en, hble2, cond_true, hblt, Nat.mul_one]
        rw [show 2 ^ (j + 1) - (m + 1) = m + 1 by omega]
      | grow =>
        have hblt : Nat.blt (m + 1) (2 ^ (j + 1)) = true := by rw [Nat.blt_eq]; omega
        refine ⟨.any, ?_, fun q' n' c' e => by cases e⟩
        rw [hm] at hble2 en
        simp only [evP, ev_slS, opd, sl_lh, Option.map_some, Option.map_none, sbound, hm, en, hble2, cond_true, hblt, Nat.mul_one]
        rw [show 2 ^ (j + 1) - (m + 1) = m + 1 by omega]
      | any =>
        have hblt : Nat.blt (m + 1) (2 ^ (j + 1)) = true := by rw [Nat.blt_eq]; omega
        refine ⟨.any, ?_, fun q' n' c' e => by cases e⟩
        rw [hm] at hble2 en
        simp only [evP, ev_slS, opd, sl_lh, Option.map_some, Option.map_none, sbound, hm, en, hble2, cond_true, hblt, Nat.mul_one]
        rw [show 2 ^ (j + 1) - (m + 1) = m + 1 by omega]
    obtain ⟨cap', e1, e2⟩ := key
    have hb' : rdB ro h ⟨q.ro, q.b, q.off + 2 ^ j⟩ = some blk := hb
    refine ⟨.sl ⟨q.ro, q.b, q.off + 2 ^ j⟩ (2 ^ j) cap', g62_ok (meansX_ok F1 ro) rfl ?_, .inr ⟨⟨q.ro, q.b, q.off + 2 ^ j⟩, cap', blk, by rw [subL_len], hb', by rw [subL_len]; show q.off + 2 ^ j + 2 ^ j ≤ blk.n; omega, fun t ht => ?_⟩, e2⟩
    · unfold g62
      have hlen' : evP .e (.len false (.c (.sl q (subL z (j + 1) i).length cap))) = _ := hlen
      simp only [hlen', bindO_some, asI_i, forceI_eq, hw, forceB_eq, eqI_eq, show (((1 : Nat) : Int) == 0) = false from rfl, cond_false, e1, tupA]
      exact fin_pure (by simpa [AVal.bel] using rdB_lt hb)
    · rw [subL_len] at ht
      show blk.c.get (q.off + 2 ^ j + t) = _
      rw [Nat.add_assoc, hg (2 ^ j + t) (by omega), subL_get ht, subL_get (by omega), hps, Nat.add_mul, show i * (2 * 2 ^ j) = 2 * i * 2 ^ j by rw [Nat.mul_left_comm, Nat.mul_assoc], Nat.one_mul, Nat.add_assoc]

theorem room_ok (hs : SmallG z) : ∀ j, j ≤ 10 → ∀ (i : Nat) (v : AVal), IsSub ro h v z j i → callX F1 ro 59 [v] h = some (.i .i64 (roomO z j i), h, h.length, h.length)
  | 0, _, i, v, a => by
    refine g59_ok (meansX_ok F1 ro) rfl ?_
    unfold g59
    obtain ⟨p, h1, h2, h3⟩ := at_row (m := ⟨h, h.length, h.length⟩) rfl a.1 (i := 0) (by rw [subL_len]; decide)
    rw [subL_get (by decide)] at h2
    have e0 : ((0 : Nat) : Int) = 0 := rfl
    rw [e0] at h1
    simp only [a.len, bindO_some, asI_i, forceB_eq, eqI_eq, show (((2 ^ 0 : Nat) : Int) == 1) = true from rfl, cond_true, h1, h2, tupA]
    have : roomO z 0 i = z.getD (i * 2 ^ 0 + 0) 0 := by simp [roomO]
    rw [this]
    exact fin_pure rfl
  | j + 1, hj, i, v, a => by
    obtain ⟨u0, c0, s0⟩ := after_ok (n := 0) (by omega) a (by omega)
    obtain ⟨u1, c1, s1⟩ := after_ok (n := 1) (by omega) a (by omega)
    have r0 := room_ok hs j (by omega) _ u0 s0
    have r1 := room_ok hs j (by omega) _ u1 s1
    have b0 := roomO_rng hs j (by omega) (2 * i)
    have b1 := roomO_rng hs j (by omega) (2 * i + 1)
    have f := four10 (show j ≤ 10 by omega)
    have hp := pow_small (show j ≤ 10 by omega)
    have hp0 := Nat.two_pow_pos j
    have hps : 2 ^ (j + 1) = 2 * 2 ^ j := by rw [Nat.pow_succ]; omega
    refine g59_ok (meansX_ok F1 ro) rfl ?_
    unfold g59
    have e1 : (((2 ^ (j + 1) : Nat) : Int) == 1) = false := by rw [beq_eq_false_iff_ne]; omega
    have c0' : callX F1 ro 62 [v, .i .i64 0] h = _ := c0
    have c1' : callX F1 ro 62 [v, .i .i64 1] h = _ := c1
    rw [show 2 * i + 0 = 2 * i by omega] at r0
    have w1 : Go.Vm.wr .i64 (60 * ((2 ^ (j + 1) : Nat) : Int)) = ((60 * 2 ^ (j + 1) : Nat) : Int) := by rw [wr_id' (by omega) (by omega)]; omega
    have w2 : Go.Vm.wr .i64 (Int.tdiv ((60 * 2 ^ (j + 1) : Nat) : Int) 2) = ((60 * 2 ^ j : Nat) : Int) := by
      have : Int.tdiv ((60 * 2 ^ (j + 1) : Nat) : Int) 2 = ((60 * 2 ^ (j + 1) / 2 : Nat) : Int) := tdiv_nat _ 2
      rw [this, show 60 * 2 ^ (j + 1) / 2 = 60 * 2 ^ j by omega, wr_nat (by omega)]
    simp only [a.len, bindO_some, asI_i, forceB_eq, eqI_eq, e1, cond_false, meansX_call, cp0 c0', bindP_some, cp0 r0, cp0 c1', cp0 r1, forceI_eq, w1, w2, wr_id' (show -9223372036854775808 ≤ roomO z j (2 * i) + roomO z j (2 * i + 1) by omega) (by omega)]
    rw [wr_id' (by omega) (by omega), wr_id' (by omega) (by omega), wr_id' (by omega) (by omega), mxF_eq, mxF_eq]
    have : roomO z (j + 1) i = min (min (roomO z j (2 * i) + roomO z j (2 * i + 1) - ((60 * 2 ^ j : Nat) : Int)) (2 * roomO z j (2 * i))) (2 * roomO z j (2 * i + 1)) := by
      simp only [roomO]
      have : ((60 * 2 ^ j : Nat) : Int) = 60 * 2 ^ j := by simp
      rw [this]
    rw [← this]
    exact fin_pure rfl

theorem sum_ok {j i : Nat} (hs : SmallG z) (hj : j ≤ 10) (a : IsSub ro h v z j i) : callX F1 ro 76 [v] h = some (.i .i64 (sumO z j i), h, h.length, h.length) := by
  refine g76_ok (meansX_ok F1 ro) rfl ?_
  unfold g76
  have hp := pow_small hj
  have hloop := loop_run (b := fun s : Int × Int => g76_b0 (meansX F1 ro) ro v ((2 ^ j : Nat) : Int) ⟨h, h.length, h.length⟩ s.1 s.2) (fun t => (sumT z j i t, (t : Int))) (2 ^ j) (r0 := sumO z j i) ?_ ?_
  · have e0 : ((0 : Nat) : Int) = 0 := rfl
    have e1 : sumT z j i 0 = 0 := rfl
    rw [e0, e1] at hloop
    simp only [a.len, bindO_some, asI_i, meansX_loop, hloop, tupA]
    exact fin_pure rfl
  · simp only [g76_b0, forceB_eq, ltI_eq, lt_no, cond_false]; rfl
  · intro t ht
    obtain ⟨p, h1, h2, h3⟩ := at_row (m := ⟨h, h.length, h.length⟩) rfl a.1 (i := t) (by rw [subL_len]; exact ht)
    rw [subL_get ht] at h2
    have hb := sumT_rng hs j i t
    have hb2 := hs (i * 2 ^ j + t)
    simp only [g76_b0, forceB_eq, ltI_eq, lt_yes ht, cond_true, h1, h2, bindO_some, asI_i, forceI_eq]
    rw [wr_next (by omega), wr_id' (by omega) (by omega)]; rfl

theorem guess_ok {j i : Nat} (hs : SmallG z) (hj : j ≤ 9) (a : IsSub ro h v z (j + 1) i) : callX F1 ro 64 [v] h = some (.tup [.i .i64 (guessO z j i), .i .i64 ((60 * 2 ^ (j + 1) : Nat) : Int)], h, h.length, h.length) := by
  obtain ⟨u0, c0, s0⟩ := after_ok (n := 0) (by omega) a (by omega)
  obtain ⟨u1, c1, s1⟩ := after_ok (n := 1) (by omega) a (by omega)
  have r0 := sum_ok hs (by omega) s0
  have r1 := sum_ok hs (by omega) s1
  have b0 := sumO_rng hs (show j ≤ 10 by omega) (2 * i)
  have b1 := sumO_rng hs (show j ≤ 10 by omega) (2 * i + 1)
  have hp := pow_small (show j ≤ 10 by omega)
  have hps : 2 ^ (j + 1) = 2 * 2 ^ j := by rw [Nat.pow_succ]; omega
  refine g64_ok (meansX_ok F1 ro) rfl ?_
  unfold g64
  have c0' : callX F1 ro 62 [v, .i .i64 0] h = _ := c0
  have c1' : callX F1 ro 62 [v, .i .i64 1] h = _ := c1
  rw [show 2 * i + 0 = 2 * i by omega] at r0
  have w1 : Go.Vm.wr .i64 (60 * ((2 ^ (j + 1) : Nat) : Int)) = ((60 * 2 ^ (j + 1) : Nat) : Int) := by rw [wr_id' (by omega) (by omega)]; omega
  have w2 : Go.Vm.wr .i64 (Int.tdiv ((60 * 2 ^ (j + 1) : Nat) : Int) 2) = ((60 * 2 ^ j : Nat) : Int) := by
    have : Int.tdiv ((60 * 2 ^ (j + 1) : Nat) : Int) 2 = ((60 * 2 ^ (j + 1) / 2 : Nat) : Int) := tdiv_nat _ 2
    rw [this, show 60 * 2 ^ (j + 1) / 2 = 60 * 2 ^ j by omega, wr_nat (by omega)]
  have w3 : Go.Vm.wr .i64 (((60 * 2 ^ j : Nat) : Int) + sumO z j (2 * i)) = _ := wr_id' (by omega) (by omega)
  have w4 : Go.Vm.wr .i64 (((60 * 2 ^ j : Nat) : Int) + sumO z j (2 * i) - sumO z j (2 * i + 1)) = _ := wr_id' (by omega) (by omega)
  simp only [a.len, bindO_some, asI_i, forceI_eq, w1, w2, meansX_call, cp0 c0', bindP_some, cp0 r0, cp0 c1', cp0 r1, w3, w4, mxF_eq, mxT_eq]
  have : guessO z j i = max 0 (min (((60 * 2 ^ j : Nat) : Int) + sumO z j (2 * i) - sumO z j (2 * i + 1)) ((60 * 2 ^ (j + 1) : Nat) : Int)) := by
    have e1 : ((60 * 2 ^ j : Nat) : Int) = 60 * 2 ^ j := by simp
    have e2 : ((60 * 2 ^ (j + 1) : Nat) : Int) = 60 * 2 ^ (j + 1) := by simp
    rw [e1, e2]; rfl
  rw [← this]
  exact fin_pure rfl
end
end Go.Proofs.Ytnalgdobglfndaa.T

/- Can: the program's and the reference's. -/
open Go.Vm
set_option linter.unusedVariables false
namespace Go.Proofs.Ytnalgdobglfndaa.T
open Go

section
variable {ro : List ABlk} {h hp : Heap} {a b v : AVal} {x : List (List Int)} {z : List Int}

theorem push1 {L0 L k : Nat} {zs : List Int} {n : Int} (g : GV hp L 3 1 v k (ints zs)) (hL0 : L0 ≤ L) (hL : L ≤ hp.length) (hk : k ≤ 100000) :
    ∃ v2 hp2 v3 hp3, stepM ro ⟨hp, L0, L0⟩ (.bsl 3 1 [(AVal.i IntKind.i64 0)] 1 [((0, 1), .c (.i .i64 n))]) = some (v2, ⟨hp2, L0, L0⟩) ∧ stepM ro ⟨hp2, L0, L0⟩ (.app 3 1 8 [(AVal.i IntKind.i64 0)] (.c v) (.c v2)) = some (v3, ⟨hp3, L0, L0⟩) ∧
      GV hp3 L 3 1 v3 (k + 1) (ints (zs ++ [n])) ∧ hp.length ≤ hp3.length ∧ ∀ i, i < L → hp3[i]? = hp[i]? := by
  have := GV.push (ro := ro) (z := [(AVal.i IntKind.i64 0)]) (bytes := 8) (w := .i .i64 n) (ws := [.i .i64 n]) g hL0 hL hk (by omega) (by omega) rfl rfl rfl rfl rfl
  simpa [ints] using this
theorem GV.len {L k : Nat} {zs : List Int} (g : GV hp L 3 1 v k (ints zs)) : evP .e (.len false (.c v)) = some (.i .i64 (k : Int)) := by
  rcases g with ⟨rfl, rfl, -⟩ | ⟨b, blk, rfl, -⟩
  · rfl
  · simp [evP, ev_len, opd, mkI_eq]
theorem range_snoc {α : Type} (f : Nat → α) (n : Nat) : (List.range (n + 1)).map f = (List.range n).map f ++ [f n] := by simp [List.range_succ]
end
end Go.Proofs.Ytnalgdobglfndaa.T

/- Can, Guess and Loss: the program's and the reference's. -/
open Go.Vm
set_option linter.unusedVariables false
namespace Go.Proofs.Ytnalgdobglfndaa.T
open Go

/-- what Can answers -/
def canR (k : Int) (z : List Int) : Int × Int := if goalP k z then (if 0 ≤ roomO z k.toNat 0 then (1, 0) else (0, 0)) else (0, 2)
/-- the node at which some nights lead, from the first one on -/
def nodeI (z : List Int) : Nat → Nat
  | 0 => 0
  | t + 1 => 2 * nodeI z t + (if z.getD t 0 = 1 then 1 else 0)
/-- what Guess answers -/
def guessR (k : Int) (z y : List Int) : AVal :=
  if ¬ goalP k z then .tup [rV 0 0, .i .i64 2] else if ¬ ((y.length : Int) < k) ∨ ¬ bitsP y then .tup [rV 0 0, .i .i64 2] else if ¬ 0 ≤ roomO z k.toNat 0 then .tup [rV 0 0, .i .i64 10] else
  .tup [ratV (guessO z (k.toNat - y.length - 1) (nodeI y y.length)).toNat (60 * 2 ^ (k.toNat - y.length)), .i .i64 0]
theorem guessO_rng (z : List Int) (j i : Nat) : 0 ≤ guessO z j i ∧ guessO z j i ≤ ((60 * 2 ^ (j + 1) : Nat) : Int) := by
  have e : ((60 * 2 ^ (j + 1) : Nat) : Int) = 60 * 2 ^ (j + 1) := by simp
  rw [e]
  have : (0 : Int) < 2 ^ (j + 1) := Int.pow_pos (by decide)
  unfold guessO; omega
section
variable {ro : List ABlk} {h hp : Heap} {a b c v : AVal} {x : List (List Int)} {z y : List Int}

theorem sub_all {k : Int} (hg : goalP k z) (hb : IsRow ro h b z) (hc : CapO b) : IsSub ro h b z k.toNat 0 := by
  refine ⟨?_, hc⟩
  rw [subL_all hg.2.2.1]; exact hb

theorem Can_ok {k : Int} (hb : IsRow ro h b z) (hc : CapO b) (hz : z.length ≤ 9223372036854775807) : callX F1 ro 29 [.i .i64 k, b] h = some (.tup [.i .i64 (canR k z).1, .i .i64 (canR k z).2], h, h.length, h.length) := by
  refine g29_ok (meansX_ok F1 ro) rfl ?_
  unfold g29
  simp only [meansX_call, cp0 (isGoal_ok (k := k) hb hz), bindP_some, asB_b, forceB_eq]
  by_cases hg : goalP k z
  · have hr := room_ok (ro := ro) (h := h) (small_of hg) k.toNat (by have := hg.2.1; omega) 0 b (sub_all hg hb hc)
    simp only [dT hg, Bool.not_true, cond_false, cp0 hr, bindP_some, asI_i, ltI_eq, canR, if_pos hg]
    by_cases h0 : 0 ≤ roomO z k.toNat 0
    · simp only [dF (show ¬ roomO z k.toNat 0 < 0 by omega), cond_false, if_pos h0, tupA]; exact fin_pure rfl
    · simp only [dT (show roomO z k.toNat 0 < 0 by omega), cond_true, if_neg h0, tupA]; exact fin_pure rfl
  · simp only [dF hg, Bool.not_false, cond_true, canR, if_neg hg, tupA]; exact fin_pure rfl
/-- the end of a call that answers a ratio, kept in a cell: h0 the heap, with the cell -/
theorem endR {h0 : Heap} (hc : Holds h0 h.length [(AVal.i IntKind.i64 0), (AVal.i IntKind.i64 0)]) (kp : Keep h h0) {u : AVal} {e n d : Int} (hu : u = rV n d) :
    (bindP (stepM ro ⟨h0, h.length, h.length⟩ (.st 2 (.c (.p (some ⟨false, h.length, 0⟩))) (.c u))) fun vn m_4 => bindO (ldM ro m_4 false 2 (.p (some ⟨false, h.length, 0⟩))) fun vr => finM h.length (tupA [vr, (.i .i64 e)]) m_4) = some (.tup [u, .i .i64 e], h, h.length, h.length) := by
  obtain ⟨hp', h1, h2, h3, h4, h5⟩ := put2 (ro := ro) (h := h) hc rfl (Nat.le_refl _) kp hu
  simp only [h1, bindP_some, h2, bindO_some, tupA]
  exact fin_keep h5 (by subst hu; rfl)
abbrev cell0 (h : Heap) : Heap := h ++ [some (blkOf 42 [(AVal.i IntKind.i64 0), (AVal.i IntKind.i64 0)])]
theorem cell0_keep (h : Heap) : Keep h (cell0 h) := Keep.app _
theorem cell0_holds (h : Heap) : Holds (cell0 h) h.length [(AVal.i IntKind.i64 0), (AVal.i IntKind.i64 0)] := Holds.new h 42 _
theorem cpc {f : Nat} {a : List AVal} {u : AVal} (e : callX F1 ro f a (cell0 h) = some (u, cell0 h, (cell0 h).length, (cell0 h).length)) : callM (callX F1 ro) ⟨cell0 h, h.length, h.length⟩ f a = some (u, ⟨cell0 h, h.length, h.length⟩) := cp e (by simp) (by simp)

theorem bit_nat {n : Int} (h : bitP n) : n = (((if n = 1 then 1 else 0 : Nat)) : Int) ∧ (if n = 1 then 1 else 0 : Nat) < 2 := by
  rcases h with e | e <;> subst e <;> exact ⟨rfl, by decide⟩

theorem Guess_ok {k : Int} (hb : IsRow ro h b z) (hc : CapO b) (hz : z.length ≤ 9223372036854775807) (hy : IsRow ro h c y) (hyl : y.length ≤ 9223372036854775807) : callX F1 ro 31 [.i .i64 k, b, c] h = some (guessR k z y, h, h.length, h.length) := by
  refine g31_ok (meansX_ok F1 ro) rfl ?_
  unfold g31
  rw [al_ok]
  have hb1 := row_by hb (cell0_keep h)
  have hy1 := row_by hy (cell0_keep h)
  simp only [bindP_some, meansX_call, cpc (Can_ok (k := k) hb1 hc hz), ext0, ext1, bindO_some, asI_i, forceB_eq, eqI_eq]
  by_cases hg : goalP k z
  case neg =>
    have e2 : (canR k z).2 = 2 := by unfold canR; rw [if_neg hg]
    simp only [e2, show (!((2 : Int) == 0)) = true from rfl, cond_true, fill0, bindO_some, endR (cell0_holds h) (cell0_keep h) (u := rV 0 0) rfl]
    unfold guessR; rw [if_pos hg]
  have e : (!((canR k z).2 == 0)) = false := by unfold canR; rw [if_pos hg]; split <;> rfl
  simp only [e, cond_false, len_row hy, bindO_some, asI_i, ltI_eq]
  by_cases hlen : (y.length : Int) < k
  case neg =>
    simp only [dF hlen, Bool.not_false, cond_true, bindO_some, fill0, endR (cell0_holds h) (cell0_keep h) (u := rV 0 0) rfl]
    unfold guessR; rw [if_neg (by simpa using hg), if_pos (.inl hlen)]
  simp only [dT hlen, Bool.not_true, cond_false, cpc (areBits_ok (n := (y.length : Int)) hy1 hyl), bindP_some, asB_b]
  by_cases hbit : bitsP y
  case neg =>
    simp only [dF (show ¬ rowP y (y.length : Int) from fun hh => hbit hh.1), Bool.not_false, bindO_some, cond_true, fill0, endR (cell0_holds h) (cell0_keep h) (u := rV 0 0) rfl]
    unfold guessR; rw [if_neg (by simpa using hg), if_pos (.inr hbit)]
  simp only [dT (show rowP y (y.length : Int) from ⟨hbit, rfl⟩), Bool.not_true, bindO_some, cond_false]
  have hno : ¬ (¬ ((y.length : Int) < k) ∨ ¬ bitsP y) := by rintro (hh | hh) <;> contradiction
  by_cases hr : 0 ≤ roomO z k.toNat 0
  case neg =>
    have e3 : ((canR k z).1 == 0) = true := by unfold canR; rw [if_pos hg, if_neg hr]; rfl
    simp only [e3, cond_true, fill0, bindO_some, endR (cell0_holds h) (cell0_keep h) (u := rV 0 0) rfl]
    unfold guessR; rw [if_neg (by simpa using hg), if_neg hno, if_pos (by simpa using hr)]
  have e3 : ((canR k z).1 == 0) = false := by unfold canR; rw [if_pos hg, if_pos hr]; rfl
  simp only [e3, cond_false, meansX_loop]
  obtain ⟨K, rfl⟩ : ∃ K : Nat, k = (K : Int) := ⟨k.toNat, by have := hg.1; omega⟩
  have hK : K ≤ 10 := by have := hg.2.1; omega
  have hs := small_of hg
  obtain ⟨v', m', hrun, rfl, hsub⟩ := loop_all3 (b := fun s : AVal × Int × Mm => g31_b1 (meansX F1 ro) ro (.p (some ⟨false, h.length, 0⟩)) c (y.length : Int) s.1 s.2.1 s.2.2) y.length
    (fun t u m => m = ⟨cell0 h, h.length, h.length⟩ ∧ IsSub ro (cell0 h) u z (K - t) (nodeI y t))
    (fun t u m ht hI => by
      obtain ⟨rfl, hsub⟩ := hI
      obtain ⟨p, h1, h2, -⟩ := at_row (m := ⟨cell0 h, h.length, h.length⟩) rfl hy1 ht
      have hb2 := bit_nat (hbit t ht)
      rw [show K - t = (K - (t + 1)) + 1 by omega] at hsub
      obtain ⟨u', c1, s1⟩ := after_ok (n := if y.getD t 0 = 1 then 1 else 0) (by omega) hsub hb2.2
      rw [← hb2.1] at c1
      refine ⟨u', ⟨cell0 h, h.length, h.length⟩, ?_, rfl, s1⟩
      simp only [g31_b1, forceB_eq, ltI_eq, lt_yes ht, cond_true, h1, h2, bindO_some, asI_i, meansX_call, cpc c1, bindP_some, forceI_eq]
      rw [wr_next (by omega)])
    (fun u m hI => by simp only [g31_b1, forceB_eq, ltI_eq, lt_no, cond_false]) y.length 0 b ⟨cell0 h, h.length, h.length⟩ (by omega) ⟨rfl, by have := sub_all hg hb1 hc; simpa [nodeI] using this⟩
  have e0 : ((0 : Nat) : Int) = 0 := rfl
  rw [e0] at hrun
  obtain ⟨j, hj⟩ : ∃ j, K - y.length = j + 1 := ⟨K - y.length - 1, by omega⟩
  rw [hj] at hsub
  have hgu := guess_ok (ro := ro) hs (by omega) hsub
  obtain ⟨g1, g2⟩ := guessO_rng z j (nodeI y y.length)
  have hpj := pow_small (show j + 1 ≤ 10 by omega)
  have hlow := lowest_ok (ro := ro) (h := cell0 h) (n := (guessO z j (nodeI y y.length)).toNat) (d := 60 * 2 ^ (j + 1)) (by have := Nat.two_pow_pos (j + 1); omega) (by omega) (by omega)
  rw [Int.toNat_of_nonneg g1] at hlow
  simp only [hrun, bindO_some, cpc hgu, bindP_some, ext0, ext1, asI_i, cpc hlow, endR (cell0_holds h) (cell0_keep h) (u := ratV (guessO z j (nodeI y y.length)).toNat (60 * 2 ^ (j + 1))) rfl]
  unfold guessR
  rw [if_neg (by simpa using hg), if_neg hno, if_neg (by simpa using hr), Int.toNat_natCast, hj, Nat.add_sub_cancel]

end
end Go.Proofs.Ytnalgdobglfndaa.T

/- The law that compares Can, Guess and Loss. -/
open Go.Vm
set_option linter.unusedVariables false
namespace Go.Proofs.Ytnalgdobglfndaa.T
open Go

section
variable {ro : List ABlk} {h hp : Heap} {a b c v : AVal} {x : List (List Int)} {z y : List Int}

end
end Go.Proofs.Ytnalgdobglfndaa.T

/- Goals whose means are near: room, guess and loss are known; the law about Cover's theorem. -/
open Go.Vm
set_option linter.unusedVariables false
namespace Go.Proofs.Ytnalgdobglfndaa.T
open Go

def nearJ (z : List Int) (j i : Nat) : Prop := sumO z j (2 * i) - sumO z j (2 * i + 1) ≤ 60 * 2 ^ j ∧ sumO z j (2 * i + 1) - sumO z j (2 * i) ≤ 60 * 2 ^ j
instance (z : List Int) (j i : Nat) : Decidable (nearJ z j i) := inferInstanceAs (Decidable (_ ∧ _))
def nearL (z : List Int) (k j : Nat) : Prop := ∀ i, i < 2 ^ (k - 1 - j) → nearJ z j i
instance (z : List Int) (k j : Nat) : Decidable (nearL z k j) := inferInstanceAs (Decidable (∀ i, i < 2 ^ (k - 1 - j) → nearJ z j i))
def nearP (z : List Int) (k : Nat) : Prop := ∀ j, j < k → nearL z k j
instance (z : List Int) (k : Nat) : Decidable (nearP z k) := inferInstanceAs (Decidable (∀ j, j < k → nearL z k j))

theorem sumT_half (z : List Int) (j i : Nat) : ∀ t, sumT z (j + 1) i t = sumT z j (2 * i) t
  | 0 => rfl
  | t + 1 => by
    simp only [sumT, sumT_half z j i t]
    rw [Nat.pow_succ, show i * (2 ^ j * 2) = 2 * i * 2 ^ j by rw [Nat.mul_comm (2 ^ j) 2, ← Nat.mul_assoc, Nat.mul_comm i 2]]
theorem sumT_half2 (z : List Int) (j i : Nat) : ∀ t, sumT z (j + 1) i (2 ^ j + t) = sumT z j (2 * i) (2 ^ j) + sumT z j (2 * i + 1) t
  | 0 => by rw [Nat.add_zero, sumT_half]; simp [sumT]
  | t + 1 => by
    rw [← Nat.add_assoc]
    simp only [sumT, sumT_half2 z j i t]
    have : i * 2 ^ (j + 1) + (2 ^ j + t) = (2 * i + 1) * 2 ^ j + t := by
      rw [Nat.pow_succ, Nat.add_mul, Nat.one_mul, show i * (2 ^ j * 2) = 2 * i * 2 ^ j by rw [Nat.mul_comm (2 ^ j) 2, ← Nat.mul_assoc, Nat.mul_comm i 2]]; omega
    rw [this]; omega
/-- a part's sum is that of its halves -/
theorem sumO_split (z : List Int) (j i : Nat) : sumO z (j + 1) i = sumO z j (2 * i) + sumO z j (2 * i + 1) := by
  unfold sumO
  rw [show 2 ^ (j + 1) = 2 ^ j + 2 ^ j by rw [Nat.pow_succ]; omega, sumT_half2]
theorem pow_s (j : Nat) : (2 : Int) ^ (j + 1) = 2 * 2 ^ j := by rw [Int.pow_succ]; omega
theorem jp (j : Nat) : (30 * ((j + 1 : Nat) : Int)) * 2 ^ (j + 1) = 2 * (30 * (j : Int) * 2 ^ j) + 60 * 2 ^ j := by
  rw [pow_s]
  have : ((j + 1 : Nat) : Int) = (j : Int) + 1 := by omega
  rw [this, Int.mul_add, Int.add_mul]
  have e1 : (30 * (j : Int)) * (2 * 2 ^ j) = 2 * (30 * (j : Int) * 2 ^ j) := Int.mul_left_comm _ _ _
  rw [e1]
  have e2 : (30 * 1 : Int) * (2 * 2 ^ j) = 60 * 2 ^ j := by omega
  rw [e2]
theorem room_near {z : List Int} {k : Nat} (hn : nearP z k) : ∀ j, j ≤ k → ∀ i, i < 2 ^ (k - j) → roomO z j i = sumO z j i - 30 * (j : Int) * 2 ^ j
  | 0, _, i, _ => by
    have : sumO z 0 i = z.getD i 0 := by simp [sumO, sumT]
    rw [this]; simp [roomO]
  | j + 1, hj, i, hi => by
    have hp : 2 ^ (k - j) = 2 * 2 ^ (k - (j + 1)) := by rw [← Nat.pow_succ']; congr 1; omega
    have h1 := room_near hn j (by omega) (2 * i) (by omega)
    have h2 := room_near hn j (by omega) (2 * i + 1) (by omega)
    have h3 := jp j
    have h4 := sumO_split z j i
    have h5 := hn j (by omega) i (by rw [show k - 1 - j = k - (j + 1) by omega]; exact hi)
    unfold nearJ at h5
    simp only [roomO]
    omega
section
variable {ro : List ABlk} {h hp : Heap} {a b c v : AVal} {x : List (List Int)} {z y : List Int}

end
end Go.Proofs.Ytnalgdobglfndaa.T

/- Lists of rows that a function makes by append; a row cut; rows of an argument with their room. -/
open Go.Vm
set_option linter.unusedVariables false
namespace Go.Proofs.Ytnalgdobglfndaa.T
open Go

section
variable {ro : List ABlk} {h hp hp' : Heap} {a b v : AVal} {x : List (List Int)} {z : List Int}

/-- the block of a slice -/
def bno : AVal → Option Nat
  | .sl q _ _ => some q.b
  | _ => none
theorem GV.bno {L e es k : Nat} {cs : List AVal} (g : GV hp L e es v k cs) : ∀ i, T.bno v = some i → L ≤ i ∧ i < hp.length := by
  intro i hi
  rcases g with ⟨rfl, -⟩ | ⟨b, blk, rfl, h2, h3, h4, h5⟩
  · cases hi
  · cases hi
    exact ⟨h3, lget_lt h4⟩
/-- one more, from any memory: only the list's own block goes -/
theorem GV.pushS {L0 P0 L e es bytes k : Nat} {z : List AVal} {v w : AVal} {cs ws : List AVal} (g : GV hp L e es v k cs) (hL : L ≤ hp.length) (hk : k ≤ 100000) (hb : bytes ≤ 1000) (hes : 0 < es) (hz : z.length = es) (hw : w.cells = ws) (hwl : ws.length = es) (ho : ones ws = true) (hsp : splice z 0 ws = ws) :
    ∃ v2 hp2 v3 hp3 l3 p3 b3, stepM ro ⟨hp, L0, P0⟩ (.bsl e es z 1 [((0, es), .c w)]) = some (v2, ⟨hp2, L0, P0⟩) ∧ stepM ro ⟨hp2, L0, P0⟩ (.app e es bytes z (.c v) (.c v2)) = some (v3, ⟨hp3, l3, p3⟩) ∧
      GV hp3 L e es v3 (k + 1) (cs ++ ws) ∧ T.bno v3 = some b3 ∧ hp.length ≤ b3 ∧ hp.length ≤ hp3.length ∧ (∀ i, i < hp.length → T.bno v ≠ some i → hp3[i]? = hp[i]?) ∧ (L ≤ L0 → L ≤ l3) ∧ l3 ≤ L0 ∧ (L ≤ P0 → L ≤ p3) ∧ p3 ≤ P0 := by
  have s1 : stepM ro ⟨hp, L0, P0⟩ (.bsl e es z 1 [((0, es), .c w)]) = some (.sl ⟨false, hp.length, 0⟩ 1 (.known 1), ⟨hp ++ [some (blkOf e ws)], L0, P0⟩) := by
    simp [stepM, stepK, st_bsl, rep, fillA, opd, hw, hwl, hz, hsp, newB, St.mm]
  have src : app_src ro (hp ++ [some (blkOf e ws)]) es (.sl ⟨false, hp.length, 0⟩ 1 (.known 1)) = some (ws, 1) := by
    have hbq : rdB ro (hp ++ [some (blkOf e ws)]) ⟨false, hp.length, 0⟩ = some (blkOf e ws) := by simp [rdB, lget_eq]
    have hg : (blkOf e ws).c.row 0 es = ws := row_row es 0 ws hwl fun j hj => by rw [Nat.zero_add, get_blk]
    have hble : Nat.ble (0 + 1 * es) (blkOf e ws).n = true := by rw [Nat.ble_eq]; show 0 + 1 * es ≤ ws.length; omega
    simp only [app_src, hbq, hble, cond_true]
    rw [show 1 * es = es by omega, hg]
  rcases g with ⟨rfl, rfl, rfl⟩ | ⟨b, blk, rfl, hpos, hLb, hbk, hbe, hcl, hbn, hrows⟩
  · refine ⟨_, _, .sl ⟨false, hp.length + 1, 0⟩ 1 .grow, hp ++ [some (blkOf e ws)] ++ [some (blkOf e ws)], L0, P0, hp.length + 1, s1, ?_, .inr ⟨hp.length + 1, blkOf e ws, rfl, by omega, by omega, ?_, rfl, by simp; omega, by show 1 * es ≤ ws.length; omega, fun j hj => ?_⟩, rfl, by omega, by simp, fun i hi _ => ?_, fun h => h, Nat.le_refl _, fun h => h, Nat.le_refl _⟩
    · have hb1 : Nat.beq 1 0 = false := rfl
      simp only [stepM, stepK, opd, st_app, src, hb1, cond_false, fits_small (by omega : 1 ≤ 1000000) hb, cond_true, newB, St.mm, List.length_append, List.length_cons, List.length_nil, Nat.zero_add]
    · have := lget_last (hp ++ [some (blkOf e ws)]) (some (blkOf e ws))
      rwa [List.length_append, List.length_singleton] at this
    · rw [get_blk]; simp
    · rw [List.append_assoc, List.getElem?_append_left (by omega)]
  · obtain ⟨hp2, e2⟩ : ∃ hp2, hp2 = hp ++ [some (blkOf e ws)] := ⟨_, rfl⟩
    rw [← e2] at src s1
    have hlt : b < hp.length := lget_lt hbk
    have hb2 : lget hp2 b = some (some blk) := by rw [e2]; exact lget_ext hbk _
    have hlen2 : hp2.length = hp.length + 1 := by rw [e2]; simp
    have hrow : blk.c.row 0 (k * es) = cs := row_row (k * es) 0 cs hcl fun j hj => by rw [Nat.zero_add]; exact hrows j hj
    have hke : 0 < k * es := Nat.mul_pos hpos hes
    refine ⟨_, _, .sl ⟨false, hp2.length, 0⟩ (k + 1) .grow, lset none hp2 b ++ [some (blkOf e (cs ++ ws))], min L0 b, min P0 b, hp2.length, s1, ?_, .inr ⟨hp2.length, blkOf e (cs ++ ws), rfl, by omega, by omega, ?_, rfl, ?_, ?_, fun j hj => ?_⟩, rfl, by omega, ?_, fun i hi hne => ?_, fun h => by omega, Nat.min_le_left _ _, fun h => by omega, Nat.min_le_left _ _⟩
    · have h1 : (Nat.beq blk.e e && Nat.ble (k * es) blk.n && fits (k + 1) bytes && ones ws) = true := by
        rw [hbe, fits_small (by omega : k + 1 ≤ 1000000) hb]
        simp [ho, Nat.ble_eq]; omega
      have h2 : (false || !Nat.beq 0 0 || Nat.beq 1 0) = false := rfl
      have h3 : Nat.blt 0 blk.n = true := by rw [Nat.blt_eq]; omega
      simp only [stepM, stepK, opd, st_app, src, app_grow, h2, cond_false, hb2, h1, h3, Bool.and_self, cond_true, St.mm, hrow]
    · rw [lget_eq, lset_eq, List.getElem?_append_right (by simp)]
      simp
    · rw [List.length_append, hcl, hwl, Nat.add_mul]; omega
    · show (k + 1) * es ≤ (cs ++ ws).length
      rw [List.length_append, hcl, hwl, Nat.add_mul]; omega
    · rw [get_blk]
    · simp [lset_eq]; omega
    · have hib : b ≠ i := fun e => hne (by rw [e]; rfl)
      rw [lset_eq, List.getElem?_append_left (by simp; omega), List.getElem?_set_ne hib, e2, List.getElem?_append_left (by omega)]
end
end Go.Proofs.Ytnalgdobglfndaa.T

/- Series and walks: what fewer foretellers, one alone, and two that always differ come to. -/
open Go.Vm
set_option linter.unusedVariables false
namespace Go.Proofs.Ytnalgdobglfndaa.T
open Go

end Go.Proofs.Ytnalgdobglfndaa.T

/- The law about walks. -/
open Go.Vm
set_option linter.unusedVariables false
namespace Go.Proofs.Ytnalgdobglfndaa.T
open Go

section
variable {ro : List ABlk} {h hp hp' : Heap} {a b v : AVal} {x : List (List Int)} {z : List Int}

theorem keep0 (hp : Heap) : Keep [] hp := ⟨Nat.zero_le _, fun i hi => absurd hi (Nat.not_lt_zero _)⟩
end
end Go.Proofs.Ytnalgdobglfndaa.T

/- The law about walks: the function. -/
open Go.Vm
set_option linter.unusedVariables false
namespace Go.Proofs.Ytnalgdobglfndaa.T
open Go

section
variable {ro : List ABlk} {h hp hp' : Heap} {a b v : AVal} {x : List (List Int)} {z : List Int}

/-- a new cell for a ratio, written -/
theorem new_rat {n d : Int} (hp : Heap) : ∃ hp', stepM ro ⟨hp ++ [some (blkOf 42 [(AVal.i IntKind.i64 0), (AVal.i IntKind.i64 0)])], 0, 0⟩ (.st 2 (.c (.p (some ⟨false, hp.length, 0⟩))) (.c (rV n d))) = some (und, ⟨hp', 0, 0⟩) ∧ Holds hp' hp.length [.i .i64 n, .i .i64 d] ∧ Keep hp hp' := by
  obtain ⟨hp', h1, h2, h3, h4, h5⟩ := (Holds.new hp 42 [(AVal.i IntKind.i64 0), (AVal.i IntKind.i64 0)]).st (ro := ro) (h := []) (vs' := [.i .i64 n, .i .i64 d]) (v := rV n d) (n := 2) rfl rfl rfl rfl (Nat.zero_le _) (keep0 _)
  exact ⟨hp', h1, h2, keep_o (Keep.app _) (Nat.le_refl _) h3 h4⟩
theorem regV_said {K N : Nat} (hs : saidP (K : Int) (N : Int) x) : regV x (K : Int) (N : Int) = .tup [rV ((((K * 2 ^ (K - 1) - bestSum x K N) / Nat.gcd (K * 2 ^ (K - 1) - bestSum x K N) (2 ^ K) : Nat)) : Int) (((2 ^ K / Nat.gcd (K * 2 ^ (K - 1) - bestSum x K N) (2 ^ K) : Nat)) : Int), .i .i64 0] := by
  unfold regV; rw [if_pos hs]; rfl
/-- a ratio over 2^K: its parts -/
theorem rat_parts {T K : Nat} (hK : K ≤ 10) (hT : T ≤ 5120) : 1 ≤ 2 ^ K / Nat.gcd T (2 ^ K) ∧ 2 ^ K / Nat.gcd T (2 ^ K) ≤ 1024 ∧ T / Nat.gcd T (2 ^ K) ≤ 5120 := by
  have hpk := pow_small hK
  have hD : 0 < 2 ^ K := Nat.two_pow_pos K
  have hg0 : 0 < Nat.gcd T (2 ^ K) := Nat.gcd_pos_of_pos_right _ hD
  exact ⟨Nat.div_pos (Nat.le_of_dvd hD (Nat.gcd_dvd_right _ _)) hg0, Nat.le_trans (Nat.div_le_self _ _) hpk, Nat.le_trans (Nat.div_le_self _ _) hT⟩
theorem half_pow {K : Nat} (hK : K ≤ 10) : K * 2 ^ (K - 1) ≤ 5120 ∧ 2 * (K * 2 ^ (K - 1)) = K * 2 ^ K := by
  by_cases h0 : K = 0
  · subst h0; simp
  · have h1 : (2 : Nat) ^ (K - 1) ≤ 2 ^ 9 := Nat.pow_le_pow_right (by decide) (by omega)
    have h2 : 2 ^ K = 2 * 2 ^ (K - 1) := by rw [← Nat.pow_succ']; congr 1; omega
    refine ⟨Nat.le_trans (Nat.mul_le_mul hK h1) (by decide), by rw [h2, Nat.mul_left_comm]⟩
end
end Go.Proofs.Ytnalgdobglfndaa.T

/- Steps through a function; a list of bytes. -/
open Go.Vm
set_option linter.unusedVariables false
namespace Go.Proofs.Ytnalgdobglfndaa.T
open Go

section
variable {ro : List ABlk} {h hp : Heap} {a b u v v0 : AVal} {x : List (List Int)} {z y row w : List Int}
theorem cond_of {β : Type} {c : Bool} {A B : Option β} (h : c = false) : cond c A B = B := by rw [h]; rfl
theorem bindP_of {β : Type} {o : Option (AVal × Mm)} {v : AVal} {m : Mm} {f : AVal → Mm → Option β} (h : o = some (v, m)) : bindP o f = f v m := by rw [h]; rfl
theorem bindO_of {α β : Type} {o : Option α} {v : α} {f : α → Option β} (h : o = some v) : bindO o f = f v := by rw [h]; rfl
theorem asB_of {β : Type} {c : Bool} {k : Bool → Option β} : asB (.b c) k = k c := rfl
theorem asI_of {β : Type} {n : Int} {k : Int → Option β} : asI .i64 (.i .i64 n) k = k n := rfl
theorem forceB_of {β : Type} {c : Bool} {k : Bool → Option β} : forceB c k = k c := forceB_eq ..
theorem condT_of {β : Type} {c : Bool} {A B : Option β} (h : c = true) : cond c A B = A := by rw [h]; rfl
theorem len_rowU {k : IntKind} (hr : IsRowK k ro h v z) : evP .e (.len false (.c v)) = some (.i .i64 z.length) := by
  rcases hr with ⟨rfl, rfl⟩ | ⟨q, cap, blk, rfl, -⟩
  · rfl
  · simp [evP, ev_len, opd, mkI_eq]
theorem at_rowU {k : IntKind} (hr : IsRowK k ro h v z) {i : Nat} (hi : i < z.length) : ∃ p, evP .e (.ixS 1 (.c v) (.c (.i .i64 (i : Int)))) = some p ∧ ∀ {hp : Heap} {l q : Nat}, Keep h hp → ldM ro ⟨hp, l, q⟩ true 1 p = some (.i k (z.getD i 0)) := by
  rcases hr with ⟨rfl, rfl⟩ | ⟨q, cap, blk, rfl, hb, hn, hc⟩
  · simp at hi
  · refine ⟨_, ixS_eq hi, fun {hp l q'} kk => ?_⟩
    have hb' : rdB ro hp q = some blk := by rw [take_eq kk.1 kk.2]; exact rdB_ext _ hb
    have h1 := rd_one (i := i) hb' (by omega)
    rw [hc i hi] at h1
    exact h1
end
end Go.Proofs.Ytnalgdobglfndaa.T

/- Goals made of the best expert's mistakes: their means are near (for the law LuckGoal). -/
open Go.Vm
set_option linter.unusedVariables false
namespace Go.Proofs.Ytnalgdobglfndaa.T
open Go

theorem digit_same {i t j q : Nat} (ht : t < 2 ^ j) (hq : q ≠ j) : (2 * i * 2 ^ j + t) / 2 ^ q % 2 = ((2 * i + 1) * 2 ^ j + t) / 2 ^ q % 2 := by
  have hq0 := Nat.two_pow_pos q
  by_cases hlt : q < j
  · have e : 2 ^ j = 2 ^ q * (2 * 2 ^ (j - q - 1)) := by rw [← Nat.pow_succ', ← Nat.pow_add]; congr 1; omega
    have e2 : (2 * i + 1) * 2 ^ j + t = (2 * i * 2 ^ j + t) + 2 ^ q * (2 * 2 ^ (j - q - 1)) := by rw [Nat.add_mul, Nat.one_mul, ← e]; omega
    rw [e2, Nat.add_mul_div_left _ _ hq0]
    omega
  · have e : 2 ^ q = 2 ^ (j + 1) * 2 ^ (q - j - 1) := by rw [← Nat.pow_add]; congr 1; omega
    have hj0 := Nat.two_pow_pos (j + 1)
    have e1 : (2 * i * 2 ^ j + t) / 2 ^ (j + 1) = i := by
      have : 2 * i * 2 ^ j + t = t + 2 ^ (j + 1) * i := by rw [Nat.pow_succ, Nat.mul_comm 2 i, Nat.mul_assoc, Nat.mul_comm (2 ^ j) 2, Nat.mul_comm (2 * 2 ^ j) i]; omega
      rw [this, Nat.add_mul_div_left _ _ hj0, Nat.div_eq_of_lt (by rw [Nat.pow_succ]; omega), Nat.zero_add]
    have e2 : ((2 * i + 1) * 2 ^ j + t) / 2 ^ (j + 1) = i := by
      have : (2 * i + 1) * 2 ^ j + t = (2 ^ j + t) + 2 ^ (j + 1) * i := by rw [Nat.pow_succ, Nat.add_mul, Nat.one_mul, Nat.mul_comm 2 i, Nat.mul_assoc, Nat.mul_comm (2 ^ j) 2, Nat.mul_comm (2 * 2 ^ j) i]; omega
      rw [this, Nat.add_mul_div_left _ _ hj0, Nat.div_eq_of_lt (by rw [Nat.pow_succ]; omega), Nat.zero_add]
    rw [e, ← Nat.div_div_eq_div_mul, ← Nat.div_div_eq_div_mul, e1, e2]
theorem wrong_flip {x : List (List Int)} {f s s' k p : Nat} (hp : p < k) (h : ∀ q, q ≠ p → s / 2 ^ q % 2 = s' / 2 ^ q % 2) : ∀ j, j ≤ k → wrongN x f s k j ≤ wrongN x f s' k j + (if k - 1 - p < j then 1 else 0)
  | 0, _ => by simp [wrongN]
  | j + 1, hj => by
    have ih := wrong_flip (x := x) (f := f) hp h j (by omega)
    simp only [wrongN]
    by_cases e : k - 1 - j = p
    · have h1 : ¬ k - 1 - p < j := by omega
      rw [if_neg h1] at ih
      rw [if_pos (show k - 1 - p < j + 1 by omega)]
      split <;> split <;> omega
    · rw [h _ e]
      have h2 : (if k - 1 - p < j then 1 else 0) ≤ (if k - 1 - p < j + 1 then 1 else 0) := by split <;> split <;> omega
      omega
theorem minN_flip {w w' : Nat → Nat} {d : Nat} (h : ∀ f, w f ≤ w' f + 1) : ∀ n, minN w d n ≤ minN w' d n + 1
  | 0 => by simp [minN]
  | n + 1 => by
    have h1 := minN_flip (d := d) h n
    have h2 := h n
    simp only [minN]; omega
theorem best_flip {x : List (List Int)} {k n s s' p : Nat} (hp : p < k) (h : ∀ q, q ≠ p → s / 2 ^ q % 2 = s' / 2 ^ q % 2) : best x k n s ≤ best x k n s' + 1 :=
  minN_flip (fun f => by
    have := wrong_flip (x := x) (f := f) hp h k (Nat.le_refl _)
    split at this <;> omega) n
/-- neighbours differ by at most 60 -/
theorem goal_near {x : List (List Int)} {z : List Int} {k n : Nat} {r : Int} (hz : ∀ s, s < 2 ^ k → z.getD s 0 = 60 * ((best x k n s : Nat) : Int) + r) : nearP z k := by
  intro j hj i hi
  have hkk : 2 ^ k = 2 ^ (k - 1 - j) * (2 * 2 ^ j) := by rw [← Nat.pow_succ', ← Nat.pow_add]; congr 1; omega
  have hub : (i + 1) * (2 * 2 ^ j) ≤ 2 ^ k := by rw [hkk]; exact Nat.mul_le_mul_right _ hi
  have hi1 : (i + 1) * (2 * 2 ^ j) = i * (2 * 2 ^ j) + 2 * 2 ^ j := Nat.succ_mul _ _
  have q0 : 2 * i * 2 ^ j = i * (2 * 2 ^ j) := by rw [Nat.mul_comm 2 i, Nat.mul_assoc]
  have q1 : (2 * i + 1) * 2 ^ j = i * (2 * 2 ^ j) + 2 ^ j := by rw [Nat.add_mul, q0, Nat.one_mul]
  have key : ∀ t, t ≤ 2 ^ j → sumT z j (2 * i) t - sumT z j (2 * i + 1) t ≤ 60 * (t : Int) ∧ sumT z j (2 * i + 1) t - sumT z j (2 * i) t ≤ 60 * (t : Int) := by
    intro t
    induction t with
    | zero => intro _; simp [sumT]
    | succ t ih =>
      intro ht
      obtain ⟨h1, h2⟩ := ih (by omega)
      have b1 := best_flip (x := x) (n := n) hj (fun q hq => digit_same (i := i) (t := t) (show t < 2 ^ j by omega) hq)
      have b2 := best_flip (x := x) (n := n) hj (fun q hq => (digit_same (i := i) (t := t) (show t < 2 ^ j by omega) hq).symm)
      have z1 := hz (2 * i * 2 ^ j + t) (by omega)
      have z2 := hz ((2 * i + 1) * 2 ^ j + t) (by omega)
      simp only [sumT, z1, z2]
      omega
  have h := key (2 ^ j) (Nat.le_refl _)
  unfold nearJ sumO
  have : ((2 ^ j : Nat) : Int) = 2 ^ j := by simp
  rw [this] at h
  exact h
/-- their sum -/
theorem goal_sum {x : List (List Int)} {z : List Int} {k n : Nat} {r : Int} (hz : ∀ s, s < 2 ^ k → z.getD s 0 = 60 * ((best x k n s : Nat) : Int) + r) : sumO z k 0 = 60 * ((bestSum x k n : Nat) : Int) + 2 ^ k * r := by
  have key : ∀ t, t ≤ 2 ^ k → sumT z k 0 t = 60 * ((sumN (best x k n) t : Nat) : Int) + t * r := by
    intro t
    induction t with
    | zero => intro _; simp [sumT, sumN]
    | succ t ih =>
      intro ht
      have z1 := hz t (by omega)
      simp only [sumT, sumN, ih (by omega), Nat.zero_mul, Nat.zero_add, z1]
      have : ((t + 1 : Nat) : Int) * r = t * r + r := by rw [Int.natCast_add, Int.add_mul]; simp
      rw [this]; omega
  have h := key (2 ^ k) (Nat.le_refl _)
  have : ((2 ^ k : Nat) : Int) = 2 ^ k := by simp
  rw [this] at h
  exact h
end Go.Proofs.Ytnalgdobglfndaa.T

/- The law about goals that a number of experts sets. -/
open Go.Vm
set_option linter.unusedVariables false
namespace Go.Proofs.Ytnalgdobglfndaa.T
open Go

section
variable {ro : List ABlk} {h hp : Heap} {a b u v v0 : AVal} {x : List (List Int)} {z y row w : List Int}

theorem GV.cap {L e es k : Nat} {cs : List AVal} (g : GV hp L e es v k cs) : CapO v := by
  rcases g with ⟨rfl, -⟩ | ⟨b, blk, rfl, -⟩
  · intro q n c e; cases e
  · intro q n c e; cases e
theorem nblt (n : Nat) : (!Nat.blt n n) = true := by
  have : Nat.blt n n = false := by rw [Bool.eq_false_iff]; simp [Nat.blt_eq]
  rw [this]; rfl
def goalV (x : List (List Int)) (K N R : Nat) (s : Nat) : Int := min ((60 * K : Nat) : Int) ((60 * best x K N s + R : Nat) : Int)
theorem goal_loop {K N N0 D0 R : Nat} {hp1 : Heap} {v9 : AVal} (hv9 : v9 = .p (some ⟨false, 0, 0⟩)) (ha : IsMat ro [] a x) (hK1 : 1 ≤ K) (hK : K ≤ 10) (hmat : matP x K N) (hN : N ≤ 20) (d1 : Holds hp1 0 [.i .i64 (N0 : Int), .i .i64 (D0 : Int)]) (hN0 : N0 ≤ 5120) (hD0 : 1 ≤ D0) (hR : R = 60 * N0 / D0) (hR2 : R ≤ 307200) :
    ∃ v hp, loopX (fun s : AVal × Int × Mm => g14_b4 (meansX F1 ro) ro (K : Int) (N : Int) a b v9 s.1 s.2.1 s.2.2) (.nsl, 0, (⟨hp1, 0, 0⟩ : Mm)) = some (v, (⟨hp, 0, 0⟩ : Mm)) ∧
      Keep hp1 hp ∧ IsRow ro hp v ((List.range (2 ^ K)).map (goalV x K N R)) ∧ CapO v := by
  subst hv9
  have hpk := pow_small hK
  have hL := d1.lt
  obtain ⟨v1, m1, hrun1, hp2, rfl, k2, -, g2⟩ := loop_all3 (b := fun s : AVal × Int × Mm => g14_b4 (meansX F1 ro) ro (K : Int) (N : Int) a b (.p (some ⟨false, 0, 0⟩)) s.1 s.2.1 s.2.2) (2 ^ K)
    (fun i v m => ∃ hp, m = ⟨hp, 0, 0⟩ ∧ Keep hp1 hp ∧ Holds hp 0 [.i .i64 (N0 : Int), .i .i64 (D0 : Int)] ∧ GV hp hp1.length 3 1 v i (ints ((List.range i).map (goalV x K N R))))
    (fun i v m hi hI => by
      obtain ⟨hp, rfl, kp, dd, g⟩ := hI
      have f1 := dd.oneA (ro := ro) (k := 0) (by simp)
      have f2 := dd.oneA (ro := ro) (k := 1) (by simp)
      simp only [Nat.zero_add, List.getD_cons_zero, List.getD_cons_succ] at f1 f2
      have cB := cp (F := F1) (l := hp.length) (p := hp.length) (BestOf_ok (ro := ro) (h := hp) (s := i) hK1 hK hmat hN (mat_by ha (keep0 hp))) (Nat.le_refl _) (Nat.le_refl _)
      have hb10 := best_small x (k := K) (n := N) hK i
      have w1 : Go.Vm.wr .i64 (60 * (K : Int)) = ((60 * K : Nat) : Int) := by rw [wr_id' (by omega) (by omega)]; omega
      have w2 : Go.Vm.wr .i64 (60 * ((best x K N i : Nat) : Int)) = ((60 * best x K N i : Nat) : Int) := by rw [wr_id' (by omega) (by omega)]; omega
      have w3 : Go.Vm.wr .i64 (60 * (N0 : Int)) = ((60 * N0 : Nat) : Int) := by rw [wr_id' (by omega) (by omega)]; omega
      have w4 : Go.Vm.wr .i64 (Int.tdiv ((60 * N0 : Nat) : Int) (D0 : Int)) = (R : Int) := by
        have : Int.tdiv ((60 * N0 : Nat) : Int) (D0 : Int) = ((60 * N0 / D0 : Nat) : Int) := tdiv_nat _ _
        rw [this, ← hR, wr_nat (by omega)]
      have w5 : Go.Vm.wr .i64 (((60 * best x K N i : Nat) : Int) + (R : Int)) = ((60 * best x K N i + R : Nat) : Int) := by rw [wr_id' (by omega) (by omega)]; omega
      have c0 : (!((D0 : Int) == Int.ofNat 0)) = true := by simp only [Bool.not_eq_true', beq_eq_false_iff_ne]; show ¬ _ = (0 : Int); omega
      have hbase : Mm.base ⟨hp, 0, 0⟩ = (⟨hp, hp.length, hp.length⟩ : Mm) := rfl
      obtain ⟨v2, hpa, v3, hp4, l3, p3, b3, s1, s2, g3, hb3, hb3l, hl3, ho3, -, -, -, -⟩ := g.pushS (ro := ro) (L0 := hp.length) (P0 := hp.length) (bytes := 8) (z := [(AVal.i IntKind.i64 0)]) (w := .i .i64 (goalV x K N R i)) (ws := [.i .i64 (goalV x K N R i)]) kp.1 (by omega) (by decide) (by decide) rfl rfl rfl rfl rfl
      have hjoin : Mm.join ⟨hp, 0, 0⟩ ⟨hp4, l3, p3⟩ = (⟨hp4, 0, 0⟩ : Mm) := by simp [Mm.join]
      have hgb := g.bno
      have hl1 := kp.1
      have he : ints ((List.range i).map (goalV x K N R)) ++ [.i .i64 (goalV x K N R i)] = ints ((List.range (i + 1)).map (goalV x K N R)) := by rw [range_snoc]; simp [ints]
      rw [he] at g3
      have emx : min ((60 * K : Nat) : Int) ((60 * best x K N i + R : Nat) : Int) = goalV x K N R i := rfl
      refine ⟨v3, ⟨hp4, 0, 0⟩, ?_, hp4, rfl, ⟨by omega, fun j hj => ?_⟩, dd.keep (ho3 0 (by omega) fun hb => by have := hgb 0 hb; omega), g3⟩
      · simp only [g14_b4, ltI_eq, nneg, chk_true, forceI_eq, shl_nat K (by omega), forceB_eq, lt_yes hi, cond_true, hbase, bindO_some, w1, meansX_call, cB, bindP_some, asI_i, nblt, w2, p_faddr, Nat.zero_add, f1, f2, w3, eqI_eq, c0, w4, w5, mxF_eq, emx, s1, s2, hjoin]
        rw [wr_next (by omega)]
      · rw [ho3 j (by omega) (fun hb => by have := hgb j hb; omega)]
        exact kp.2 j hj)
    (fun v m hI => by
      simp only [g14_b4, ltI_eq, nneg, chk_true, forceI_eq, shl_nat K (by omega), forceB_eq, lt_no, cond_false]) (2 ^ K) 0 .nsl ⟨hp1, 0, 0⟩ (by omega) ⟨hp1, rfl, Keep.refl _, d1, GV.nil _ _ _ _⟩
  have e0 : ((0 : Nat) : Int) = 0 := rfl
  rw [e0] at hrun1
  exact ⟨v1, hp2, hrun1, k2, g2.row (by simp), g2.cap⟩
/-- the nights, as digits -/
def nightV (y : List Int) (t : Nat) : Int := Int.tmod (y.getD t 0) 2
theorem night_loop {K N : Nat} {hp1 : Heap} {v9 v11 : AVal} (hy : IsRowK .u8 ro [] b y) (hyr : ∀ t, t < y.length → 0 ≤ y.getD t 0 ∧ y.getD t 0 < 65536) (hK1 : 1 ≤ K) (hK : K ≤ 10) :
    ∃ v hp, loopX (fun s : AVal × Int × Mm => g14_b5 (meansX F1 ro) ro (K : Int) (N : Int) a b v9 v11 s.1 s.2.1 s.2.2) (.nsl, 0, (⟨hp1, 0, 0⟩ : Mm)) = some (v, (⟨hp, 0, 0⟩ : Mm)) ∧
      Keep hp1 hp ∧ IsRow ro hp v ((List.range (min y.length (K - 1))).map (nightV y)) := by
  obtain ⟨M, hM⟩ : ∃ M, M = min y.length (K - 1) := ⟨_, rfl⟩
  rw [← hM]
  have hlen := len_rowU hy
  have wK : Go.Vm.wr .i64 ((K : Int) - 1) = ((K - 1 : Nat) : Int) := by rw [wr_id' (by omega) (by omega)]; omega
  obtain ⟨v1, m1, hrun1, hp2, rfl, k2, g2⟩ := loop_all3 (b := fun s : AVal × Int × Mm => g14_b5 (meansX F1 ro) ro (K : Int) (N : Int) a b v9 v11 s.1 s.2.1 s.2.2) M
    (fun i v m => ∃ hp, m = ⟨hp, 0, 0⟩ ∧ Keep hp1 hp ∧ GV hp hp1.length 3 1 v i (ints ((List.range i).map (nightV y))))
    (fun i v m hi hI => by
      obtain ⟨hp, rfl, kp, g⟩ := hI
      obtain ⟨p1, e1, eld⟩ := at_rowU hy (show i < y.length by omega)
      have e2 := eld (l := 0) (q := 0) (keep0 hp)
      have hyi := hyr i (by omega)
      have hm : 0 ≤ nightV y i ∧ nightV y i < 2 := by
        unfold nightV
        have : y.getD i 0 = (((y.getD i 0).toNat : Nat) : Int) := by omega
        rw [this]
        have e : Int.tmod (((y.getD i 0).toNat : Nat) : Int) 2 = (((y.getD i 0).toNat % 2 : Nat) : Int) := tmod_nat _ 2
        rw [e]; omega
      have w1 : Go.Vm.wr .i64 (Int.tmod (y.getD i 0) 2) = nightV y i := wr_id' (by show _ ≤ nightV y i; omega) (by show nightV y i ≤ _; omega)
      obtain ⟨v2, hp3, v3, hp4, s1, s2, g3, l3, o3⟩ := push1 (ro := ro) (L0 := 0) (n := nightV y i) g (Nat.zero_le _) kp.1 (by omega)
      have hl1 := kp.1
      refine ⟨v3, ⟨hp4, 0, 0⟩, ?_, hp4, rfl, ⟨by omega, fun j hj => by rw [o3 j hj]; exact kp.2 j hj⟩, by rw [range_snoc]; exact g3⟩
      simp only [g14_b5, hlen, bindO_some, asI_i, forceB_eq, ltI_eq, lt_yes (show i < y.length by omega), cond_true, forceI_eq, wK, lt_yes (show i < K - 1 by omega), e1, e2, w1, s1, bindP_some, s2]
      rw [wr_next (by omega)])
    (fun v m hI => by
      by_cases h1 : M < y.length
      · have h2 : ((K - 1 : Nat) : Int) = (M : Int) := by omega
        simp only [g14_b5, hlen, bindO_some, asI_i, forceB_eq, ltI_eq, lt_yes h1, cond_true, forceI_eq, wK, h2, lt_no, cond_false]
      · simp only [g14_b5, hlen, bindO_some, asI_i, forceB_eq, ltI_eq, dF (show ¬ (M : Int) < (y.length : Int) by omega), cond_false]) M 0 .nsl ⟨hp1, 0, 0⟩ (by omega) ⟨hp1, rfl, Keep.refl _, GV.nil _ _ _ _⟩
  have e0 : ((0 : Nat) : Int) = 0 := rfl
  rw [e0] at hrun1
  exact ⟨v1, hp2, hrun1, k2, g2.row (by simp)⟩
/-- whether one of the first t goals is cut -/
def capN (x : List (List Int)) (K N R : Nat) : Nat → Bool
  | 0 => false
  | t + 1 => capN x K N R t || decide (goalV x K N R t < ((60 * best x K N t + R : Nat) : Int))
theorem cap_no {x : List (List Int)} {K N R : Nat} : ∀ t, capN x K N R t = false → ∀ s, s < t → goalV x K N R s = ((60 * best x K N s + R : Nat) : Int)
  | 0, _, s, hs => by omega
  | t + 1, h, s, hs => by
    simp only [capN, Bool.or_eq_false_iff, decide_eq_false_iff_not] at h
    by_cases e : s = t
    · subst e
      have := h.2
      unfold goalV at this ⊢
      omega
    · exact cap_no t h.1 s (by omega)
theorem cap_loop {K N N0 D0 R : Nat} {x110 x109 : Int} {v9 v11 v13 : AVal} (hv9 : v9 = .p (some ⟨false, 0, 0⟩)) (ha : IsMat ro [] a x) (hK1 : 1 ≤ K) (hK : K ≤ 10) (hmat : matP x K N) (hN : N ≤ 20) (dd : Holds hp 0 [.i .i64 (N0 : Int), .i .i64 (D0 : Int)]) (hN0 : N0 ≤ 5120) (hD0 : 1 ≤ D0) (hR : R = 60 * N0 / D0) (hR2 : R ≤ 307200)
    (hz : IsRow ro hp v11 ((List.range (2 ^ K)).map (goalV x K N R))) :
    loopX (fun s : Bool × Int × Mm => g14_b7 (meansX F1 ro) ro (K : Int) (N : Int) a v9 x110 v11 v13 x109 s.1 s.2.1 s.2.2) (false, 0, (⟨hp, 0, 0⟩ : Mm)) = some (capN x K N R (2 ^ K), (⟨hp, 0, 0⟩ : Mm)) := by
  subst hv9
  have hpk := pow_small hK
  have hlen := len_row hz
  have hzl : ((List.range (2 ^ K)).map (goalV x K N R)).length = 2 ^ K := by simp
  rw [hzl] at hlen
  have f1 := dd.oneA (ro := ro) (k := 0) (by simp)
  have f2 := dd.oneA (ro := ro) (k := 1) (by simp)
  simp only [Nat.zero_add, List.getD_cons_zero, List.getD_cons_succ] at f1 f2
  have w3 : Go.Vm.wr .i64 (60 * (N0 : Int)) = ((60 * N0 : Nat) : Int) := by rw [wr_id' (by omega) (by omega)]; omega
  have w4 : Go.Vm.wr .i64 (Int.tdiv ((60 * N0 : Nat) : Int) (D0 : Int)) = (R : Int) := by
    have : Int.tdiv ((60 * N0 : Nat) : Int) (D0 : Int) = ((60 * N0 / D0 : Nat) : Int) := tdiv_nat _ _
    rw [this, ← hR, wr_nat (by omega)]
  have c0 : (!((D0 : Int) == Int.ofNat 0)) = true := by simp only [Bool.not_eq_true', beq_eq_false_iff_ne]; show ¬ _ = (0 : Int); omega
  have hbase : Mm.base ⟨hp, 0, 0⟩ = (⟨hp, hp.length, hp.length⟩ : Mm) := rfl
  have hjoin : Mm.join ⟨hp, 0, 0⟩ ⟨hp, hp.length, hp.length⟩ = (⟨hp, 0, 0⟩ : Mm) := by simp [Mm.join]
  have hloop := loop_run (b := fun s : Bool × Int × Mm => g14_b7 (meansX F1 ro) ro (K : Int) (N : Int) a (.p (some ⟨false, 0, 0⟩)) x110 v11 v13 x109 s.1 s.2.1 s.2.2) (fun t => (capN x K N R t, (t : Int), (⟨hp, 0, 0⟩ : Mm))) (2 ^ K) (r0 := (capN x K N R (2 ^ K), (⟨hp, 0, 0⟩ : Mm)))
    (by simp only [g14_b7, hlen, bindO_some, asI_i, forceB_eq, ltI_eq, lt_no, cond_false])
    (fun t ht => by
      obtain ⟨p1, e1, eld⟩ := at_rowK hz (show t < _ by rw [hzl]; exact ht)
      have e2 := (eld (l := 0) (q := 0) (Keep.refl hp)).2
      have eg : ((List.range (2 ^ K)).map (goalV x K N R)).getD t 0 = goalV x K N R t := by simp [List.getD, ht]
      rw [eg] at e2
      have cB := cp (F := F1) (l := hp.length) (p := hp.length) (BestOf_ok (ro := ro) (h := hp) (s := t) hK1 hK hmat hN (mat_by ha (keep0 hp))) (Nat.le_refl _) (Nat.le_refl _)
      have hb10 := best_small x (k := K) (n := N) hK t
      have w2 : Go.Vm.wr .i64 (60 * ((best x K N t : Nat) : Int)) = ((60 * best x K N t : Nat) : Int) := by rw [wr_id' (by omega) (by omega)]; omega
      have w5 : Go.Vm.wr .i64 (((60 * best x K N t : Nat) : Int) + (R : Int)) = ((60 * best x K N t + R : Nat) : Int) := by rw [wr_id' (by omega) (by omega)]; omega
      have ec : capN x K N R (t + 1) = (capN x K N R t || decide (goalV x K N R t < ((60 * best x K N t + R : Nat) : Int))) := rfl
      cases hc : capN x K N R t
      · simp only [g14_b7, hlen, bindO_some, asI_i, forceB_eq, ltI_eq, lt_yes ht, cond_true, cond_false, hbase, e1, e2, meansX_call, cB, bindP_some, nblt, chk_true, forceI_eq, w2, p_faddr, Nat.zero_add, f1, f2, w3, eqI_eq, c0, w4, w5, hjoin, ec, hc, Bool.false_or]
        rw [wr_next (by omega)]
      · simp only [g14_b7, hlen, bindO_some, asI_i, forceB_eq, ltI_eq, lt_yes ht, cond_true, hbase, hjoin, forceI_eq, ec, hc, Bool.true_or]
        rw [wr_next (by omega)])
  exact hloop
end
end Go.Proofs.Ytnalgdobglfndaa.T

/- The law about the goals of experts: the function. -/
open Go.Vm
set_option linter.unusedVariables false
namespace Go.Proofs.Ytnalgdobglfndaa.T
open Go

section
variable {ro : List ABlk} {h hp : Heap} {a b u v v0 : AVal} {x : List (List Int)} {z y row w : List Int}

theorem range_get0 {f : Nat → Int} {n j : Nat} (hj : j < n) : ((List.range n).map f).getD j 0 = f j := by simp [List.getD, hj]
theorem law14 {k n : Int} (ha : IsMat ro [] a x) (hf : Fits x) (hy : IsRowK .u8 ro [] b y) (hyr : ∀ t, t < y.length → 0 ≤ y.getD t 0 ∧ y.getD t 0 < 65536) : ∃ h' lw lp, callX F1 ro 14 [.i .i64 k, .i .i64 n, a, b] [] = some (.b true, h', lw, lp) := by
  have hfew := cp0 (few_ok ha (nil_row (ro := ro) []) hf.1)
  have hal := cp0 (F := F1) (alive_pure (ro := ro) (h := []))
  have hsa := cp0 (Said_ok (k := k) (n := n) ha hf.lens)
  simp only [List.length_nil] at hfew hal hsa
  have k0 : ∀ {l : Nat}, 0 ≤ l := Nat.zero_le _
  have i0 : (cond (!decide (few x [])) (some (true, (⟨[], 0, 0⟩ : Mm))) (bindP (callM (callX F1 ro) ⟨[], 0, 0⟩ 46 [(.i .i64 k), (.i .i64 n), a]) fun v27 m_3 => asB v27 fun c27 => forceB (!c27) fun c28 => some (c28, m_3))) = some (!(decide (few x []) && decide (saidP k n x)), (⟨[], 0, 0⟩ : Mm)) := by
    by_cases h1 : few x []
    · rw [dT h1]
      refine (cond_of rfl).trans ?_
      refine (bindP_of hsa).trans ?_
      refine asB_of.trans ?_
      refine forceB_of.trans ?_
      simp
    · rw [dF h1]; rfl
  by_cases hgo : few x [] ∧ saidP k n x
  case neg =>
    refine ⟨[], 0, 0, g14_ok (meansX_ok F1 ro) rfl ?_⟩
    unfold g14
    refine (bindP_of hfew).trans ?_
    refine asB_of.trans ?_
    refine forceB_of.trans ?_
    refine (bindO_of i0).trans ?_
    refine (condT_of (show (!(decide (few x []) && decide (saidP k n x))) = true by
      by_cases h1 : few x []
      · have h2 : ¬ saidP k n x := fun hh => hgo ⟨h1, hh⟩
        simp [h2]
      · simp [h1])).trans ?_
    refine (bindP_of hal).trans ?_
    exact fin_pure (h := []) rfl
  obtain ⟨hw, hsd⟩ := hgo
  rw [show (!(decide (few x []) && decide (saidP k n x))) = false by rw [dT hw, dT hsd]; rfl] at i0
  obtain ⟨hk1, hk10, hn1, hn20, hmat⟩ := id hsd
  obtain ⟨K, rfl⟩ : ∃ K : Nat, k = (K : Int) := ⟨k.toNat, by omega⟩
  obtain ⟨N, rfl⟩ : ∃ N : Nat, n = (N : Int) := ⟨n.toNat, by omega⟩
  have hK : K ≤ 10 := by omega
  have hK1 : 1 ≤ K := by omega
  have hN0 : 0 < N := by omega
  have hN20 : N ≤ 20 := by omega
  have hpk := pow_small hK
  have hpk0 := Nat.two_pow_pos K
  obtain ⟨hhp, hh2⟩ := half_pow hK
  obtain ⟨T0, hT0⟩ : ∃ T0, T0 = K * 2 ^ (K - 1) - bestSum x K N := ⟨_, rfl⟩
  have hbl := bestSum_le (show K < 11 by omega) hmat hN0
  have c1 := cp0 (Regret_ok (k := (K : Int)) (n := (N : Int)) ha hf.lens)
  rw [regV_said hsd, ← hT0] at c1
  obtain ⟨pd0, pd0', pn0⟩ := rat_parts (T := T0) hK (by omega)
  have hg0 : 0 < Nat.gcd T0 (2 ^ K) := Nat.gcd_pos_of_pos_right _ hpk0
  have hNg := Nat.div_mul_cancel (Nat.gcd_dvd_left T0 (2 ^ K))
  have hDg := Nat.div_mul_cancel (Nat.gcd_dvd_right T0 (2 ^ K))
  generalize T0 / Nat.gcd T0 (2 ^ K) = N0 at *
  generalize 2 ^ K / Nat.gcd T0 (2 ^ K) = D0 at *
  obtain ⟨hp1, s1, d1, k1⟩ := new_rat (ro := ro) (n := (N0 : Int)) (d := (D0 : Int)) []
  have s0 : stepM ro ⟨[], 0, 0⟩ (.al 42 [(AVal.i IntKind.i64 0), (AVal.i IntKind.i64 0)]) = some (.p (some ⟨false, 0, 0⟩), ⟨[] ++ [some (blkOf 42 [(AVal.i IntKind.i64 0), (AVal.i IntKind.i64 0)])], 0, 0⟩) := rfl
  simp only [List.length_nil] at s1 d1 c1
  have f1 := d1.one (ro := ro) (l := 0) (p := 0) (k := 0) (by simp)
  have f2 := d1.one (ro := ro) (l := 0) (p := 0) (k := 1) (by simp)
  simp only [Nat.zero_add, List.getD_cons_zero, List.getD_cons_succ] at f1 f2
  have w3 : Go.Vm.wr .i64 (60 * (N0 : Int)) = ((60 * N0 : Nat) : Int) := by rw [wr_id' (by omega) (by omega)]; omega
  have c0 : (!((D0 : Int) == Int.ofNat 0)) = true := by simp only [Bool.not_eq_true', beq_eq_false_iff_ne]; show ¬ _ = (0 : Int); omega
  have wm : Int.tmod ((60 * N0 : Nat) : Int) (D0 : Int) = ((60 * N0 % D0 : Nat) : Int) := tmod_nat _ _
  have i1 : (cond (!eqI (0 : Int) 0) (some true) (bindO (evP .e (.faddr 1 (.c (.p (some ⟨false, 0, 0⟩))))) fun v41 => bindO (ldM ro ⟨hp1, 0, 0⟩ true 1 v41) fun v42 => asI .i64 v42 fun x42 => forceB (ltI x42 1) fun c43 => some c43)) = some false := by
    have : ltI (D0 : Int) 1 = false := by rw [ltI_eq]; exact dF (by omega)
    refine (cond_of rfl).trans ?_
    simp only [p_faddr, Nat.zero_add, bindO_some, f2, asI_i, this, forceB_eq]
  have i2 : (cond false (some true) (bindO (evP .e (.faddr 0 (.c (.p (some ⟨false, 0, 0⟩))))) fun v46 => bindO (ldM ro ⟨hp1, 0, 0⟩ true 1 v46) fun v47 => asI .i64 v47 fun x47 => forceI (Go.Vm.wr .i64 (60 * x47)) fun x48 => bindO (evP .e (.faddr 1 (.c (.p (some ⟨false, 0, 0⟩))))) fun v49 => bindO (ldM ro ⟨hp1, 0, 0⟩ true 1 v49) fun v50 => asI .i64 v50 fun x50 => chk (!eqI x50 (.ofNat 0)) <| forceI (Int.tmod x48 x50) fun x51 => forceB (!eqI x51 0) fun c52 => some c52)) = some (!((((60 * N0 % D0 : Nat)) : Int) == 0)) := by
    refine (cond_of rfl).trans ?_
    simp only [p_faddr, Nat.zero_add, bindO_some, f1, f2, asI_i, forceI_eq, w3, eqI_eq, c0, chk_true, wm, forceB_eq]
  by_cases hdv : 60 * N0 % D0 = 0
  case neg =>
    have hdb : (!((((60 * N0 % D0 : Nat)) : Int) == 0)) = true := by simp only [Bool.not_eq_true', beq_eq_false_iff_ne]; omega
    rw [hdb] at i2
    have hal1 := cp (F := F1) (l := 0) (p := 0) (alive_pure (ro := ro) (h := hp1)) k0 k0
    have fin1 : (bindP (callM (callX F1 ro) ⟨hp1, 0, 0⟩ 16 []) fun v57 m_9 => asB v57 fun c57 => some (c57, m_9)) = some (true, (⟨hp1, 0, 0⟩ : Mm)) := (bindP_of hal1).trans rfl
    refine ⟨hp1.take 0, 0, 0, g14_ok (meansX_ok F1 ro) rfl ?_⟩
    unfold g14
    refine (bindP_of hfew).trans ?_
    refine asB_of.trans ?_
    refine forceB_of.trans ?_
    refine (bindO_of i0).trans ?_
    refine (cond_of rfl).trans ?_
    refine (bindP_of c1).trans ?_
    refine (bindO_of (ext0 _ _)).trans ?_
    refine (bindO_of (ext1 _ _ _)).trans ?_
    refine asI_of.trans ?_
    refine (bindP_of s0).trans ?_
    refine (bindP_of s1).trans ?_
    refine forceB_of.trans ?_
    refine (bindO_of i1).trans ?_
    refine (bindO_of i2).trans ?_
    refine (condT_of rfl).trans ?_
    refine forceB_of.trans ?_
    refine (bindO_of ((condT_of rfl).trans fin1)).trans ?_
    exact fin_take (L := 0) rfl
  rw [show (!((((60 * N0 % D0 : Nat)) : Int) == 0)) = false by rw [hdv]; rfl] at i2
  obtain ⟨R, hR⟩ : ∃ R, R = 60 * N0 / D0 := ⟨_, rfl⟩
  have hR2 : R ≤ 307200 := by rw [hR]; exact Nat.le_trans (Nat.div_le_self _ _) (by omega)
  have hRD : R * D0 = 60 * N0 := by rw [hR]; exact Nat.div_mul_cancel (Nat.dvd_of_mod_eq_zero hdv)
  obtain ⟨v11, hp2, hrun1, k2, rz, cz⟩ := goal_loop (b := b) (v9 := .p (some ⟨false, 0, 0⟩)) rfl ha hK1 hK hmat hN20 d1 pn0 pd0 hR hR2
  obtain ⟨v13, hp3, hrun2, k3, ry⟩ := night_loop (a := a) (N := N) (hp1 := hp2) (v9 := .p (some ⟨false, 0, 0⟩)) (v11 := v11) hy hyr hK1 hK
  obtain ⟨z, ez⟩ : ∃ z, z = (List.range (2 ^ K)).map (goalV x K N R) := ⟨_, rfl⟩
  obtain ⟨q, eq⟩ : ∃ q, q = (List.range (min y.length (K - 1))).map (nightV y) := ⟨_, rfl⟩
  have rz3 := row_by rz k3
  have dd3 := (d1.by k2).by k3
  have hrun3 := fun x110 x109 => cap_loop (x110 := x110) (x109 := x109) (v9 := .p (some ⟨false, 0, 0⟩)) (v13 := v13) rfl ha hK1 hK hmat hN20 dd3 pn0 pd0 hR hR2 rz3
  rw [← ez] at rz3
  rw [← eq] at ry
  have hzl : z.length = 2 ^ K := by rw [ez]; simp
  have hql : q.length = min y.length (K - 1) := by rw [eq]; simp
  have hzg : ∀ s, s < 2 ^ K → z.getD s 0 = goalV x K N R s := fun s hs => by rw [ez]; simp [List.getD, hs]
  have hgoal : goalP (K : Int) z := ⟨by omega, by omega, by rw [hzl]; rfl, fun j hj => by rw [hzg j (by omega)]; unfold goalV; omega⟩
  have hqb : bitsP q := fun j hj => by
    have hj' : j < min y.length (K - 1) := by omega
    have : q.getD j 0 = nightV y j := by rw [eq]; exact range_get0 hj'
    rw [this]
    have hyj := hyr j (by omega)
    unfold nightV bitP
    have e1 : y.getD j 0 = (((y.getD j 0).toNat : Nat) : Int) := by omega
    rw [e1]
    have e : Int.tmod (((y.getD j 0).toNat : Nat) : Int) 2 = (((y.getD j 0).toNat % 2 : Nat) : Int) := tmod_nat _ 2
    rw [e]; omega
  have hz' : z.length ≤ 9223372036854775807 := by omega
  have hq' : q.length ≤ 9223372036854775807 := by omega
  have cC := cp (F := F1) (l := 0) (p := 0) (Can_ok (k := (K : Int)) rz3 cz hz') k0 k0
  have cG := cp (F := F1) (l := 0) (p := 0) (Guess_ok (k := (K : Int)) rz3 cz hz' ry hq') k0 k0
  have eC : canR (K : Int) z = (if 0 ≤ roomO z K 0 then (1, 0) else (0, 0)) := by unfold canR; rw [if_pos hgoal, Int.toNat_natCast]
  -- without a cut the means are near, and it can be kept
  have hun : capN x K N R (2 ^ K) = false → 0 ≤ roomO z K 0 := fun hc => by
    have hzs : ∀ s, s < 2 ^ K → z.getD s 0 = 60 * ((best x K N s : Nat) : Int) + (R : Int) := fun s hs => by
      rw [hzg s hs, cap_no _ hc s hs]; omega
    have hnear := goal_near hzs
    rw [room_near hnear K (Nat.le_refl _) 0 (by simp), goal_sum hzs]
    have e1 : (2 : Int) ^ K * (R : Int) = ((2 ^ K * R : Nat) : Int) := by simp
    have e2 : 30 * (K : Int) * 2 ^ K = ((30 * K * 2 ^ K : Nat) : Int) := by simp
    rw [e1, e2]
    have e3 : 2 ^ K * R = 60 * T0 := by
      obtain ⟨g, eg⟩ : ∃ g, g = Nat.gcd T0 (2 ^ K) := ⟨_, rfl⟩
      rw [← eg] at hNg hDg
      have : D0 * g * R = 60 * (N0 * g) := by rw [Nat.mul_right_comm, Nat.mul_comm D0 R, hRD, Nat.mul_assoc]
      rw [hDg, hNg] at this
      exact this
    have e4 : 30 * K * 2 ^ K = 60 * (K * 2 ^ (K - 1)) := by
      have : 30 * K * 2 ^ K = 30 * (K * 2 ^ K) := Nat.mul_assoc _ _ _
      rw [this, ← hh2]; omega
    rw [e3, e4]
    omega
  have hng : ¬ (¬ ((q.length : Int) < (K : Int)) ∨ ¬ bitsP q) := by
    rintro (h1 | h1)
    · omega
    · exact h1 hqb
  -- the guess
  have xb : ∀ (P Q E : Int), ∃ hp4, stepM ro ⟨hp3 ++ [some (blkOf 42 [(AVal.i IntKind.i64 0), (AVal.i IntKind.i64 0)])], 0, 0⟩ (.st 2 (.c (.p (some ⟨false, hp3.length, 0⟩))) (.c (rV P Q))) = some (und, ⟨hp4, 0, 0⟩) ∧ Holds hp4 hp3.length [.i .i64 P, .i .i64 Q] := fun P Q E => by
    obtain ⟨hp4, q1, q2, -⟩ := new_rat (ro := ro) (n := P) (d := Q) hp3
    exact ⟨hp4, q1, q2⟩
  have s3 : stepM ro ⟨hp3, 0, 0⟩ (.al 42 [(AVal.i IntKind.i64 0), (AVal.i IntKind.i64 0)]) = some (.p (some ⟨false, hp3.length, 0⟩), ⟨hp3 ++ [some (blkOf 42 [(AVal.i IntKind.i64 0), (AVal.i IntKind.i64 0)])], 0, 0⟩) := rfl
  obtain ⟨C, P, Q, E, hC, hGv, hcase⟩ : ∃ C P Q E : Int, canR (K : Int) z = (C, 0) ∧ guessR (K : Int) z q = .tup [rV P Q, .i .i64 E] ∧ ((C = 0 ∧ E = 10 ∧ capN x K N R (2 ^ K) = true) ∨ (C = 1 ∧ E = 0 ∧ 0 < Q ∧ 0 ≤ P ∧ P ≤ Q)) := by
    by_cases hr : 0 ≤ roomO z K 0
    · obtain ⟨j, hj⟩ : ∃ j, j = K - q.length := ⟨_, rfl⟩
      have hj1 : 1 ≤ j := by omega
      have hgr := guessO_rng z (j - 1) (nodeI q q.length)
      have hjj : j - 1 + 1 = j := by omega
      rw [hjj] at hgr
      obtain ⟨G, hG⟩ : ∃ G, G = (guessO z (j - 1) (nodeI q q.length)).toNat := ⟨_, rfl⟩
      have hGl : G ≤ 60 * 2 ^ j := by omega
      have hD : 0 < 60 * 2 ^ j := by have := Nat.two_pow_pos j; omega
      have hg1 : 0 < Nat.gcd G (60 * 2 ^ j) := Nat.gcd_pos_of_pos_right _ hD
      have hd1 := Nat.div_pos (Nat.le_of_dvd hD (Nat.gcd_dvd_right G (60 * 2 ^ j))) hg1
      have hd2 : G / Nat.gcd G (60 * 2 ^ j) ≤ 60 * 2 ^ j / Nat.gcd G (60 * 2 ^ j) := Nat.div_le_div_right hGl
      refine ⟨1, ((G / Nat.gcd G (60 * 2 ^ j) : Nat) : Int), ((60 * 2 ^ j / Nat.gcd G (60 * 2 ^ j) : Nat) : Int), 0, by rw [eC, if_pos hr], ?_, .inr ⟨rfl, rfl, Int.natCast_pos.2 hd1, Int.natCast_nonneg _, Int.ofNat_le.2 hd2⟩⟩
      unfold guessR
      rw [if_neg (by simpa using hgoal), if_neg hng, if_neg (by rw [Int.toNat_natCast]; simpa using hr), Int.toNat_natCast, ← hj, ← hG]
      rfl
    · refine ⟨0, 0, 0, 10, by rw [eC, if_neg hr], ?_, .inl ⟨rfl, rfl, ?_⟩⟩
      · unfold guessR
        rw [if_neg (by simpa using hgoal), if_neg hng, if_pos (by rw [Int.toNat_natCast]; exact hr)]
      · cases hc : capN x K N R (2 ^ K)
        · exact absurd (hun hc) hr
        · rfl
  rw [hC] at cC
  rw [hGv] at cG
  obtain ⟨hp4, s4, d4⟩ := xb P Q E
  have hal4 := cp (F := F1) (l := 0) (p := 0) (alive_pure (ro := ro) (h := hp4)) k0 k0
  have fin4 : (bindP (callM (callX F1 ro) ⟨hp4, 0, 0⟩ 16 []) fun v57 m_9 => asB v57 fun c57 => some (c57, m_9)) = some (true, (⟨hp4, 0, 0⟩ : Mm)) := (bindP_of hal4).trans rfl
  have g0 := d4.one (ro := ro) (l := 0) (p := 0) (k := 0) (by simp)
  have g1 := d4.one (ro := ro) (l := 0) (p := 0) (k := 1) (by simp)
  simp only [Nat.zero_add, List.getD_cons_zero, List.getD_cons_succ] at g0 g1
  obtain ⟨cap, ecap⟩ : ∃ cap, cap = capN x K N R (2 ^ K) := ⟨_, rfl⟩
  rw [← ecap] at hcase
  have hrun3' := hrun3 0 C
  rw [← ecap] at hrun3'
  have j1 : (cond (!eqI (0 : Int) 0) (some true) (forceB (!cap) fun c149 => bindO (cond c149 (forceB (!eqI C 1) fun c152 => some c152) (some false)) fun c154_1 => some c154_1)) = some false := by
    rcases hcase with ⟨rfl, -, h⟩ | ⟨rfl, -⟩
    · rw [h]; rfl
    · cases cap <;> rfl
  have j2 : (bindO (cond (eqI C 0) (forceB (eqI E 10) fun c159 => some c159) (some false)) fun c160 => some c160) = some (decide (C = 0)) := by
    rcases hcase with ⟨rfl, rfl, -⟩ | ⟨rfl, rfl, -⟩ <;> rfl
  have j2' : (cond (eqI C 0) (forceB (eqI E 10) fun c159 => some c159) (some false)) = some (decide (C = 0)) := by
    rcases hcase with ⟨rfl, rfl, -⟩ | ⟨rfl, rfl, -⟩ <;> rfl
  have j3 : (cond (decide (C = 0)) (some true) (forceB (eqI C 1) fun c163 =>
          bindO (cond c163 (
            forceB (eqI E 0) fun c166 =>
            bindO (cond c166 (
              bindO (evP .e (.faddr 1 (.c (.p (some ⟨false, hp3.length, 0⟩))))) fun v169 =>
              bindO (ldM ro ⟨hp4, 0, 0⟩ true 1 v169) fun v170 =>
              asI .i64 v170 fun x170 =>
              forceB (ltI 0 x170) fun c171 =>
              bindO (cond c171 (
                bindO (evP .e (.faddr 0 (.c (.p (some ⟨false, hp3.length, 0⟩))))) fun v174 =>
                bindO (ldM ro ⟨hp4, 0, 0⟩ true 1 v174) fun v175 =>
                asI .i64 v175 fun x175 =>
                forceB (!ltI x175 0) fun c176 =>
                bindO (cond c176 (
                  bindO (evP .e (.faddr 0 (.c (.p (some ⟨false, hp3.length, 0⟩))))) fun v179 =>
                  bindO (ldM ro ⟨hp4, 0, 0⟩ true 1 v179) fun v180 =>
                  asI .i64 v180 fun x180 =>
                  bindO (evP .e (.faddr 1 (.c (.p (some ⟨false, hp3.length, 0⟩))))) fun v181 =>
                  bindO (ldM ro ⟨hp4, 0, 0⟩ true 1 v181) fun v182 =>
                  asI .i64 v182 fun x182 =>
                  forceB (!ltI x182 x180) fun c183 =>
                  some c183) (
                  some false)) fun c185_4 =>
                some c185_4) (
                some false)) fun c185_3 =>
              some c185_3) (
              some false)) fun c185_2 =>
            some c185_2) (
            some false)) fun c185_1 =>
          some c185_1)) = some true := by
    rcases hcase with ⟨rfl, rfl, -⟩ | ⟨rfl, rfl, h1, h2, h3⟩
    · rfl
    · have t1 : decide ((1 : Int) = 0) = false := rfl
      have t2 : eqI (1 : Int) 1 = true := rfl
      have t3 : eqI (0 : Int) 0 = true := rfl
      have t4 : ltI 0 Q = true := by rw [ltI_eq]; exact dT h1
      have t5 : (!ltI P 0) = true := by rw [ltI_eq, dF (by omega)]; rfl
      have t6 : (!ltI Q P) = true := by rw [ltI_eq, dF (by omega)]; rfl
      rw [t1]
      simp only [cond_false, t2, t3, forceB_eq, cond_true, p_faddr, Nat.zero_add, bindO_some, g0, g1, asI_i, t4, t5, t6]
  refine ⟨hp4.take 0, 0, 0, g14_ok (meansX_ok F1 ro) rfl ?_⟩
  unfold g14
  refine (bindP_of hfew).trans ?_
  refine asB_of.trans ?_
  refine forceB_of.trans ?_
  refine (bindO_of i0).trans ?_
  refine (cond_of rfl).trans ?_
  refine (bindP_of c1).trans ?_
  refine (bindO_of (ext0 _ _)).trans ?_
  refine (bindO_of (ext1 _ _ _)).trans ?_
  refine asI_of.trans ?_
  refine (bindP_of s0).trans ?_
  refine (bindP_of s1).trans ?_
  refine forceB_of.trans ?_
  refine (bindO_of i1).trans ?_
  refine (bindO_of i2).trans ?_
  refine (cond_of rfl).trans ?_
  refine (bindO_of hrun1).trans ?_
  refine (bindO_of hrun2).trans ?_
  refine (bindP_of cC).trans ?_
  refine (bindO_of (ext0 _ _)).trans ?_
  refine asI_of.trans ?_
  refine (bindO_of (ext1 _ _ _)).trans ?_
  refine asI_of.trans ?_
  refine (bindO_of hrun3').trans ?_
  refine (bindP_of cG).trans ?_
  refine (bindO_of (ext0 _ _)).trans ?_
  refine (bindO_of (ext1 _ _ _)).trans ?_
  refine asI_of.trans ?_
  refine (bindP_of s3).trans ?_
  refine (bindP_of s4).trans ?_
  refine forceB_of.trans ?_
  refine (bindO_of j1).trans ?_
  refine (cond_of rfl).trans ?_
  refine forceB_of.trans ?_
  refine (bindO_of j2').trans ?_
  refine (bindO_of j3).trans ?_
  refine (bindO_of ((condT_of rfl).trans fin4)).trans ?_
  exact fin_take (L := 0) rfl
end
end Go.Proofs.Ytnalgdobglfndaa.T

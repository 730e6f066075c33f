/- Contracts of the functions: what each of them answers. -/
import Derived.Test.YtnalgdobglfndaaVmFO
import Derived.Test.YtnalgdobglfndaaVmGt
import Derived.Test.YtnalgdobglfndaaVmAE
import Derived.Test.YtnalgdobglfndaaVmAF
import Derived.Test.YtnalgdobglfndaaRows
import Derived.WalkKit
import Derived.ProofKit
import Derived.OpenShut
import Derived.Carry
import Derived.Deep.Matrix
import Derived.Deep.Slices
/- From the small machine to the statement: lists of numbers and lists of such lists, in memory that is only read. -/
open Go.Vm
set_option linter.unusedVariables false
namespace Go.Proofs.Ytnalgdobglfndaa.T
open Go Go.RowKit Go.Deep Go.WideShapes Go.ChangeShapes

/-- what every list of lists is -/
def Fits (rows : List (List Int)) : Prop := rows.length ≤ 9223372036854775807 ∧ ∀ z ∈ rows, z.length ≤ 9223372036854775807 ∧ ∀ n ∈ z, inI64 n
abbrev F1 : Tab := ⟨F, known0 16 (.b true)⟩
def IsRowK (k : IntKind) (ro : List ABlk) (h : Heap) (v : AVal) (z : List Int) : Prop :=
  (v = .nsl ∧ z = []) ∨ ∃ q cap blk, v = .sl q z.length cap ∧ rdB ro h q = some blk ∧ q.off + z.length ≤ blk.n ∧ ∀ j, j < z.length → blk.c.get (q.off + j) = .i k (z.getD j 0)

/-- what is read in the world of a list of lists: the value, the rows -/
structure OpenM (W : World) (v0 : Value) (rows : List (List Int)) : Prop where
  o : (v0 = .slice none 0 0 ∧ rows = []) ∨ ∃ (a : Addr) (cap : Nat) (A : Nat → Option Addr) (L C : Nat → Nat) (Z : Nat → List Int), v0 = .slice (some a) rows.length cap ∧
    rows.length ≤ cap ∧ rows = (List.range rows.length).map (fun r => (Z r).take (L r)) ∧
    ∀ r, r < cap → a.block < W.heap.size ∧ W.cell? (a.add r) = some (.slice (A r) (L r) (C r)) ∧ L r ≤ C r ∧ (Z r).length = C r ∧ (A r = none → C r = 0) ∧
      ∀ x, A r = some x → ∀ c, c < C r → x.block < W.heap.size ∧ W.cell? (x.add c) = some (.int .i64 ((Z r).getD c 0))
  fits : Fits rows


/-- what is read in the world of a list of numbers -/
structure OpenK (k : IntKind) (W : World) (v0 : Value) (z : List Int) : Prop where
  o : (v0 = .slice none 0 0 ∧ z = []) ∨ ∃ (a : Addr) (cap : Nat) (Z : List Int), v0 = .slice (some a) z.length cap ∧ z.length ≤ cap ∧ Z.length = cap ∧ z = Z.take z.length ∧ ∀ i, i < cap → a.block < W.heap.size ∧ W.cell? (a.add i) = some (.int k (Z.getD i 0))
  len_le : z.length ≤ 9223372036854775807
  z : ∀ n ∈ z, (Lit.int k n).wf = true

theorem cells23 : Try.prog.cellsOf 23 = 1 := by kernel_rfl
theorem cells3 : Try.prog.cellsOf 3 = 1 := by kernel_rfl
theorem cells5 : Try.prog.cellsOf 5 = 1 := by kernel_rfl
theorem laidOut : laidOutB Try.prog = true := by kernel_rfl
theorem own : ownKnob Try.prog.godebug = none := by kernel_rfl

section
variable {H : Type} {enc : TypeId × Value → H} {W : World} {v0 : Value} {d : DataW H} {p : List MemPlace}
theorem opened_bytes (hs : ∃ a len cap, v0 = .slice a len cap) (h : DataW.Trod enc Try.prog W 0 (fun _ => true) true 59 v0 d p) : ∃ z, OpenK .u8 W v0 z := by
  obtain ⟨a0, len, cap, rfl⟩ := hs
  obtain ⟨fuel, hf⟩ := h
  have hml : maxLen = 9223372036854775807 := rfl
  rcases open_ints Try.underlying59 Try.underlying5 cells5 hf with ⟨hcs0, hx⟩ | ⟨a, len', cap', zs, hcs0, _, hl, hm, hz, hx, hcell, hw⟩
  · simp [Value.cells] at hcs0
    obtain ⟨rfl, rfl, rfl⟩ := hcs0
    exact ⟨[], .inl ⟨rfl, rfl⟩, by simp, by simp⟩
  · simp [Value.cells] at hcs0
    obtain ⟨rfl, rfl, rfl⟩ := hcs0
    simp only [if_true] at hz
    have hlen : (zs.take len).length = len := by simp; omega
    refine ⟨zs.take len, .inr ⟨a, cap, zs, by rw [hlen], by omega, by omega, by rw [hlen], fun i hi => ?_⟩, by omega, fun n hn => hw n (List.mem_of_mem_take hn)⟩
    have h1 := hcell i (by omega)
    exact ⟨World.block_lt_of_cell? _ _ h1 |> fun h => by simpa [addr_block] using h, h1⟩
end

/-- the reading of a list of lists -/
theorem opened_mat {H : Type} {enc : TypeId × Value → H} {W : World} {v0 : Value} {d : DataW H} {p : List MemPlace} (hs : ∃ a len cap, v0 = .slice a len cap) (h : DataW.Trod enc Try.prog W 0 (fun _ => true) true 22 v0 d p) : ∃ rows, OpenM W v0 rows := by
  obtain ⟨a0, len, cap, rfl⟩ := hs
  obtain ⟨fuel, hf⟩ := h
  rcases open_int_rows Try.underlying22 Try.underlying23 Try.underlying3 cells23 cells3 hf with ⟨hcs0, hx⟩ | ⟨a, len', cap', A, L, C, Z, hcs0, _, hl, hm, hx, hrows⟩
  · simp [Value.cells] at hcs0
    obtain ⟨rfl, rfl, rfl⟩ := hcs0
    exact ⟨[], .inl ⟨rfl, rfl⟩, by simp [Fits]⟩
  · simp [Value.cells] at hcs0
    obtain ⟨rfl, rfl, rfl⟩ := hcs0
    have hml : maxLen = 9223372036854775807 := rfl
    refine ⟨(List.range len).map fun r => (Z r).take (L r), .inr ⟨a, cap, A, L, C, Z, by simp, by simpa using hl, by simp, fun r hr => ?_⟩, ?_⟩
    · obtain ⟨h1, h2, h3, h4, h5, h6, h7⟩ := hrows r hr
      refine ⟨World.block_lt_of_cell? _ _ h1 |> fun h => by simpa [addr_block] using h, h1, h2, h4, h6, fun x hx c hc => ?_⟩
      obtain ⟨-, h8⟩ := h7 x hx
      have := World.block_lt_of_cell? _ _ (h8 c hc)
      exact ⟨by simpa [addr_block] using this, h8 c hc⟩
    · refine ⟨by simp; omega, fun z hz => ?_⟩
      obtain ⟨r, hr, rfl⟩ := List.mem_map.1 hz
      have hr := List.mem_range.1 hr
      obtain ⟨h1, h2, h3, h4, h5, h6, h7⟩ := hrows r (by omega)
      refine ⟨by simp; omega, fun n hn => wf_i64 (h5 n (List.mem_of_mem_take hn))⟩

/-- of an argument: read-only memory for it -/
theorem ro_mat {W : World} {v0 : Value} {rows : List (List Int)} (h : OpenM W v0 rows) (pre : List ABlk) (prl : Rl) (hp : pre.length = prl.length) : ∃ (ro : List ABlk) (rl : Rl) (v : AVal), ro.length = rl.length ∧ (∀ x y h, IsMat (pre ++ ro ++ x) h v rows ∧ VR (prl ++ rl ++ y) [] v v0) ∧
    ∀ (i : Nat) (b : ABlk), ro[i]? = some b → ∃ x, rl[i]? = some x ∧ ∀ j, j < b.n → x.block < W.heap.size ∧ ∃ v', W.cell? (x.add j) = some v' ∧ ∀ y, VR (prl ++ rl ++ y) [] (b.c.get j) v' := by
  rcases h.o with ⟨rfl, rfl⟩ | ⟨a, cap, A, L, C, Z, rfl, hcap, hrows, hcell⟩
  · exact ⟨[], [], .nsl, rfl, fun x y h => ⟨.inl ⟨rfl, rfl⟩, .nsl⟩, fun i b hb => by simp at hb⟩
  · have hro : ∀ (x : List ABlk) (r : Nat), r < cap → (pre ++ roMat pre.length cap A L C Z ++ x)[pre.length + 1 + r]? = some ⟨0, cond (A r).isSome (C r) 0, Tr.mk ((Z r).map (AVal.i .i64)), none⟩ := fun x r hr => by
      rw [List.append_assoc, List.getElem?_append_right (by omega), show pre.length + 1 + r - pre.length = r + 1 by omega]
      simp [roMat, hr, List.getElem?_append_left]
    have hro0 : ∀ (x : List ABlk), (pre ++ roMat pre.length cap A L C Z ++ x)[pre.length]? = some ⟨0, cap, Tr.mk ((List.range cap).map (roCell pre.length A L C)), none⟩ := fun x => by
      rw [List.append_assoc, List.getElem?_append_right (by omega)]
      simp [roMat]
    have hrl : ∀ (y : Rl) (r : Nat), r < cap → (prl ++ rlMat a cap A ++ y)[pre.length + 1 + r]? = some ((A r).getD a) := fun y r hr => by
      rw [List.append_assoc, List.getElem?_append_right (by omega), show pre.length + 1 + r - prl.length = r + 1 by omega]
      simp [rlMat, hr, List.getElem?_append_left]
    have hrl0 : ∀ (y : Rl), (prl ++ rlMat a cap A ++ y)[pre.length]? = some a := fun y => by
      rw [List.append_assoc, List.getElem?_append_right (by omega), show pre.length - prl.length = 0 by omega]
      simp [rlMat]
    have hvr : ∀ (y : Rl) (r : Nat), r < cap → VR (prl ++ rlMat a cap A ++ y) [] (roCell pre.length A L C r) (.slice (A r) (L r) (C r)) := fun y r hr => by
      obtain ⟨-, -, h1, h2, h3, -⟩ := hcell r hr
      unfold roCell
      cases hA : A r with
      | none =>
        have := h3 hA
        have h0 : L r = 0 := by omega
        rw [this, h0]
        exact .nsl
      | some x =>
        refine .slk _ _ _ _ ?_
        have := hrl y r hr
        rw [hA] at this
        show (((prl ++ rlMat a cap A ++ y)[pre.length + 1 + r]?).map fun x => x.add 0) = some x
        rw [this]; simp [Addr.add]
    refine ⟨roMat pre.length cap A L C Z, rlMat a cap A, .sl ⟨true, pre.length, 0⟩ rows.length (.known cap), by simp [roMat, rlMat], fun x y h => ⟨.inr ⟨_, _, ⟨0, cap, Tr.mk ((List.range cap).map (roCell pre.length A L C)), none⟩, rfl, ?_, ?_, ?_⟩, ?_⟩, ?_⟩
    · simp only [rdB, cond_true, lget_eq]; exact hro0 x
    · simpa using hcap
    · intro r hr
      have hr' : r < cap := by omega
      obtain ⟨-, -, h1, h2, h3, h4⟩ := hcell r hr'
      have hg : (Tr.mk ((List.range cap).map (roCell pre.length A L C))).get (0 + r) = roCell pre.length A L C r := by
        rw [get_mk]; simp [List.getD, hr']
      have hrow : rows.getD r [] = (Z r).take (L r) := by
        rw [List.getD_eq_getElem?_getD]
        conv => lhs; rw [hrows]
        simp [hr]
      simp only [hg, hrow]
      unfold roCell
      cases hA : A r with
      | none =>
        have := h3 hA
        have h0 : L r = 0 := by omega
        exact .inl ⟨rfl, by simp [h0]⟩
      | some y =>
        refine .inr ⟨⟨true, pre.length + 1 + r, 0⟩, .known (C r), ⟨0, cond (A r).isSome (C r) 0, Tr.mk ((Z r).map (AVal.i .i64)), none⟩, ?_, ?_, ?_, ?_⟩
        · simp; omega
        · simp only [rdB, cond_true, lget_eq]; exact hro x r hr'
        · simp [hA]; omega
        · intro j hj
          simp only [List.length_take] at hj
          rw [get_mk]
          have hj2 : j < (Z r).length := by omega
          have hj3 : j < L r := by omega
          simp [List.getD, hj2, hj3]
    · refine .slk _ _ _ _ ?_
      show (((prl ++ rlMat a cap A ++ y)[pre.length]?).map fun x => x.add 0) = some a
      rw [hrl0 y]; simp [Addr.add]
    · intro i b hb
      cases i with
      | zero =>
        simp [roMat] at hb
        subst hb
        refine ⟨a, by simp [rlMat], fun j hj => ?_⟩
        obtain ⟨h0, h1, -⟩ := hcell j hj
        refine ⟨h0, _, h1, fun y => ?_⟩
        have hg : (Tr.mk ((List.range cap).map (roCell pre.length A L C))).get j = roCell pre.length A L C j := by
          rw [get_mk]; simp [List.getD, show j < cap from hj]
        simp only [hg]
        exact hvr y j hj
      | succ r =>
        simp only [roMat, List.getElem?_cons_succ, List.getElem?_map, Option.map_eq_some_iff] at hb
        obtain ⟨r', hr', rfl⟩ := hb
        obtain ⟨hlt, he⟩ := List.getElem?_eq_some_iff.1 hr'
        simp only [List.length_range] at hlt
        simp only [List.getElem_range] at he
        subst he
        refine ⟨(A r).getD a, by simp [rlMat, hlt], fun j hj => ?_⟩
        obtain ⟨-, -, h1, h2, h3, h4⟩ := hcell r hlt
        cases hA : A r with
        | none => simp [hA] at hj
        | some x =>
          simp only [hA, Option.isSome_some, cond_true] at hj
          obtain ⟨h5, h6⟩ := h4 x hA j hj
          refine ⟨h5, _, h6, fun y => ?_⟩
          have hg : (Tr.mk ((Z r).map (AVal.i .i64))).get j = .i .i64 ((Z r).getD j 0) := by
            rw [get_mk]; simp [List.getD, show j < (Z r).length by omega]
          simp only [hg]
          exact .i _ _


/-- a slice's room is at least its length -/
def CapO (v : AVal) : Prop := ∀ q n c, v = .sl q n (.known c) → n ≤ c
theorem ro_flat {k : IntKind} {W : World} {v0 : Value} {z : List Int} (h : OpenK k W v0 z) (pre : List ABlk) (prl : Rl) (hp : pre.length = prl.length) : ∃ (ro : List ABlk) (rl : Rl) (v : AVal), ro.length = rl.length ∧ CapO v ∧
    (∀ x y h, IsRowK k (pre ++ ro ++ x) h v z ∧ VR (prl ++ rl ++ y) [] v v0) ∧
    ∀ (i : Nat) (b : ABlk), ro[i]? = some b → ∃ x, rl[i]? = some x ∧ ∀ j, j < b.n → x.block < W.heap.size ∧ ∃ v', W.cell? (x.add j) = some v' ∧ ∀ y, VR y [] (b.c.get j) v' := by
  rcases h.o with ⟨rfl, rfl⟩ | ⟨a, cap, Z, rfl, hcap, hlen, hz, hcell⟩
  · exact ⟨[], [], .nsl, rfl, (fun q n c e => by cases e), fun x y h => ⟨.inl ⟨rfl, rfl⟩, .nsl⟩, fun i b hb => by simp at hb⟩
  · have hget : ∀ j, j < cap → (Tr.mk (Z.map (AVal.i k))).get j = .i k (Z.getD j 0) := fun j hj => by
      rw [get_mk]; simp [List.getD, show j < Z.length by omega]
    refine ⟨[⟨0, cap, Tr.mk (Z.map (AVal.i k)), none⟩], [a], .sl ⟨true, pre.length, 0⟩ z.length (.known cap), rfl, (fun q n c e => by cases e; exact hcap), fun x y h => ⟨.inr ⟨⟨true, pre.length, 0⟩, .known cap, ⟨0, cap, Tr.mk (Z.map (AVal.i k)), none⟩, rfl, ?_, ?_, fun j hj => ?_⟩, ?_⟩, fun i b hb => ?_⟩
    · simp only [rdB, cond_true, lget_eq, List.append_assoc]
      rw [List.getElem?_append_right (Nat.le_refl _)]; simp
    · simpa using hcap
    · have e := hget j (by omega)
      have e2 : Z.getD j 0 = z.getD j 0 := by
        rw [hz, List.getD_eq_getElem?_getD, List.getD_eq_getElem?_getD, List.getElem?_take_of_lt hj]
      rw [e2] at e
      simpa using e
    · refine .slk _ _ _ _ ?_
      show (((prl ++ [a] ++ y)[pre.length]?).map fun x => x.add 0) = some a
      rw [List.append_assoc, List.getElem?_append_right (by omega), hp]; simp [Addr.add]
    · cases i with
      | zero =>
        simp at hb
        subst hb
        refine ⟨a, rfl, fun j hj => ?_⟩
        obtain ⟨h1, h2⟩ := hcell j hj
        refine ⟨h1, _, h2, fun y => ?_⟩
        have := hget j hj
        simp only [this]
        exact .i _ _
      | succ i => simp at hb

theorem env_ok {W : World} {ro : List ABlk} {rl : Rl} (h : ∀ (i : Nat) (b : ABlk), ro[i]? = some b → ∃ x, rl[i]? = some x ∧ ∀ j, j < b.n → x.block < W.heap.size ∧ ∃ v', W.cell? (x.add j) = some v' ∧ VR rl [] (b.c.get j) v') :
    (Env.mk Try.prog W.heap.size W ro rl).Ok := ⟨fun i b hb => h i b hb, Nat.le_refl _⟩
/-- what lies in the read-only blocks; more may come behind -/
def RoP (W : World) (ro : List ABlk) (rl : Rl) : Prop := ∀ (i : Nat) (b : ABlk), ro[i]? = some b → ∃ x, rl[i]? = some x ∧ ∀ j, j < b.n → x.block < W.heap.size ∧ ∃ v', W.cell? (x.add j) = some v' ∧ ∀ y, VR (rl ++ y) [] (b.c.get j) v'
theorem RoP.nil (W : World) : RoP W [] [] := fun i b hb => by simp at hb
theorem RoP.env {W : World} {ro : List ABlk} {rl : Rl} (h : RoP W ro rl) : (Env.mk Try.prog W.heap.size W ro rl).Ok := env_ok fun i b hb => by
  obtain ⟨y, h1, h2⟩ := h i b hb
  refine ⟨y, h1, fun j hj => ?_⟩
  obtain ⟨h3, v', h4, h5⟩ := h2 j hj
  exact ⟨h3, v', h4, by have := h5 []; simpa using this⟩
theorem RoP.snoc {W : World} {ro ro' : List ABlk} {rl rl' : Rl} (hl : ro.length = rl.length) (h : RoP W ro rl)
    (h' : ∀ (i : Nat) (b : ABlk), ro'[i]? = some b → ∃ x, rl'[i]? = some x ∧ ∀ j, j < b.n → x.block < W.heap.size ∧ ∃ v', W.cell? (x.add j) = some v' ∧ ∀ y, VR y [] (b.c.get j) v') : RoP W (ro ++ ro') (rl ++ rl') := by
  intro i b hb
  rcases Nat.lt_or_ge i ro.length with hi | hi
  · rw [List.getElem?_append_left hi] at hb
    obtain ⟨x, h1, h2⟩ := h i b hb
    refine ⟨x, by rw [List.getElem?_append_left (by omega)]; exact h1, fun j hj => ?_⟩
    obtain ⟨h3, v', h4, h5⟩ := h2 j hj
    exact ⟨h3, v', h4, fun y => by rw [List.append_assoc]; exact h5 _⟩
  · rw [List.getElem?_append_right hi] at hb
    obtain ⟨x, h1, h2⟩ := h' _ b hb
    refine ⟨x, by rw [List.getElem?_append_right (by omega), ← hl]; exact h1, fun j hj => ?_⟩
    obtain ⟨h3, v', h4, h5⟩ := h2 j hj
    exact ⟨h3, v', h4, fun y => h5 _⟩

/-- the call of the model: true, and below nothing has turned -/
theorem call_of {W : World} {ro : List ABlk} {rl : Rl} (hE : (Env.mk Try.prog W.heap.size W ro rl).Ok) {K : Nat} {vs : List AVal} {args : Array Value}
    (hv : LR rl [] vs args) {h' : Heap} {lw lp : Nat} (hc : callX F1 ro K vs [] = some (.b true, h', lw, lp)) : Calls Try.prog K args W fun e W' => e = .returned (.bool true) ∧ Below W.heap.size W W' := by
  have hm : (Env.mk Try.prog W.heap.size W ro rl).P.follows .mixedOrders = true := Try.checked.mixed
  have hO : CallOk (Env.mk Try.prog W.heap.size W ro rl) (known0 16 (.b true)) := known0_of hE hm fok alive0 rfl
  obtain ⟨-, h2⟩ := callX_sound hE hm (F := F1) fok hO K vs [] _ _ _ _ hc
  refine Calls.mono (h2 [] W args ⟨Below.refl _ _, rfl, by simp, fun i b r K hl => by simp [Live] at hl, fun i j b b' r K K' hl => by simp [Live] at hl⟩ hv) fun e w' hq => ?_
  obtain ⟨v', rfl, m', hvr, T⟩ := hq
  exact ⟨by rw [hvr.inv_b], T.hr.below⟩
theorem alive_pure {ro : List ABlk} {h : Heap} : callX F1 ro 16 [] h = some (.b true, h, h.length, h.length) := callX_ov rfl
end Go.Proofs.Ytnalgdobglfndaa.T

/- Blocks that a function makes for itself; loops whose state is known. -/
open Go.Vm
set_option linter.unusedVariables false
namespace Go.Proofs.Ytnalgdobglfndaa.T
open Go

/-- a block of the heap that holds these values -/
def Holds (hp : Heap) (b : Nat) (vs : List AVal) : Prop := ∃ blk : ABlk, lget hp b = some (some blk) ∧ blk.n = vs.length ∧ ∀ j, j < vs.length → blk.c.get j = vs.getD j und
/-- what was there is still there -/
def Keep (h hp : Heap) : Prop := h.length ≤ hp.length ∧ ∀ i, i < h.length → hp[i]? = h[i]?

section
variable {ro : List ABlk} {h hp hp' : Heap} {b k e n l p : Nat} {vs : List AVal}
theorem Keep.refl (h : Heap) : Keep h h := ⟨Nat.le_refl _, fun _ _ => rfl⟩
theorem Keep.trans {h1 : Heap} (a : Keep h h1) (c : Keep h1 hp) : Keep h hp := ⟨Nat.le_trans a.1 c.1, fun i hi => by rw [c.2 i (by have := a.1; omega), a.2 i hi]⟩
theorem Keep.app (x : Heap) : Keep h (h ++ x) := ⟨by simp, fun i hi => List.getElem?_append_left hi⟩
theorem Keep.set (a : Keep h hp) (hb : h.length ≤ b) (x : Option ABlk) : Keep h (hp.set b x) := ⟨by simpa using a.1, fun i hi => by rw [List.getElem?_set_ne (by omega)]; exact a.2 i hi⟩
theorem Keep.eq (a : Keep h hp) : hp.take h.length = h := by
  refine List.ext_getElem? fun i => ?_
  rcases Nat.lt_or_ge i h.length with hi | hi
  · rw [List.getElem?_take_of_lt hi, a.2 i hi]
  · rw [List.getElem?_eq_none (by simp; omega), List.getElem?_eq_none hi]
theorem fin_keep {v : AVal} (a : Keep h hp) (hv : v.bel h.length = true) : finM h.length v ⟨hp, h.length, h.length⟩ = some (v, h, h.length, h.length) := by
  rw [fin_take hv, a.eq]
theorem Holds.lt (a : Holds hp b vs) : b < hp.length := by obtain ⟨blk, h1, -⟩ := a; exact lget_lt h1
theorem Holds.new (hp : Heap) (e : Nat) (vs : List AVal) : Holds (hp ++ [some (blkOf e vs)]) hp.length vs := ⟨_, lget_last _ _, rfl, fun j _ => get_blk e vs j⟩
theorem Holds.keep (a : Holds hp b vs) (hk : hp'[b]? = hp[b]?) : Holds hp' b vs := by
  obtain ⟨blk, h1, h2⟩ := a
  exact ⟨blk, by rw [lget_of hk]; exact h1, h2⟩
theorem Holds.ext (a : Holds hp b vs) (x : Heap) : Holds (hp ++ x) b vs := a.keep (List.getElem?_append_left a.lt)
theorem Holds.by (a : Holds hp b vs) (k : Keep hp hp') : Holds hp' b vs := a.keep (k.2 b a.lt)
theorem Holds.one (a : Holds hp b vs) (hk : k < vs.length) : ldM ro ⟨hp, l, p⟩ true 1 (.p (some ⟨false, b, 0 + k⟩)) = some (vs.getD k und) := by
  obtain ⟨blk, h1, h2, h3⟩ := a
  rw [ld_heap rfl h1 (by omega), ← h3 k hk, Nat.zero_add]
theorem Holds.oneA (a : Holds hp b vs) (hk : k < vs.length) : ldA ro hp true 1 (.p (some ⟨false, b, 0 + k⟩)) = some (vs.getD k und) := by
  obtain ⟨blk, h1, h2, h3⟩ := a
  rw [lda_heap h1 (by omega), ← h3 k hk, Nat.zero_add]
theorem row_list {t : Tr} : ∀ (vs : List AVal) (i : Nat), (∀ j, j < vs.length → t.get (i + j) = vs.getD j und) → t.row i vs.length = vs
  | [], i, _ => rfl
  | v :: vs, i, h => by
    simp only [List.length_cons, Tr.row]
    rw [show t.get i = v by simpa using h 0 (by simp), row_list vs (i + 1) fun j hj => by have := h (j + 1) (by simp; omega); rw [show i + 1 + j = i + (j + 1) by omega, this]; simp]
theorem Holds.rd (a : Holds hp b vs) (hn : n = vs.length) : Go.Vm.rd ro hp false n ⟨false, b, 0⟩ = some (.agg vs) := by
  subst hn
  obtain ⟨blk, h1, h2, h3⟩ := a
  have hc : Nat.ble (0 + vs.length) blk.n = true := by rw [Nat.ble_eq]; omega
  simp only [Go.Vm.rd, rdB_heap h1, cond_false, hc, cond_true]
  rw [row_list vs 0 fun j hj => by rw [Nat.zero_add]; exact h3 j hj]
theorem Holds.all (a : Holds hp b vs) (hn : n = vs.length) : ldM ro ⟨hp, l, p⟩ false n (.p (some ⟨false, b, 0⟩)) = some (.agg vs) := by
  simp only [ldM, a.rd hn]
theorem spliceGet (t : Tr) : ∀ (vs : List AVal) (i j : Nat), (t.splice i vs).get j = if i ≤ j ∧ j < i + vs.length then vs.getD (j - i) und else t.get j
  | [], i, j => by simp [Tr.splice]; intro h1 h2; omega
  | v :: vs, i, j => by
    rw [Tr.splice, spliceGet (t.set i v) vs (i + 1) j, get_set]
    by_cases e : i = j
    · subst e
      rw [if_neg (by omega), if_pos rfl, if_pos (by simp)]; simp
    · by_cases h2 : i ≤ j ∧ j < i + (v :: vs).length
      · have h3 : i + 1 ≤ j ∧ j < i + 1 + vs.length := by simp at h2; omega
        rw [if_pos h2, if_pos h3]
        obtain ⟨q, rfl⟩ : ∃ q, j = i + 1 + q := ⟨j - (i + 1), by omega⟩
        rw [show i + 1 + q - i = q + 1 by omega, show i + 1 + q - (i + 1) = q by omega]
        simp
      · have h3 : ¬ (i + 1 ≤ j ∧ j < i + 1 + vs.length) := by simp at h2; omega
        rw [if_neg h2, if_neg h3, if_neg e]
theorem wrH_all {blk : ABlk} (hb : lget hp b = some (some blk)) (hn : vs.length ≤ blk.n) (ho : ones vs = true) : wrH hp ⟨false, b, 0⟩ vs = some (hp.set b (some { blk with c := blk.c.splice 0 vs })) := by
  have : (Nat.ble (0 + vs.length) blk.n && ones vs) = true := by rw [ho, Bool.and_true, Nat.ble_eq]; omega
  simp only [wrH, cond_false, hb, this, cond_true, lset_eq]
/-- a block is written whole -/
theorem Holds.st {vs' : List AVal} {v : AVal} (a : Holds hp b vs) (hv : v.cells = vs') (hn : n = vs'.length) (hl : vs'.length = vs.length) (ho : ones vs' = true) (hL : h.length ≤ b) (kp : Keep h hp) :
    ∃ hp', stepM ro ⟨hp, h.length, h.length⟩ (.st n (.c (.p (some ⟨false, b, 0⟩))) (.c v)) = some (und, ⟨hp', h.length, h.length⟩) ∧ Holds hp' b vs' ∧ hp'.length = hp.length ∧ (∀ i, i ≠ b → hp'[i]? = hp[i]?) ∧ Keep h hp' := by
  obtain ⟨blk, h1, h2, h3⟩ := a
  subst hv hn
  have hw := wrH_all h1 (vs := v.cells) (by omega) ho
  refine ⟨hp.set b (some { blk with c := blk.c.splice 0 v.cells }), ?_, ⟨_, lget_set h1 _, by simpa using (h2.trans hl.symm), fun j hj => ?_⟩, by simp, fun i hi => List.getElem?_set_ne (Ne.symm hi), kp.set hL _⟩
  · have hbq : Nat.beq v.cells.length v.cells.length = true := Nat.beq_refl _
    have e : (cond (nonp v.cells) h.length h.length) = h.length := by cases nonp v.cells <;> rfl
    simp only [stepM, stepK, opd, st_st, hbq, cond_true, hw, St.mm, Nat.min_eq_left hL, e]
  · show (blk.c.splice 0 v.cells).get j = _
    rw [spliceGet, if_pos (by omega)]; simp
theorem bx_ok (e : Nat) (hn : vs.length = n) : stepM ro ⟨hp, l, p⟩ (.bx e n (.c (.agg vs))) = some (.p (some ⟨false, hp.length, 0⟩), ⟨hp ++ [some (blkOf e vs)], l, p⟩) := by
  subst hn
  have hbq : Nat.beq vs.length vs.length = true := Nat.beq_refl _
  simp only [stepM, stepK, opd, st_bx, AVal.cells, hbq, cond_true, newB, St.mm]
end

theorem ext0 (a : AVal) (l : List AVal) : evP .e (.ext 0 (.c (.tup (a :: l)))) = some a := rfl
theorem ext1 (a b : AVal) (l : List AVal) : evP .e (.ext 1 (.c (.tup (a :: b :: l)))) = some b := rfl
section
variable {ro : List ABlk} {h : Heap} {v : AVal}
theorem row_by {hp : Heap} {z : List Int} (a : IsRow ro h v z) (k : Keep h hp) : IsRow ro hp v z := by
  rw [take_eq k.1 k.2]; exact a.ext _
end

/-- one cell of a block is written -/
theorem Holds.set {ro : List ABlk} {h hp : Heap} {b k : Nat} {vs : List AVal} {v : AVal} (a : Holds hp b vs) (hk : k < vs.length) (hv : v.one = true) (hc : v.cells = [v]) (hn : nonp [v] = true) (hL : h.length ≤ b) (kp : Keep h hp) :
    ∃ hp', stepM ro ⟨hp, h.length, h.length⟩ (.st 1 (.c (.p (some ⟨false, b, 0 + k * 1⟩))) (.c v)) = some (und, ⟨hp', h.length, h.length⟩) ∧ Holds hp' b (vs.set k v) ∧ hp'.length = hp.length ∧ (∀ i, i ≠ b → hp'[i]? = hp[i]?) ∧ Keep h hp' := by
  obtain ⟨blk, h1, h2, h3⟩ := a
  have e : 0 + k * 1 = k := by omega
  refine ⟨hp.set b (some { blk with c := blk.c.set k v }), ?_, ⟨_, lget_set h1 _, by simpa using h2, fun j hj => ?_⟩, by simp, fun i hi => List.getElem?_set_ne (Ne.symm hi), kp.set hL _⟩
  · rw [e, st_heap h1 (by omega) hv hc hn, Nat.min_eq_left hL]
  · show (blk.c.set k v).get j = _
    rw [get_set]
    simp only [List.length_set] at hj
    by_cases e : k = j
    · subst e; simp [List.getD, hj]
    · rw [if_neg e, h3 j hj]
      simp [List.getD, List.getElem?_set_ne e]


/-- a loop whose state is known for each round -/
theorem loop_st {S R : Type} {b : S → Option (S ⊕ R)} (st : Nat → S) (n : Nat) (step : Nat → Option R) (r0 : R) (hout : b (st n) = some (.inr r0)) (hin : ∀ i, i < n → b (st i) = some (match step i with | some r => .inr r | none => .inl (st (i + 1)))) :
    ∀ (k i : Nat), i + k = n → loopX b (st i) = some ((firstS step k i).getD r0)
  | 0, i, hi => by
    simp only [Nat.add_zero] at hi
    subst hi
    exact loopX_out hout
  | k + 1, i, hi => by
    have h1 := hin i (by omega)
    unfold firstS
    cases hs : step i with
    | some r => rw [hs] at h1; exact loopX_out h1
    | none =>
      rw [hs] at h1
      exact loopX_on h1 (loop_st st n step r0 hout hin k (i + 1) (by omega))
/-- one that runs to its end -/
theorem loop_run {S R : Type} {b : S → Option (S ⊕ R)} (st : Nat → S) (n : Nat) {r0 : R} (hout : b (st n) = some (.inr r0)) (hin : ∀ i, i < n → b (st i) = some (.inl (st (i + 1)))) : loopX b (st 0) = some r0 := by
  have := loop_st st n (fun _ => none) r0 hout hin n 0 (by omega)
  rw [firstS_none.2 fun _ _ _ => rfl] at this
  exact this
/-- one that looks for something -/
theorem loop_if {S R : Type} {b : S → Option (S ⊕ R)} (st : Nat → S) (n : Nat) (P : Nat → Prop) [DecidablePred P] (r0 r1 : R) (hout : b (st n) = some (.inr r0)) (hin : ∀ i, i < n → P i → b (st i) = some (.inl (st (i + 1)))) (hno : ∀ i, i < n → ¬ P i → b (st i) = some (.inr r1)) :
    loopX b (st 0) = some (if (∀ i, i < n → P i) then r0 else r1) := by
  have := loop_st st n (fun i => if P i then none else some r1) r0 hout (fun i hi => by
    by_cases hp : P i
    · rw [if_pos hp]; exact hin i hi hp
    · rw [if_neg hp]; exact hno i hi hp) n 0 (by omega)
  rw [this]
  by_cases hall : ∀ i, i < n → P i
  · rw [if_pos hall, firstS_none.2 fun j _ h2 => by rw [if_pos (hall j (by omega))]]; rfl
  · rw [if_neg hall]
    cases hf : firstS (fun i => if P i then none else some r1) n 0 with
    | none =>
      refine absurd (fun i hi => ?_) hall
      have := firstS_none.1 hf i (by omega) (by omega)
      simpa using this
    | some r =>
      obtain ⟨j, -, -, h3, -⟩ := firstS_some hf
      by_cases hc : P j
      · rw [if_pos hc] at h3; cases h3
      · rw [if_neg hc] at h3; cases h3; rfl

theorem dT {p : Prop} [Decidable p] (h : p) : decide p = true := decide_eq_true h
theorem dF {p : Prop} [Decidable p] (h : ¬ p) : decide p = false := decide_eq_false h
theorem row_bel {ro : List ABlk} {h : Heap} {v : AVal} {z : List Int} (a : IsRow ro h v z) : v.bel h.length = true := by
  rcases a with ⟨rfl, -⟩ | ⟨q, cap, blk, rfl, hb, -⟩
  · rfl
  · simpa [AVal.bel] using rdB_lt hb
theorem mat_by {ro : List ABlk} {h hp : Heap} {v : AVal} {z : List (List Int)} (a : IsMat ro h v z) (k : Keep h hp) : IsMat ro hp v z := by
  rw [take_eq k.1 k.2]; exact a.ext _
theorem at_rowK {ro : List ABlk} {h : Heap} {v : AVal} {z : List Int} (hr : IsRow ro h v z) {i : Nat} (hi : i < z.length) : ∃ p, evP .e (.ixS 1 (.c v) (.c (.i .i64 (i : Int)))) = some p ∧ ∀ {hp : Heap} {l q : Nat}, Keep h hp → ldM ro ⟨hp, l, q⟩ true 1 p = some (.i .i64 (z.getD i 0)) ∧ ldA ro hp true 1 p = some (.i .i64 (z.getD i 0)) := by
  obtain ⟨p, h1, -⟩ := at_row (m := ⟨h, 0, 0⟩) rfl hr hi
  refine ⟨p, h1, fun {hp l q} k => ?_⟩
  obtain ⟨p', g1, g2, g3⟩ := at_row (m := ⟨hp, l, q⟩) rfl (row_by hr k) hi
  rw [h1] at g1; cases g1
  exact ⟨g2, g3⟩
theorem at_matK {ro : List ABlk} {h : Heap} {v : AVal} {x : List (List Int)} (hr : IsMat ro h v x) {i : Nat} (hi : i < x.length) : ∃ p u, evP .e (.ixS 1 (.c v) (.c (.i .i64 (i : Int)))) = some p ∧ (∀ {hp : Heap} {l q : Nat}, Keep h hp → ldM ro ⟨hp, l, q⟩ true 1 p = some u ∧ ldA ro hp true 1 p = some u) ∧ IsRow ro h u (x.getD i []) := by
  rcases hr with ⟨rfl, rfl⟩ | ⟨q, cap, blk, rfl, hb, hn, hc⟩
  · simp at hi
  · refine ⟨_, _, ixS_eq hi, fun {hp l q'} k => ?_, hc i hi⟩
    have hb' : rdB ro hp q = some blk := by rw [take_eq k.1 k.2]; exact rdB_ext _ hb
    have h1 := rd_one (i := i) hb' (by omega)
    refine ⟨h1, ?_⟩
    have := rdB_lt hb'
    simp only [ldA, this, cond_true, h1]
abbrev nthR (x : List (List Int)) (i : Nat) : List Int := x.getD i []
theorem cp {F : Tab} {ro : List ABlk} {h : Heap} {f : Nat} {a : List AVal} {v : AVal} {l p : Nat} (e : callX F ro f a h = some (v, h, h.length, h.length)) (hl : l ≤ h.length) (hp : p ≤ h.length) : callM (callX F ro) ⟨h, l, p⟩ f a = some (v, ⟨h, l, p⟩) :=
  callM_pure e hl hp
theorem cp0 {F : Tab} {ro : List ABlk} {h : Heap} {f : Nat} {a : List AVal} {v : AVal} (e : callX F ro f a h = some (v, h, h.length, h.length)) : callM (callX F ro) ⟨h, h.length, h.length⟩ f a = some (v, ⟨h, h.length, h.length⟩) :=
  callM_pure e (Nat.le_refl _) (Nat.le_refl _)

/- the laws' own: few, same -/
def few (x : List (List Int)) (z : List Int) : Prop := (∀ i, i < x.length → i < 250 ∧ (nthR x i).length ≤ 40) ∧ z.length ≤ 1100
instance (x : List (List Int)) (z : List Int) : Decidable (few x z) := inferInstanceAs (Decidable ((∀ i, i < x.length → i < 250 ∧ (nthR x i).length ≤ 40) ∧ z.length ≤ 1100))
theorem few.len {x : List (List Int)} {z : List Int} (h : few x z) : x.length ≤ 250 := by
  by_cases h1 : x.length = 0
  · omega
  · have := (h.1 (x.length - 1) (by omega)).1
    omega
theorem few_ok {ro : List ABlk} {h : Heap} {a b : AVal} {x : List (List Int)} {z : List Int} (ha : IsMat ro h a x) (hb : IsRow ro h b z) (hx : x.length ≤ 9223372036854775807) : callX F1 ro 15 [a, b] h = some (.b (decide (few x z)), h, h.length, h.length) := by
  refine g15_ok (meansX_ok F1 ro) rfl ?_
  unfold g15
  simp only [meansX_loop]
  have hloop := loop_if (b := fun s => g15_b0 (meansX F1 ro) ro a b ⟨h, h.length, h.length⟩ s) (fun i => (i : Int)) x.length (fun i => i < 250 ∧ (nthR x i).length ≤ 40) (.inl ()) (.inr false) ?_ ?_ ?_
  · have e0 : ((0 : Nat) : Int) = 0 := rfl
    rw [e0] at hloop
    rw [hloop]
    by_cases hf : ∀ i, i < x.length → i < 250 ∧ (nthR x i).length ≤ 40
    · rw [if_pos hf]
      simp only [bindO_some, len_row hb, asI_i, forceB_eq, ltI_eq, tupA]
      have e : decide (few x z) = !decide ((1100 : Int) < (z.length : Int)) := by
        rw [← decide_not]; exact decide_eq_decide.2 ⟨fun hh => by have := hh.2; omega, fun hh => ⟨hf, by omega⟩⟩
      rw [e]
      exact fin_pure rfl
    · rw [if_neg hf]
      have e : decide (few x z) = false := by simp only [decide_eq_false_iff_not]; exact fun hh => hf hh.1
      simp only [bindO_some, e, tupA]
      exact fin_pure rfl
  · simp only [g15_b0, len_mat ha, bindO_some, asI_i, forceB_eq, ltI_eq]
    simp
  · intro i hi hp
    obtain ⟨p, u, h1, h2, h3, h4⟩ := at_mat (m := ⟨h, h.length, h.length⟩) rfl ha hi
    have e := lt_yes hi
    have e2 : (!decide ((i : Int) < 250)) = false := by have := hp.1; simp; omega
    have h5 : (x.getD i []).length ≤ 40 := hp.2
    have e3 : decide ((40 : Int) < ((x.getD i []).length : Int)) = false := dF (by omega)
    simp only [g15_b0, len_mat ha, bindO_some, asI_i, forceB_eq, ltI_eq, e, cond_true, e2, cond_false, h1, h2, len_row h4, e3, forceI_eq]
    rw [wr_id' (by omega) (by omega)]
    rfl
  · intro i hi hp
    obtain ⟨p, u, h1, h2, h3, h4⟩ := at_mat (m := ⟨h, h.length, h.length⟩) rfl ha hi
    have e := lt_yes hi
    by_cases h250 : i < 250
    · have e2 : (!decide ((i : Int) < 250)) = false := by simp; omega
      have e3 : decide ((40 : Int) < ((x.getD i []).length : Int)) = true := by
        have : ¬ (x.getD i []).length ≤ 40 := fun hh => hp ⟨h250, hh⟩
        exact dT (by omega)
      simp only [g15_b0, len_mat ha, bindO_some, asI_i, forceB_eq, ltI_eq, e, cond_true, e2, cond_false, h1, h2, len_row h4, e3]
    · have e2 : (!decide ((i : Int) < 250)) = true := by simp; omega
      simp only [g15_b0, len_mat ha, bindO_some, asI_i, forceB_eq, ltI_eq, e, cond_true, e2]

end Go.Proofs.Ytnalgdobglfndaa.T

/- Lists that a function makes by append. -/
open Go.Vm
set_option linter.unusedVariables false
namespace Go.Proofs.Ytnalgdobglfndaa.T
open Go

/-- a list made by append, in a block from L on -/
def GV (hp : Heap) (L e es : Nat) (v : AVal) (k : Nat) (cs : List AVal) : Prop :=
  (v = .nsl ∧ k = 0 ∧ cs = []) ∨ ∃ b blk, v = .sl ⟨false, b, 0⟩ k .grow ∧ 0 < k ∧ L ≤ b ∧ lget hp b = some (some blk) ∧ blk.e = e ∧ cs.length = k * es ∧ k * es ≤ blk.n ∧ ∀ j, j < k * es → blk.c.get j = cs.getD j und
theorem GV.nil (hp : Heap) (L e es : Nat) : GV hp L e es .nsl 0 [] := .inl ⟨rfl, rfl, rfl⟩
/-- blocks below L, and those above that are kept, hold the list as before -/
theorem GV.by {hp hp' : Heap} {L e es k : Nat} {v : AVal} {cs : List AVal} (g : GV hp L e es v k cs) (kp : Keep hp hp') : GV hp' L e es v k cs := by
  rcases g with h | ⟨b, blk, h1, h2, h3, h4, h5⟩
  · exact .inl h
  · exact .inr ⟨b, blk, h1, h2, h3, by rw [lget_of (kp.2 b (lget_lt h4))]; exact h4, h5⟩
theorem row_row {t : Tr} : ∀ (n i : Nat) (cs : List AVal), cs.length = n → (∀ j, j < n → t.get (i + j) = cs.getD j und) → t.row i n = cs := by
  intro n i cs hl h
  subst hl
  exact row_list cs i h
theorem GV.push {ro : List ABlk} {hp : Heap} {L0 L e es bytes k : Nat} {z : List AVal} {v w : AVal} {cs ws : List AVal} (g : GV hp L e es v k cs) (hL0 : L0 ≤ L) (hL : L ≤ hp.length) (hk : k ≤ 100000) (hb : bytes ≤ 1000) (hes : 0 < es) (hz : z.length = es) (hw : w.cells = ws) (hwl : ws.length = es) (ho : ones ws = true) (hsp : splice z 0 ws = ws) :
    ∃ v2 hp2 v3 hp3, stepM ro ⟨hp, L0, L0⟩ (.bsl e es z 1 [((0, es), .c w)]) = some (v2, ⟨hp2, L0, L0⟩) ∧ stepM ro ⟨hp2, L0, L0⟩ (.app e es bytes z (.c v) (.c v2)) = some (v3, ⟨hp3, L0, L0⟩) ∧
      GV hp3 L e es v3 (k + 1) (cs ++ ws) ∧ hp.length ≤ hp3.length ∧ ∀ i, i < L → hp3[i]? = hp[i]? := by
  have s1 : stepM ro ⟨hp, L0, L0⟩ (.bsl e es z 1 [((0, es), .c w)]) = some (.sl ⟨false, hp.length, 0⟩ 1 (.known 1), ⟨hp ++ [some (blkOf e ws)], L0, L0⟩) := by
    simp [stepM, stepK, st_bsl, rep, fillA, opd, hw, hwl, hz, hsp, newB, St.mm]
  have src : app_src ro (hp ++ [some (blkOf e ws)]) es (.sl ⟨false, hp.length, 0⟩ 1 (.known 1)) = some (ws, 1) := by
    have hbq : rdB ro (hp ++ [some (blkOf e ws)]) ⟨false, hp.length, 0⟩ = some (blkOf e ws) := by simp [rdB, lget_eq]
    have hg : (blkOf e ws).c.row 0 es = ws := row_row es 0 ws hwl fun j hj => by rw [Nat.zero_add, get_blk]
    have hble : Nat.ble (0 + 1 * es) (blkOf e ws).n = true := by rw [Nat.ble_eq]; show 0 + 1 * es ≤ ws.length; omega
    simp only [app_src, hbq, hble, cond_true]
    rw [show 1 * es = es by omega, hg]
  rcases g with ⟨rfl, rfl, rfl⟩ | ⟨b, blk, rfl, hpos, hLb, hbk, hbe, hcl, hbn, hrows⟩
  · refine ⟨_, _, .sl ⟨false, hp.length + 1, 0⟩ 1 .grow, hp ++ [some (blkOf e ws)] ++ [some (blkOf e ws)], s1, ?_, .inr ⟨hp.length + 1, blkOf e ws, rfl, by omega, by omega, ?_, rfl, by simp; omega, by show 1 * es ≤ ws.length; omega, fun j hj => ?_⟩, by simp, fun i hi => ?_⟩
    · have hb1 : Nat.beq 1 0 = false := rfl
      simp only [stepM, stepK, opd, st_app, src, hb1, cond_false, fits_small (by omega : 1 ≤ 1000000) hb, cond_true, newB, St.mm, List.length_append, List.length_cons, List.length_nil, Nat.zero_add]
    · have := lget_last (hp ++ [some (blkOf e ws)]) (some (blkOf e ws))
      rwa [List.length_append, List.length_singleton] at this
    · rw [get_blk]; simp
    · rw [List.append_assoc, List.getElem?_append_left (by omega)]
  · obtain ⟨hp2, e2⟩ : ∃ hp2, hp2 = hp ++ [some (blkOf e ws)] := ⟨_, rfl⟩
    rw [← e2] at src s1
    have hlt : b < hp.length := lget_lt hbk
    have hb2 : lget hp2 b = some (some blk) := by rw [e2]; exact lget_ext hbk _
    have hlen2 : hp2.length = hp.length + 1 := by rw [e2]; simp
    have hrow : blk.c.row 0 (k * es) = cs := row_row (k * es) 0 cs hcl fun j hj => by rw [Nat.zero_add]; exact hrows j hj
    have hke : 0 < k * es := Nat.mul_pos hpos hes
    refine ⟨_, _, .sl ⟨false, hp2.length, 0⟩ (k + 1) .grow, lset none hp2 b ++ [some (blkOf e (cs ++ ws))], s1, ?_, .inr ⟨hp2.length, blkOf e (cs ++ ws), rfl, by omega, by omega, ?_, rfl, ?_, ?_, fun j hj => ?_⟩, ?_, fun i hi => ?_⟩
    · have h1 : (Nat.beq blk.e e && Nat.ble (k * es) blk.n && fits (k + 1) bytes && ones ws) = true := by
        rw [hbe, fits_small (by omega : k + 1 ≤ 1000000) hb]
        simp [ho, Nat.ble_eq]; omega
      have h2 : (false || !Nat.beq 0 0 || Nat.beq 1 0) = false := rfl
      have h3 : Nat.blt 0 blk.n = true := by rw [Nat.blt_eq]; omega
      simp only [stepM, stepK, opd, st_app, src, app_grow, h2, cond_false, hb2, h1, h3, Bool.and_self, cond_true, St.mm, hrow, Nat.min_eq_left (Nat.le_trans hL0 hLb)]
    · rw [lget_eq, lset_eq, List.getElem?_append_right (by simp)]
      simp
    · rw [List.length_append, hcl, hwl, Nat.add_mul]; omega
    · show (k + 1) * es ≤ (cs ++ ws).length
      rw [List.length_append, hcl, hwl, Nat.add_mul]; omega
    · rw [get_blk]
    · simp [lset_eq]; omega
    · rw [lset_eq, List.getElem?_append_left (by simp; omega), List.getElem?_set_ne (by omega), e2, List.getElem?_append_left (by omega)]
theorem GV.row {ro : List ABlk} {hp : Heap} {L e : Nat} {v : AVal} {k : Nat} {z : List Int} (g : GV hp L e 1 v k (z.map (AVal.i .i64))) (hk : z.length = k) : IsRow ro hp v z := by
  subst hk
  rcases g with ⟨rfl, h2, -⟩ | ⟨b, blk, rfl, hpos, hLb, hbk, hbe, hcl, hbn, hrows⟩
  · exact .inl ⟨rfl, List.length_eq_zero_iff.1 h2⟩
  · refine .inr ⟨_, _, blk, rfl, rdB_heap hbk 0, by simpa using hbn, fun j hj => ?_⟩
    rw [Nat.zero_add, hrows j (by omega), map_getD hj]
end Go.Proofs.Ytnalgdobglfndaa.T

/- What a record is: the program's checks and the reference's. -/
open Go.Vm
set_option linter.unusedVariables false
namespace Go.Proofs.Ytnalgdobglfndaa.T
open Go

def bitP (x : Int) : Prop := x = 0 ∨ x = 1
instance (x : Int) : Decidable (bitP x) := inferInstanceAs (Decidable (_ ∨ _))
def bitsP (z : List Int) : Prop := ∀ j, j < z.length → bitP (z.getD j 0)
instance (z : List Int) : Decidable (bitsP z) := inferInstanceAs (Decidable (∀ j, j < z.length → bitP (z.getD j 0)))
/-- a row of so many numbers 0 or 1 -/
def rowP (z : List Int) (n : Int) : Prop := bitsP z ∧ (z.length : Int) = n
instance (z : List Int) (n : Int) : Decidable (rowP z n) := inferInstanceAs (Decidable (_ ∧ _))
def matP (x : List (List Int)) (k n : Int) : Prop := (∀ i, i < x.length → rowP (nthR x i) n) ∧ (x.length : Int) = k
instance (x : List (List Int)) (k n : Int) : Decidable (matP x k n) := inferInstanceAs (Decidable (_ ∧ _))

section
variable {ro : List ABlk} {h : Heap} {a b : AVal} {x : List (List Int)} {z : List Int}

theorem bit_ok {n : Int} : callX F1 ro 65 [.i .i64 n] h = some (.b (decide (bitP n)), h, h.length, h.length) := by
  refine g65_ok (meansX_ok F1 ro) rfl ?_
  unfold g65
  simp only [forceB_eq, eqI_eq]
  have e : decide (bitP n) = ((n == 0) || (n == 1)) := by
    by_cases h0 : n = 0
    · subst h0; rfl
    · by_cases h1 : n = 1
      · subst h1; rfl
      · rw [dF (show ¬ bitP n from fun hh => by rcases hh with hh | hh <;> contradiction)]; simp [h0, h1]
  rw [e]
  cases h0 : (n == 0)
  · simp only [cond_false, bindO_some, Bool.false_or, tupA]; exact fin_pure rfl
  · simp only [cond_true, bindO_some, Bool.true_or, tupA]; exact fin_pure rfl

theorem areBits_ok {n : Int} (hb : IsRow ro h b z) (hz : z.length ≤ 9223372036854775807) : callX F1 ro 61 [b, .i .i64 n] h = some (.b (decide (rowP z n)), h, h.length, h.length) := by
  refine g61_ok (meansX_ok F1 ro) rfl ?_
  unfold g61
  simp only [len_row hb, bindO_some, asI_i, meansX_loop]
  have hloop := loop_if (b := fun s => g61_b0 (meansX F1 ro) ro b n z.length ⟨h, h.length, h.length⟩ s) (fun i => (i : Int)) z.length (fun i => bitP (z.getD i 0)) (.inl ()) (.inr false) ?_ ?_ ?_
  · have e0 : ((0 : Nat) : Int) = 0 := rfl
    rw [e0] at hloop
    rw [hloop]
    by_cases hf : bitsP z
    · rw [if_pos (show ∀ i, i < z.length → bitP (z.getD i 0) from hf)]
      simp only [bindO_some, forceB_eq, eqI_eq, tupA]
      have e : decide (rowP z n) = ((z.length : Int) == n) := by
        by_cases hn : (z.length : Int) = n
        · rw [dT (show rowP z n from ⟨hf, hn⟩)]; simp [hn]
        · rw [dF (show ¬ rowP z n from fun hh => hn hh.2)]; simp [hn]
      rw [e]
      exact fin_pure rfl
    · rw [if_neg (show ¬ ∀ i, i < z.length → bitP (z.getD i 0) from hf)]
      simp only [bindO_some, dF (show ¬ rowP z n from fun hh => hf hh.1), tupA]
      exact fin_pure rfl
  · simp only [g61_b0, forceB_eq, ltI_eq, lt_no, cond_false]
  · intro i hi hp
    obtain ⟨p, h1, h2, h3⟩ := at_row (m := ⟨h, h.length, h.length⟩) rfl hb hi
    simp only [g61_b0, forceB_eq, ltI_eq, lt_yes hi, cond_true, h1, h2, bindO_some, asI_i, eqI_eq]
    rcases hp with hp | hp
    · simp only [hp, beq_self_eq_true, Bool.not_true, cond_false, bindO_some, forceI_eq]
      rw [wr_id' (by omega) (by omega)]; rfl
    · have e0 : ((1 : Int) == 0) = false := rfl
      simp only [hp, e0, Bool.not_false, cond_true, beq_self_eq_true, Bool.not_true, cond_false, bindO_some, forceI_eq]
      rw [wr_id' (by omega) (by omega)]; rfl
  · intro i hi hp
    obtain ⟨p, h1, h2, h3⟩ := at_row (m := ⟨h, h.length, h.length⟩) rfl hb hi
    have e0 : (z.getD i 0 == 0) = false := by rw [beq_eq_false_iff_ne]; exact fun hh => hp (.inl hh)
    have e1 : (z.getD i 0 == 1) = false := by rw [beq_eq_false_iff_ne]; exact fun hh => hp (.inr hh)
    simp only [g61_b0, forceB_eq, ltI_eq, lt_yes hi, cond_true, h1, h2, bindO_some, asI_i, eqI_eq, e0, e1, Bool.not_false]

/-- how long the rows and the list are: no more than an int can count -/
def LenOk (x : List (List Int)) : Prop := x.length ≤ 9223372036854775807 ∧ ∀ i, i < x.length → (nthR x i).length ≤ 9223372036854775807
theorem areSaid_ok {k n : Int} (ha : IsMat ro h a x) (hl : LenOk x) : callX F1 ro 68 [a, .i .i64 k, .i .i64 n] h = some (.b (decide (matP x k n)), h, h.length, h.length) := by
  refine g68_ok (meansX_ok F1 ro) rfl ?_
  unfold g68
  simp only [len_mat ha, bindO_some, asI_i, meansX_loop]
  have hloop := loop_if (b := fun s : Int × Mm => g68_b0 (meansX F1 ro) ro a k n x.length s.1 s.2) (fun i => ((i : Int), (⟨h, h.length, h.length⟩ : Mm))) x.length (fun i => rowP (nthR x i) n) (.inl ⟨h, h.length, h.length⟩) (.inr (false, ⟨h, h.length, h.length⟩)) ?_ ?_ ?_
  · have e0 : ((0 : Nat) : Int) = 0 := rfl
    rw [e0] at hloop
    rw [hloop]
    by_cases hf : ∀ i, i < x.length → rowP (nthR x i) n
    · rw [if_pos hf]
      simp only [bindO_some, forceB_eq, eqI_eq, tupA]
      have e : decide (matP x k n) = ((x.length : Int) == k) := by
        by_cases hn : (x.length : Int) = k
        · rw [dT (show matP x k n from ⟨hf, hn⟩)]; simp [hn]
        · rw [dF (show ¬ matP x k n from fun hh => hn hh.2)]; simp [hn]
      rw [e]
      exact fin_pure rfl
    · rw [if_neg hf]
      simp only [bindO_some, dF (show ¬ matP x k n from fun hh => hf hh.1), tupA]
      exact fin_pure rfl
  · simp only [g68_b0, forceB_eq, ltI_eq, lt_no, cond_false]
  · intro i hi hp
    obtain ⟨p, u, h1, h2, h3, h4⟩ := at_mat (m := ⟨h, h.length, h.length⟩) rfl ha hi
    have := hl.1
    simp only [g68_b0, forceB_eq, ltI_eq, lt_yes hi, cond_true, h1, h2, bindO_some, meansX_call, cp0 (areBits_ok (n := n) h4 (hl.2 i hi)), bindP_some, asB_b, dT hp, Bool.not_true, cond_false, forceI_eq]
    rw [wr_id' (by omega) (by omega)]; rfl
  · intro i hi hp
    obtain ⟨p, u, h1, h2, h3, h4⟩ := at_mat (m := ⟨h, h.length, h.length⟩) rfl ha hi
    simp only [g68_b0, forceB_eq, ltI_eq, lt_yes hi, cond_true, h1, h2, bindO_some, meansX_call, cp0 (areBits_ok (n := n) h4 (hl.2 i hi)), bindP_some, asB_b, dF hp, Bool.not_false]

/-- the errors of a record -/
def recE (n : Int) (x : List (List Int)) (z : List Int) : Int :=
  if n < 1 ∨ 20 < n then 2 else if 200 < x.length then 3 else if matP x x.length n ∧ rowP z x.length then 0 else 2

theorem checkRecord_ok {n : Int} (ha : IsMat ro h a x) (hl : LenOk x) (hb : IsRow ro h b z) (hz : z.length ≤ 9223372036854775807) : callX F1 ro 49 [.i .i64 n, a, b] h = some (.i .i64 (recE n x z), h, h.length, h.length) := by
  refine g49_ok (meansX_ok F1 ro) rfl ?_
  unfold g49
  simp only [forceB_eq, ltI_eq, len_mat ha, bindO_some, asI_i, meansX_call]
  by_cases h1 : n < 1
  · simp only [dT h1, cond_true, bindO_some, recE, if_pos (show n < 1 ∨ 20 < n from .inl h1), tupA]; exact fin_pure rfl
  · by_cases h2 : 20 < n
    · simp only [dF h1, cond_false, dT h2, bindO_some, cond_true, recE, if_pos (show n < 1 ∨ 20 < n from .inr h2), tupA]; exact fin_pure rfl
    · have hn : ¬ (n < 1 ∨ 20 < n) := by omega
      simp only [dF h1, cond_false, dF h2, bindO_some, recE, if_neg hn]
      by_cases h3 : 200 < x.length
      · simp only [dT (show (200 : Int) < (x.length : Int) by omega), cond_true, if_pos h3, tupA]; exact fin_pure rfl
      · simp only [dF (show ¬ (200 : Int) < (x.length : Int) by omega), cond_false, if_neg h3, cp0 (areSaid_ok (k := x.length) (n := n) ha hl), bindP_some, asB_b]
        by_cases h4 : matP x x.length n
        · simp only [dT h4, Bool.not_true, cond_false, cp0 (areBits_ok (n := x.length) hb hz), bindP_some, asB_b]
          by_cases h5 : rowP z x.length
          · simp only [dT h5, Bool.not_true, bindO_some, cond_false, if_pos (show matP x x.length n ∧ rowP z x.length from ⟨h4, h5⟩), tupA]; exact fin_pure rfl
          · simp only [dF h5, Bool.not_false, bindO_some, cond_true, if_neg (show ¬ (matP x x.length n ∧ rowP z x.length) from fun hh => h5 hh.2), tupA]; exact fin_pure rfl
        · simp only [dF h4, Bool.not_false, cond_true, bindO_some, if_neg (show ¬ (matP x x.length n ∧ rowP z x.length) from fun hh => h4 hh.1), tupA]; exact fin_pure rfl

/-- the bits of one row, as the reference looks at them -/
theorem rowLoop {R : Type} {n : Nat} (r : R) {b0 : Int × Mm → Option ((Int × Mm) ⊕ (Mm ⊕ R))} {m : Mm} {zz : List Int} (hn : n = zz.length)
    (hin : ∀ i, i < n → b0 ((i : Int), m) = some (cond (decide (bitP (zz.getD i 0))) (.inl (((i + 1 : Nat) : Int), m)) (.inr (.inr r)))) (hout : b0 ((n : Int), m) = some (.inr (.inl m))) :
    loopX b0 (0, m) = some (if bitsP zz then .inl m else .inr r) := by
  subst hn
  have hloop := loop_if (b := b0) (fun i => ((i : Int), m)) zz.length (fun i => bitP (zz.getD i 0)) (.inl m) (.inr r) hout (fun i hi hp => by rw [hin i hi, dT hp]; rfl) (fun i hi hp => by rw [hin i hi, dF hp]; rfl)
  have e0 : ((0 : Nat) : Int) = 0 := rfl
  rw [e0] at hloop
  exact hloop

theorem Record_ok {n : Int} (ha : IsMat ro h a x) (hl : LenOk x) (hb : IsRow ro h b z) (hz : z.length ≤ 9223372036854775807) : callX F1 ro 38 [.i .i64 n, a, b] h = some (.i .i64 (recE n x z), h, h.length, h.length) := by
  refine g38_ok (meansX_ok F1 ro) rfl ?_
  unfold g38
  simp only [forceB_eq, ltI_eq, len_mat ha, bindO_some, asI_i, meansX_loop]
  by_cases h1 : n < 1
  · simp only [dT h1, cond_true, bindO_some, recE, if_pos (show n < 1 ∨ 20 < n from .inl h1), tupA]; exact fin_pure rfl
  by_cases h2 : 20 < n
  · simp only [dF h1, cond_false, dT h2, bindO_some, cond_true, recE, if_pos (show n < 1 ∨ 20 < n from .inr h2), tupA]; exact fin_pure rfl
  have hn : ¬ (n < 1 ∨ 20 < n) := by omega
  simp only [dF h1, cond_false, dF h2, bindO_some, recE, if_neg hn]
  by_cases h3 : 200 < x.length
  · simp only [dT (show (200 : Int) < (x.length : Int) by omega), cond_true, if_pos h3, tupA]; exact fin_pure rfl
  simp only [dF (show ¬ (200 : Int) < (x.length : Int) by omega), cond_false, if_neg h3]
  have hloop := loop_if (b := fun s : Int × Mm => g38_b1 (meansX F1 ro) ro n a b s.1 s.2) (fun i => ((i : Int), (⟨h, h.length, h.length⟩ : Mm))) x.length (fun i => rowP (nthR x i) n) (.inl ⟨h, h.length, h.length⟩) (.inr (2, ⟨h, h.length, h.length⟩)) ?_ ?_ ?_
  · have e0 : ((0 : Nat) : Int) = 0 := rfl
    rw [e0] at hloop
    rw [hloop]
    by_cases hf : ∀ i, i < x.length → rowP (nthR x i) n
    · have hm : matP x x.length n := ⟨hf, rfl⟩
      rw [if_pos hf]
      simp only [bindO_some, len_row hb, asI_i, eqI_eq]
      by_cases h4 : (z.length : Int) = x.length
      · have e4 : (!((z.length : Int) == (x.length : Int))) = false := by rw [h4]; simp
        have hl3 := rowLoop (r := ((2 : Int), (⟨h, h.length, h.length⟩ : Mm))) (b0 := fun s : Int × Mm => g38_b3 (meansX F1 ro) ro b s.1 s.2) (m := ⟨h, h.length, h.length⟩) (zz := z) rfl ?_ ?_
        · simp only [e4, cond_false, hl3]
          by_cases h5 : bitsP z
          · simp only [if_pos h5, bindO_some, if_pos (show matP x x.length n ∧ rowP z x.length from ⟨hm, h5, h4⟩), tupA]; exact fin_pure rfl
          · simp only [if_neg h5, bindO_some, if_neg (show ¬ (matP x x.length n ∧ rowP z x.length) from fun hh => h5 hh.2.1), tupA]; exact fin_pure rfl
        · intro i hi
          obtain ⟨p, h1', h2', h3'⟩ := at_row (m := ⟨h, h.length, h.length⟩) rfl hb hi
          simp only [g38_b3, len_row hb, bindO_some, asI_i, forceB_eq, ltI_eq, lt_yes hi, cond_true, h1', h2', meansX_call, cp0 bit_ok, bindP_some, asB_b]
          cases decide (bitP (z.getD i 0))
          · rfl
          · simp only [Bool.not_true, cond_false, cond_true, forceI_eq]
            rw [wr_id' (by omega) (by omega)]; rfl
        · simp only [g38_b3, len_row hb, bindO_some, asI_i, forceB_eq, ltI_eq, lt_no, cond_false]
      · have e4 : (!((z.length : Int) == (x.length : Int))) = true := by simpa using h4
        simp only [e4, cond_true, if_neg (show ¬ (matP x x.length n ∧ rowP z x.length) from fun hh => h4 hh.2.2), tupA]; exact fin_pure rfl
    · rw [if_neg hf]
      simp only [bindO_some, if_neg (show ¬ (matP x x.length n ∧ rowP z x.length) from fun hh => hf hh.1.1), tupA]; exact fin_pure rfl
  · simp only [g38_b1, len_mat ha, bindO_some, asI_i, forceB_eq, ltI_eq, lt_no, cond_false]
  all_goals
    intro i hi hp
    obtain ⟨p, u, h1', h2', h3', h4'⟩ := at_mat (m := ⟨h, h.length, h.length⟩) rfl ha hi
    simp only [g38_b1, len_mat ha, bindO_some, asI_i, forceB_eq, ltI_eq, lt_yes hi, cond_true, h1', h2', len_row h4', eqI_eq, meansX_loop]
    by_cases h4 : ((nthR x i).length : Int) = n
    · have e4 : (!(((x.getD i []).length : Int) == n)) = false := by rw [show ((x.getD i []).length : Int) = n from h4]; simp
      have hl3 := rowLoop (r := ((2 : Int), (⟨h, h.length, h.length⟩ : Mm))) (b0 := fun s : Int × Mm => g38_b2 (meansX F1 ro) ro n a b (i : Int) s.1 s.2) (m := ⟨h, h.length, h.length⟩) (zz := nthR x i) rfl (fun j hj => by
          obtain ⟨p', h1'', h2'', h3''⟩ := at_row (m := ⟨h, h.length, h.length⟩) rfl h4' hj
          have hjn : decide ((j : Int) < n) = true := dT (by rw [← h4]; omega)
          have hll := hl.2 i hi
          simp only [g38_b2, forceB_eq, ltI_eq, hjn, cond_true, h1', h2', bindO_some, h1'', h2'', asI_i, meansX_call, cp0 bit_ok, bindP_some, asB_b]
          cases decide (bitP ((nthR x i).getD j 0))
          · rfl
          · simp only [Bool.not_true, cond_false, cond_true, forceI_eq]
            rw [wr_id' (by omega) (by omega)]; rfl) (by
          have hjn : decide (((nthR x i).length : Int) < n) = false := dF (by omega)
          simp only [g38_b2, forceB_eq, ltI_eq, hjn, cond_false])
      simp only [e4, cond_false, hl3]
      by_cases h5 : bitsP (nthR x i)
      · simp only [if_pos h5, bindO_some, forceI_eq]
        first
        | (rw [wr_id' (by omega) (by omega)]; rfl)
        | exact absurd ⟨h5, h4⟩ hp
      · first
        | exact absurd hp.1 h5
        | simp only [if_neg h5, bindO_some]
    · have e4 : (!(((x.getD i []).length : Int) == n)) = true := by
        have h4 : ¬ ((x.getD i []).length : Int) = n := h4
        simpa using h4
      first
      | exact absurd hp.2 h4
      | simp only [e4, cond_true]
end
end Go.Proofs.Ytnalgdobglfndaa.T

/- Ratios in lowest terms; what foretellers say; how many bits a number has. -/
open Go.Vm
set_option linter.unusedVariables false
namespace Go.Proofs.Ytnalgdobglfndaa.T
open Go

def saidP (k n : Int) (x : List (List Int)) : Prop := 1 ≤ k ∧ k ≤ 10 ∧ 1 ≤ n ∧ n ≤ 20 ∧ matP x k n
instance (k n : Int) (x : List (List Int)) : Decidable (saidP k n x) := inferInstanceAs (Decidable (_ ∧ _))

section
variable {ro : List ABlk} {h hp : Heap} {a b : AVal} {x : List (List Int)} {z : List Int}

theorem wr_nat {n : Nat} (hn : n ≤ 9223372036854775807) : wr .i64 (n : Int) = (n : Int) := wr_id' (by omega) (by omega)
/- bits -/
end
end Go.Proofs.Ytnalgdobglfndaa.T

/- How often foretellers are wrong: by bits, and one by one. -/
open Go.Vm
set_option linter.unusedVariables false
namespace Go.Proofs.Ytnalgdobglfndaa.T
open Go

def bt (x : List (List Int)) (j f : Nat) : Nat := ((nthR x j).getD f 0).toNat
def wrongN (x : List (List Int)) (f s k : Nat) : Nat → Nat
  | 0 => 0
  | j + 1 => wrongN x f s k j + (if bt x j f ≠ s / 2 ^ (k - 1 - j) % 2 then 1 else 0)
def minN (w : Nat → Nat) (d : Nat) : Nat → Nat
  | 0 => d
  | f + 1 => min (minN w d f) (w f)
def best (x : List (List Int)) (k n s : Nat) : Nat := minN (fun f => wrongN x f s k k) k n

section
variable {ro : List ABlk} {h hp : Heap} {a b v : AVal} {x : List (List Int)} {z : List Int}

theorem wr_u64_id {n : Nat} (hn : n < 1024) : wr .u64 (n : Int) = (n : Int) := by
  show IntKind.u64.wrap (n : Int) = _
  rw [IntKind.wrap_u64]; omega
theorem shl_nat : ∀ k, k < 11 → shlV .i64 1 ((k : Nat) : Int) = ((2 ^ k : Nat) : Int) := by decide
end
end Go.Proofs.Ytnalgdobglfndaa.T

/- Regret: the program's and the reference's. -/
open Go.Vm
set_option linter.unusedVariables false
namespace Go.Proofs.Ytnalgdobglfndaa.T
open Go

def sumN (w : Nat → Nat) : Nat → Nat
  | 0 => 0
  | s + 1 => sumN w s + w s
theorem sumN_congr {w w' : Nat → Nat} : ∀ n, (∀ s, s < n → w s = w' s) → sumN w n = sumN w' n
  | 0, _ => rfl
  | n + 1, h => by simp only [sumN]; rw [sumN_congr n fun s hs => h s (by omega), h n (by omega)]
theorem sumN_le {w w' : Nat → Nat} : ∀ n, (∀ s, s < n → w s ≤ w' s) → sumN w n ≤ sumN w' n
  | 0, _ => Nat.le_refl _
  | n + 1, h => by simp only [sumN]; have := sumN_le n (fun s hs => h s (by omega)); have := h n (by omega); omega
theorem sumN_const (c : Nat) : ∀ n, sumN (fun _ => c) n = c * n
  | 0 => rfl
  | n + 1 => by simp only [sumN, sumN_const c n, Nat.mul_succ]
section
variable {ro : List ABlk} {h hp : Heap} {a b v : AVal} {x : List (List Int)} {z : List Int}

theorem holds_row {hp : Heap} {q n : Nat} {vs : List AVal} {z : List Int} (a : Holds hp q vs) (hz : vs = z.map (AVal.i .i64)) (hn : z.length = n) {cap : Cap} : IsRow ro hp (.sl ⟨false, q, 0⟩ n cap) z := by
  subst hz; subst hn
  obtain ⟨blk, h1, h2, h3⟩ := a
  refine .inr ⟨_, cap, blk, rfl, rdB_heap h1 0, by simpa using (Nat.le_of_eq h2.symm), fun j hj => ?_⟩
  rw [show (0 + j) = j by omega, h3 j (by simpa using hj), map_getD hj]

theorem Fits.lens {x : List (List Int)} (hf : Fits x) : LenOk x := ⟨hf.1, fun i hi => by
  have : nthR x i ∈ x := by
    have : nthR x i = x[i] := by simp [nthR, List.getD, hi]
    rw [this]; exact List.getElem_mem hi
  exact (hf.2 _ this).1⟩
theorem nil_row (h : Heap) : IsRow ro h .nsl [] := .inl ⟨rfl, rfl⟩

end
end Go.Proofs.Ytnalgdobglfndaa.T

/- What points are: the program's checks and the reference's. -/
open Go.Vm
set_option linter.unusedVariables false
namespace Go.Proofs.Ytnalgdobglfndaa.T
open Go

def coordP (z : List Int) : Prop := ∀ j, j < z.length → -100 ≤ z.getD j 0 ∧ z.getD j 0 ≤ 100
instance (z : List Int) : Decidable (coordP z) := inferInstanceAs (Decidable (∀ j, j < z.length → -100 ≤ z.getD j 0 ∧ z.getD j 0 ≤ 100))
def pointP (z : List Int) : Prop := 1 ≤ z.length ∧ z.length ≤ 6 ∧ coordP z
instance (z : List Int) : Decidable (pointP z) := inferInstanceAs (Decidable (_ ∧ _))
def signP (n : Int) : Prop := n = 1 ∨ n = -1
instance (n : Int) : Decidable (signP n) := inferInstanceAs (Decidable (_ ∨ _))
def ptP (x : List (List Int)) (z : List Int) (i : Nat) : Prop := (nthR x i).length = (nthR x 0).length ∧ pointP (nthR x i) ∧ signP (z.getD i 0)
instance (x : List (List Int)) (z : List Int) (i : Nat) : Decidable (ptP x z i) := inferInstanceAs (Decidable (_ ∧ _))
def ptsP (x : List (List Int)) (z : List Int) : Prop := 0 < x.length ∧ z.length = x.length ∧ ∀ i, i < x.length → ptP x z i
instance (x : List (List Int)) (z : List Int) : Decidable (ptsP x z) := inferInstanceAs (Decidable (_ ∧ _ ∧ ∀ i, i < x.length → ptP x z i))
section
variable {ro : List ABlk} {h : Heap} {a b : AVal} {x : List (List Int)} {z : List Int}

end
end Go.Proofs.Ytnalgdobglfndaa.T

/- Perceptron: the program's and the reference's. -/
open Go.Vm
set_option linter.unusedVariables false
namespace Go.Proofs.Ytnalgdobglfndaa.T
open Go

def ints (w : List Int) : List AVal := w.map (AVal.i .i64)
theorem ints_len (w : List Int) : (ints w).length = w.length := by simp [ints]
theorem ints_get {w : List Int} {j : Nat} (hj : j < w.length) : (ints w).getD j und = .i .i64 (w.getD j 0) := map_getD hj
theorem ints_set (w : List Int) (j : Nat) (n : Int) : (ints w).set j (.i .i64 n) = ints (w.set j n) := by simp [ints, List.map_set]

/-- the sum of the coordinates times the weights -/
def dotN (p w : List Int) : Nat → Int
  | 0 => 0
  | k + 1 => wr .i64 (dotN p w k + wr .i64 (p.getD k 0 * w.getD k 0))
/-- is the point at which a round is, on its side? -/
def hitP (x : List (List Int)) (z : List Int) (i : Nat) (w : List Int) : Prop := 0 < wr .i64 (z.getD i 0 * dotN (nthR x i) w w.length)
instance (x : List (List Int)) (z : List Int) (i : Nat) (w : List Int) : Decidable (hitP x z i w) := inferInstanceAs (Decidable (_ < _))
def zeros (n : Nat) : List Int := List.replicate n 0
section
variable {ro : List ABlk} {h hp : Heap} {a b v : AVal} {x : List (List Int)} {z : List Int}

theorem Holds.wr {b k : Nat} {vs : List AVal} {v : AVal} (a : Holds hp b vs) (hk : k < vs.length) (hv : v.one = true) (hc : v.cells = [v]) (hn : nonp [v] = true) (hL : h.length ≤ b) (kp : Keep h hp) :
    ∃ hp', writesM ro [] [(⟨false, b, 0 + k⟩, AVal.cells v)] ⟨hp, h.length, h.length⟩ = some ⟨hp', h.length, h.length⟩ ∧ Holds hp' b (vs.set k v) ∧ hp'.length = hp.length ∧ (∀ i, i ≠ b → hp'[i]? = hp[i]?) ∧ Keep h hp' := by
  obtain ⟨blk, h1, h2, h3⟩ := a
  refine ⟨hp.set b (some { blk with c := blk.c.set (0 + k) v }), ?_, ⟨_, lget_set h1 _, by simpa using h2, fun j hj => ?_⟩, by simp, fun i hi => List.getElem?_set_ne (Ne.symm hi), kp.set hL _⟩
  · rw [hc, wr_heap h1 (by omega) hv hn, Nat.min_eq_left hL]
  · show (blk.c.set (0 + k) v).get j = _
    rw [get_set]
    simp only [List.length_set] at hj
    by_cases e : 0 + k = j
    · have e' : k = j := by omega
      subst e'; simp [List.getD, hj]
    · rw [if_neg e, h3 j hj]
      simp [List.getD, List.getElem?_set_ne (show k ≠ j by omega)]
theorem getD_self {α : Type} {l : List α} {k : Nat} {v d : α} (h : k < l.length) : (l.set k v).getD k d = v := by simp [List.getD, h]
theorem getD_ne {α : Type} {l : List α} {k j : Nat} {v d : α} (h : k ≠ j) : (l.set k v).getD j d = l.getD j d := by simp [List.getD, List.getElem?_set_ne h]
theorem Holds.setG {b k l p : Nat} {vs : List AVal} {v : AVal} (a : Holds hp b vs) (hk : k < vs.length) (hv : v.one = true) (hc : v.cells = [v]) (hn : nonp [v] = true) :
    ∃ hp', stepM ro ⟨hp, l, p⟩ (.st 1 (.c (.p (some ⟨false, b, 0 + k⟩))) (.c v)) = some (und, ⟨hp', min l b, p⟩) ∧ Holds hp' b (vs.set k v) ∧ hp'.length = hp.length ∧ (∀ i, i ≠ b → hp'[i]? = hp[i]?) := by
  obtain ⟨blk, h1, h2, h3⟩ := a
  refine ⟨hp.set b (some { blk with c := blk.c.set (0 + k) v }), ?_, ⟨_, lget_set h1 _, by simpa using h2, fun j hj => ?_⟩, by simp, fun i hi => List.getElem?_set_ne (Ne.symm hi)⟩
  · rw [st_heap h1 (by omega) hv hc hn]
  · show (blk.c.set (0 + k) v).get j = _
    rw [get_set]
    simp only [List.length_set] at hj
    by_cases e : 0 + k = j
    · have e' : k = j := by omega
      subst e'; rw [getD_self hj, if_pos (by omega)]
    · rw [if_neg e, h3 j hj, getD_ne (by omega)]
theorem fin_out {L : Nat} {v : AVal} {l p : Nat} (hv : v.bel L = false) : finM L v ⟨hp, l, p⟩ = some (v, hp, l, p) := by
  simp [finM, gc, hv]
theorem keep_o {h0 hp' : Heap} {q : Nat} (k : Keep h0 hp) (hq : h0.length ≤ q) (hl : hp'.length = hp.length) (ho : ∀ i, i ≠ q → hp'[i]? = hp[i]?) : Keep h0 hp' :=
  ⟨by rw [hl]; exact k.1, fun j hj => by rw [ho j (by omega)]; exact k.2 j hj⟩
theorem sl_nb {L b n : Nat} {cap : Cap} {l : List AVal} (h : L ≤ b) : (AVal.tup (.sl ⟨false, b, 0⟩ n cap :: l)).bel L = false := by
  simp only [AVal.bel, bels, Bool.false_or]
  have : Nat.blt b L = false := by rw [Bool.eq_false_iff]; simp [Nat.blt_eq]; omega
  simp [this]

/-- the weights as a slice of a block -/
abbrev wSl (q d : Nat) : AVal := .sl ⟨false, q, 0⟩ d (.known d)

end
end Go.Proofs.Ytnalgdobglfndaa.T

/- Perceptron whole; the law that compares both. -/
open Go.Vm
set_option linter.unusedVariables false
namespace Go.Proofs.Ytnalgdobglfndaa.T
open Go

section
variable {ro : List ABlk} {h hp : Heap} {a b v : AVal} {x : List (List Int)} {z : List Int}

/-- a call that answers a list in new memory, and more -/
def RetL (ro : List ABlk) (h : Heap) (f : Nat) (args : List AVal) (z : List Int) (rest : List AVal) : Prop :=
  ∃ v h', callX F1 ro f args h = some (.tup (v :: rest), h', h.length, h.length) ∧ Keep h h' ∧ IsRow ro h' v z ∧ z.length ≤ 1000
theorem holds_ints {q d : Nat} {w : List Int} (a : Holds hp q (ints w)) (hd : w.length = d) : IsRow ro hp (wSl q d) w := holds_row a rfl hd
theorem newInts (h : Heap) (d : Nat) : Holds (h ++ [some (newBlk 3 (.i .i64 0) d)]) h.length (ints (zeros d)) := by
  have e : rep [(AVal.i .i64 0)] d = ints (zeros d) := by
    have : ∀ d, rep [(AVal.i .i64 0)] d = ints (zeros d) := by
      intro d
      induction d with
      | zero => rfl
      | succ d ih => simp only [rep, ih, zeros, ints, List.replicate_succ, List.map_cons]; rfl
    exact this d
  show Holds (h ++ [some (blkOf 3 (rep [(AVal.i .i64 0)] d))]) _ _
  rw [e]
  exact Holds.new h 3 _
theorem nil_bel (l : List Int) (L : Nat) : (AVal.tup (.nsl :: l.map (AVal.i .i64))).bel L = true := by
  have : ∀ l : List Int, bels L (l.map (AVal.i .i64)) = true := by
    intro l
    induction l with
    | nil => rfl
    | cons a l ih => simp [bels, AVal.bel, ih]
  simp [AVal.bel, bels, this]

theorem RetL.cm {f : Nat} {args : List AVal} {zz : List Int} {rest : List AVal} (r : RetL ro hp f args zz rest) : ∃ v h', (∀ {l p : Nat}, l ≤ hp.length → p ≤ hp.length → callM (callX F1 ro) ⟨hp, l, p⟩ f args = some (.tup (v :: rest), ⟨h', l, p⟩)) ∧ Keep hp h' ∧ IsRow ro h' v zz ∧ zz.length ≤ 1000 := by
  obtain ⟨v, h', h1, h2, h3, h4⟩ := r
  refine ⟨v, h', fun {l p} hl hp => ?_, h2, h3, h4⟩
  rw [callM_eq (m := ⟨_, l, p⟩) h1]
  simp [Nat.min_eq_left hl, Nat.min_eq_left hp]

end
end Go.Proofs.Ytnalgdobglfndaa.T

/- Goals: what they are, their halves, room, guess. -/
open Go.Vm
set_option linter.unusedVariables false
namespace Go.Proofs.Ytnalgdobglfndaa.T
open Go

def goalP (k : Int) (z : List Int) : Prop := 1 ≤ k ∧ k ≤ 10 ∧ z.length = 2 ^ k.toNat ∧ ∀ j, j < z.length → 0 ≤ z.getD j 0 ∧ z.getD j 0 ≤ k * 60
instance (k : Int) (z : List Int) : Decidable (goalP k z) := inferInstanceAs (Decidable (_ ∧ _ ∧ _ ∧ ∀ j, j < z.length → 0 ≤ z.getD j 0 ∧ z.getD j 0 ≤ k * 60))
/-- part i of 2^j numbers each -/
def subL (z : List Int) (j i : Nat) : List Int := (List.range (2 ^ j)).map fun t => z.getD (i * 2 ^ j + t) 0
theorem subL_len (z : List Int) (j i : Nat) : (subL z j i).length = 2 ^ j := by simp [subL]
/-- the sum of the numbers t of a part -/
def sumT (z : List Int) (j i : Nat) : Nat → Int
  | 0 => 0
  | t + 1 => sumT z j i t + z.getD (i * 2 ^ j + t) 0
def sumO (z : List Int) (j i : Nat) : Int := sumT z j i (2 ^ j)
section
variable {ro : List ABlk} {h hp : Heap} {a b v : AVal} {x : List (List Int)} {z : List Int}

/-- a part of a goal in memory -/
def IsSub (ro : List ABlk) (h : Heap) (v : AVal) (z : List Int) (j i : Nat) : Prop := IsRow ro h v (subL z j i) ∧ CapO v
theorem IsSub.bel {j i : Nat} (a : IsSub ro h v z j i) : v.bel h.length = true := row_bel a.1
theorem IsSub.len {j i : Nat} (a : IsSub ro h v z j i) : evP .e (.len false (.c v)) = some (.i .i64 ((2 ^ j : Nat) : Int)) := by
  have := len_row a.1
  rwa [subL_len] at this

end
end Go.Proofs.Ytnalgdobglfndaa.T

/- Can: the program's and the reference's. -/
open Go.Vm
set_option linter.unusedVariables false
namespace Go.Proofs.Ytnalgdobglfndaa.T
open Go

section
variable {ro : List ABlk} {h hp : Heap} {a b v : AVal} {x : List (List Int)} {z : List Int}

theorem push1 {L0 L k : Nat} {zs : List Int} {n : Int} (g : GV hp L 3 1 v k (ints zs)) (hL0 : L0 ≤ L) (hL : L ≤ hp.length) (hk : k ≤ 100000) :
    ∃ v2 hp2 v3 hp3, stepM ro ⟨hp, L0, L0⟩ (.bsl 3 1 [(AVal.i IntKind.i64 0)] 1 [((0, 1), .c (.i .i64 n))]) = some (v2, ⟨hp2, L0, L0⟩) ∧ stepM ro ⟨hp2, L0, L0⟩ (.app 3 1 8 [(AVal.i IntKind.i64 0)] (.c v) (.c v2)) = some (v3, ⟨hp3, L0, L0⟩) ∧
      GV hp3 L 3 1 v3 (k + 1) (ints (zs ++ [n])) ∧ hp.length ≤ hp3.length ∧ ∀ i, i < L → hp3[i]? = hp[i]? := by
  have := GV.push (ro := ro) (z := [(AVal.i IntKind.i64 0)]) (bytes := 8) (w := .i .i64 n) (ws := [.i .i64 n]) g hL0 hL hk (by omega) (by omega) rfl rfl rfl rfl rfl
  simpa [ints] using this
theorem GV.len {L k : Nat} {zs : List Int} (g : GV hp L 3 1 v k (ints zs)) : evP .e (.len false (.c v)) = some (.i .i64 (k : Int)) := by
  rcases g with ⟨rfl, rfl, -⟩ | ⟨b, blk, rfl, -⟩
  · rfl
  · simp [evP, ev_len, opd, mkI_eq]
theorem range_snoc {α : Type} (f : Nat → α) (n : Nat) : (List.range (n + 1)).map f = (List.range n).map f ++ [f n] := by simp [List.range_succ]
end
end Go.Proofs.Ytnalgdobglfndaa.T

/- Can, Guess and Loss: the program's and the reference's. -/
open Go.Vm
set_option linter.unusedVariables false
namespace Go.Proofs.Ytnalgdobglfndaa.T
open Go

section
variable {ro : List ABlk} {h hp : Heap} {a b c v : AVal} {x : List (List Int)} {z y : List Int}

end
end Go.Proofs.Ytnalgdobglfndaa.T

/- The law that compares Can, Guess and Loss. -/
open Go.Vm
set_option linter.unusedVariables false
namespace Go.Proofs.Ytnalgdobglfndaa.T
open Go

section
variable {ro : List ABlk} {h hp : Heap} {a b c v : AVal} {x : List (List Int)} {z y : List Int}

end
end Go.Proofs.Ytnalgdobglfndaa.T

/- Goals whose means are near: room, guess and loss are known; the law about Cover's theorem. -/
open Go.Vm
set_option linter.unusedVariables false
namespace Go.Proofs.Ytnalgdobglfndaa.T
open Go

def nearJ (z : List Int) (j i : Nat) : Prop := sumO z j (2 * i) - sumO z j (2 * i + 1) ≤ 60 * 2 ^ j ∧ sumO z j (2 * i + 1) - sumO z j (2 * i) ≤ 60 * 2 ^ j
instance (z : List Int) (j i : Nat) : Decidable (nearJ z j i) := inferInstanceAs (Decidable (_ ∧ _))
def nearL (z : List Int) (k j : Nat) : Prop := ∀ i, i < 2 ^ (k - 1 - j) → nearJ z j i
instance (z : List Int) (k j : Nat) : Decidable (nearL z k j) := inferInstanceAs (Decidable (∀ i, i < 2 ^ (k - 1 - j) → nearJ z j i))
def nearP (z : List Int) (k : Nat) : Prop := ∀ j, j < k → nearL z k j
instance (z : List Int) (k : Nat) : Decidable (nearP z k) := inferInstanceAs (Decidable (∀ j, j < k → nearL z k j))

section
variable {ro : List ABlk} {h hp : Heap} {a b c v : AVal} {x : List (List Int)} {z y : List Int}

end
end Go.Proofs.Ytnalgdobglfndaa.T

/- Lists of rows that a function makes by append; a row cut; rows of an argument with their room. -/
open Go.Vm
set_option linter.unusedVariables false
namespace Go.Proofs.Ytnalgdobglfndaa.T
open Go

section
variable {ro : List ABlk} {h hp hp' : Heap} {a b v : AVal} {x : List (List Int)} {z : List Int}

end
end Go.Proofs.Ytnalgdobglfndaa.T

/- Series and walks: what fewer foretellers, one alone, and two that always differ come to. -/
open Go.Vm
set_option linter.unusedVariables false
namespace Go.Proofs.Ytnalgdobglfndaa.T
open Go

theorem take_getD {z : List Int} {m f : Nat} (hf : f < m) : (z.take m).getD f 0 = z.getD f 0 := by simp [List.getD, hf]
end Go.Proofs.Ytnalgdobglfndaa.T

/- The law about walks. -/
open Go.Vm
set_option linter.unusedVariables false
namespace Go.Proofs.Ytnalgdobglfndaa.T
open Go

section
variable {ro : List ABlk} {h hp hp' : Heap} {a b v : AVal} {x : List (List Int)} {z : List Int}

theorem keep0 (hp : Heap) : Keep [] hp := ⟨Nat.zero_le _, fun i hi => absurd hi (Nat.not_lt_zero _)⟩
end
end Go.Proofs.Ytnalgdobglfndaa.T

/- The law about walks: the function. -/
open Go.Vm
set_option linter.unusedVariables false
namespace Go.Proofs.Ytnalgdobglfndaa.T
open Go

section
variable {ro : List ABlk} {h hp hp' : Heap} {a b v : AVal} {x : List (List Int)} {z : List Int}

end
end Go.Proofs.Ytnalgdobglfndaa.T

/- An argument that is a list of rows: each with its room. -/
open Go.Vm
set_option linter.unusedVariables false
namespace Go.Proofs.Ytnalgdobglfndaa.T
open Go Go.RowKit Go.Deep Go.WideShapes Go.ChangeShapes

end Go.Proofs.Ytnalgdobglfndaa.T

/- The halver's methods: what it foretells, what it learns. -/
open Go.Vm
set_option linter.unusedVariables false
namespace Go.Proofs.Ytnalgdobglfndaa.T
open Go

/-- how often a foreteller was wrong in the first i rounds -/
def mis (x : List (List Int)) (z : List Int) (f : Nat) : Nat → Nat
  | 0 => 0
  | i + 1 => mis x z f i + (if (nthR x i).getD f 0 ≠ z.getD i 0 then 1 else 0)
def misL (x : List (List Int)) (z : List Int) (n i : Nat) : List Int := (List.range n).map fun f => ((mis x z f i : Nat) : Int)
/-- the sum of the votes of those that were never wrong -/
def hvN (w row : List Int) : Nat → Int
  | 0 => 0
  | f + 1 => if w.getD f 0 = 0 then hvN w row f + (2 * row.getD f 0 - 1) else hvN w row f
def sideV (n : Int) : Int := if 0 < n then 1 else 0
section
variable {ro : List ABlk} {h hp : Heap} {a b u v : AVal} {x : List (List Int)} {z row w : List Int}

end
end Go.Proofs.Ytnalgdobglfndaa.T

/- A program that foretells and learns, round by round. -/
open Go.Vm
set_option linter.unusedVariables false
namespace Go.Proofs.Ytnalgdobglfndaa.T
open Go

abbrev tabF : List MRow := [(71, (99, [])), (74, (103, [])), (75, (99, [(0, (1, false))])), (76, (105, []))]
abbrev tabL : List MRow := [(71, (100, [])), (74, (104, [])), (75, (100, [(0, (1, false))])), (76, (100, [(0, (1, false))]))]
abbrev tabN : List (String × List MRow) := [("Error", [(8, (84, [])), (10, (86, [])), (11, (88, [])), (14, (90, [])), (19, (97, []))]), ("RuntimeError", [(8, (85, [])), (10, (87, [])), (11, (89, [])), (14, (91, [])), (19, (98, []))]), ("dibber/luck.foretell", [(71, (99, [])), (74, (103, [])), (75, (99, [(0, (1, false))])), (76, (105, []))]), ("dibber/luck.learn", [(71, (100, [])), (74, (104, [])), (75, (100, [(0, (1, false))])), (76, (100, [(0, (1, false))]))]), ("String", [(116, (106, []))])]
def sayM (say : Nat → Int) (T i : Nat) : List Int := (List.range T).map fun j => if j < i then say j else 0
theorem sayM_len (say : Nat → Int) (T i : Nat) : (sayM say T i).length = T := by simp [sayM]
theorem sayM_zero (say : Nat → Int) (T : Nat) : sayM say T 0 = zeros T := by
  refine List.ext_getElem (by simp [sayM, zeros]) fun j h1 h2 => by simp [sayM, zeros]
theorem sayM_set {say : Nat → Int} {T i : Nat} (hi : i < T) : (sayM say T i).set i (say i) = sayM say T (i + 1) := by
  refine List.ext_getElem (by simp [sayM]) fun j h1 h2 => ?_
  rw [List.getElem_set]
  by_cases e : i = j
  · subst e; rw [if_pos rfl]; simp [sayM]
  · rw [if_neg e]
    simp only [sayM, List.getElem_map, List.getElem_range]
    by_cases h : j < i
    · rw [if_pos h, if_pos (by omega)]
    · rw [if_neg h, if_neg (by omega)]
theorem sayM_get {say : Nat → Int} {T i j : Nat} (hj : j < T) (hi : j < i) : (sayM say T i).getD j 0 = say j := by simp [sayM, List.getD, hj, hi]

section
variable {ro : List ABlk} {h hp : Heap} {a b u v v0 : AVal} {x : List (List Int)} {z row w : List Int}

/-- a program whose state is a list of numbers in a block -/
theorem listen_ok {n q T : Nat} {say : Nat → Int} {st : Nat → List Int} (ha : IsMat ro h a x) (hb : IsRow ro h b z) (kh : Keep h hp) (hqh : h.length ≤ q) (hT : x.length = T) (hz : z.length = T) (hT2 : T ≤ 200) (hw : Holds hp q (ints (st 0)))
    (hF : ∀ i, i < T → ∀ (hp' : Heap) (u : AVal), IsRow ro hp' u (nthR x i) → Holds hp' q (ints (st i)) → ∃ f r, mget tabF v0 = some (f, r) ∧ callX F1 ro f [r, u] hp' = some (.i .i64 (say i), hp', hp'.length, hp'.length))
    (hLn : ∀ i, i < T → ∀ (hp' : Heap) (u : AVal), IsRow ro h u (nthR x i) → Keep h hp' → Holds hp' q (ints (st i)) → ∃ f r hp'' lw, mget tabL v0 = some (f, r) ∧ callX F1 ro f [r, u, .i .i64 (say i), .i .i64 (z.getD i 0)] hp' = some (.tup [], hp'', lw, hp'.length) ∧ q ≤ lw ∧ hp''.length = hp'.length ∧ (∀ j, j ≠ q → hp''[j]? = hp'[j]?) ∧ Holds hp'' q (ints (st (i + 1))))
    (hN : evP .e (.nilm tabN (.c (.bm "dibber/luck.learn" v0))) = some (.bm "dibber/luck.learn" v0)) :
    ∃ hp' lw, callX F1 ro 50 [v0, a, b] hp = some (wSl hp.length T, hp', lw, hp.length) ∧ q ≤ lw ∧ hp'.length = hp.length + 1 ∧ (∀ i, i ≠ q → i ≠ hp.length → hp'[i]? = hp[i]?) ∧ Holds hp' q (ints (st T)) ∧ Holds hp' hp.length (ints (sayM say T T)) := by
  have hq := hw.lt
  obtain ⟨hb1, eb⟩ : ∃ hb1, hb1 = hp ++ [some (newBlk 3 (.i .i64 0) T)] := ⟨_, rfl⟩
  have kp : Keep hp hb1 := by rw [eb]; exact Keep.app _
  have hbl : hb1.length = hp.length + 1 := by rw [eb]; simp
  have hnew : ∀ j, j ≠ hp.length → hb1[j]? = hp[j]? := fun j hj => by
    by_cases hlt : j < hp.length
    · exact kp.2 j hlt
    · rw [List.getElem?_eq_none (by omega), List.getElem?_eq_none (by omega)]
  have dS : Holds hb1 hp.length (ints (zeros T)) := by rw [eb]; exact newInts hp T
  obtain ⟨m', hrun, hp3, lw3, rfl, hlw3, hlw3', hl3, ho3, hw3, hs3⟩ := loop_all (b := fun s : Int × Mm => g50_b0 (meansX F1 ro) ro v0 b (wSl hp.length T) a (T : Int) s.1 s.2) T
    (fun i m => ∃ hp2 lw2, m = ⟨hp2, lw2, hp.length⟩ ∧ q ≤ lw2 ∧ lw2 ≤ hp.length ∧ hp2.length = hp.length + 1 ∧ (∀ j, j ≠ q → j ≠ hp.length → hp2[j]? = hp[j]?) ∧ Holds hp2 q (ints (st i)) ∧ Holds hp2 hp.length (ints (sayM say T i)))
    (fun i m hi hI => by
      obtain ⟨hp2, lw2, rfl, hlw2, hlw2', hl2, ho2, hw2, hs2⟩ := hI
      have kp2 : Keep h hp2 := ⟨by have := kh.1; omega, fun j hj => by rw [ho2 j (by omega) (by have := kh.1; omega)]; exact kh.2 j hj⟩
      obtain ⟨p1, u, e1, eld, hu⟩ := at_matK ha (show i < x.length by omega)
      have e2 := (eld (l := lw2) (q := hp.length) kp2).1
      obtain ⟨f, r, hm1, hc1⟩ := hF i hi hp2 u (row_by hu kp2) hw2
      have c1 := callM_pure (l := lw2) (p := hp.length) hc1 (by omega) (by omega)
      have g4 := ixS_eq (q := ⟨false, hp.length, 0⟩) (cap := .known T) hi
      obtain ⟨hp4, hst, hs4, hl4, ho4⟩ := hs2.setG (ro := ro) (l := lw2) (p := hp.length) (k := i) (v := .i .i64 (say i)) (by rw [ints_len, sayM_len]; exact hi) rfl rfl rfl
      rw [ints_set, sayM_set hi] at hs4
      have hw4 : Holds hp4 q (ints (st i)) := hw2.keep (ho4 q (by omega))
      have kp4 : Keep h hp4 := ⟨by have := kh.1; omega, fun j hj => by rw [ho4 j (by have := kh.1; omega)]; exact kp2.2 j hj⟩
      obtain ⟨p2, e3, eld2⟩ := at_rowK hb (show i < z.length by omega)
      have e4 := (eld2 (l := 0) (q := 0) kp4).2
      have g5 := hs4.oneA (ro := ro) (k := i) (by rw [ints_len, sayM_len]; exact hi)
      rw [ints_get (by rw [sayM_len]; exact hi), sayM_get hi (by omega)] at g5
      obtain ⟨f', r', hp5, lw5, hm2, hc2, q1, q2, q3, q4⟩ := hLn i hi hp4 u hu kp4 hw4
      have c2 := callM_eq (call := callX F1 ro) (m := ⟨hp4, min lw2 hp.length, hp.length⟩) hc2
      have hp45 : min hp.length hp4.length = hp.length := by omega
      rw [hp45] at c2
      simp only [Nat.zero_add] at g4 g5 hst
      refine ⟨⟨hp5, min (min lw2 hp.length) lw5, hp.length⟩, ?_, hp5, min (min lw2 hp.length) lw5, rfl, by omega, by omega, by omega, fun j h1 h2 => by rw [q3 j h1, ho4 j h2, ho2 j h1 h2], q4, hs4.keep (q3 _ (by omega))⟩
      simp only [g50_b0, forceB_eq, ltI_eq, lt_yes hi, cond_true, e1, e2, bindO_some, calliM, hm1, meansX_call, c1, bindP_some, asI_i, g4, hst, e3, hN, g5, e4, hm2, c2, forceI_eq]
      rw [wr_next (by omega)])
    (fun m hI => by simp only [g50_b0, forceB_eq, ltI_eq, lt_no, cond_false]) T 0 ⟨hb1, hp.length, hp.length⟩ (by omega) ⟨hb1, hp.length, rfl, by omega, Nat.le_refl _, hbl, (fun j _ h2 => hnew j h2), hw.by kp, by rw [sayM_zero]; exact dS⟩
  have e0 : ((0 : Nat) : Int) = 0 := rfl
  rw [e0] at hrun
  refine ⟨hp3, lw3, g50_ok (meansX_ok F1 ro) rfl ?_, hlw3, hl3, ho3, hw3, hs3⟩
  unfold g50
  have s1 := mk_ok (ro := ro) (hp := hp) (l := hp.length) (p := hp.length) (e := 3) (es := 1) (bytes := 8) (v := .i .i64 0) (n := T) (by omega) (by omega)
  rw [← eb] at s1
  have hl := len_mat (mat_by ha kh)
  rw [hT] at hl
  have hbel : (wSl hp.length T).bel hp.length = false := by
    have : Nat.blt hp.length hp.length = false := by rw [Bool.eq_false_iff]; simp [Nat.blt_eq]
    simp [AVal.bel, this]
  simp only [hl, bindO_some, asI_i, s1, bindP_some, meansX_loop, hrun, tupA]
  exact fin_out hbel
end
end Go.Proofs.Ytnalgdobglfndaa.T

/- Halving: the program and the reference answer the same. -/
open Go.Vm
set_option linter.unusedVariables false
namespace Go.Proofs.Ytnalgdobglfndaa.T
open Go

def hsay (x : List (List Int)) (z : List Int) (n i : Nat) : Int := sideV (hvN (misL x z n i) (nthR x i) n)
theorem rec_facts {n : Int} {x : List (List Int)} {z : List Int} (h : recE n x z = 0) : ∃ N : Nat, n = (N : Int) ∧ 1 ≤ N ∧ N ≤ 20 ∧ x.length ≤ 200 ∧ (∀ i, i < x.length → bitsP (nthR x i) ∧ (nthR x i).length = N) ∧ bitsP z ∧ z.length = x.length := by
  unfold recE at h
  split at h
  · cases h
  split at h
  · cases h
  split at h
  · rename_i h1 h2 h3
    refine ⟨n.toNat, by omega, by omega, by omega, by omega, fun i hi => ?_, h3.2.1, ?_⟩
    · have := h3.1.1 i hi
      exact ⟨this.1, by have := this.2; omega⟩
    · have := h3.2.2; omega
  · cases h
section
variable {ro : List ABlk} {h hp : Heap} {a b u v v0 : AVal} {x : List (List Int)} {z row w : List Int}

theorem err_bel (e : Int) (L : Nat) : (AVal.tup (.nsl :: [.i .i64 e])).bel L = true := nil_bel [e] L
end
end Go.Proofs.Ytnalgdobglfndaa.T

/- slices.Repeat of one number; the product of two small numbers in two words. -/
open Go.Vm
set_option linter.unusedVariables false
namespace Go.Proofs.Ytnalgdobglfndaa.T
open Go

/-- the upper word of a product -/
def mulHi (x0 x1 : Int) : Int :=
  let x15 := bitV .and .u64 x0 4294967295
  let x17 := shrV .u64 x0 32
  let x19 := bitV .and .u64 x1 4294967295
  let x21 := shrV .u64 x1 32
  let x24 := wr .u64 (x15 * x19)
  let x27 := wr .u64 (x17 * x19)
  let x29 := shrV .u64 x24 32
  let x30 := wr .u64 (x27 + x29)
  let x32 := bitV .and .u64 x30 4294967295
  let x34 := shrV .u64 x30 32
  let x38 := wr .u64 (x15 * x21)
  let x39 := wr .u64 (x32 + x38)
  let x42 := wr .u64 (x17 * x21)
  let x44 := wr .u64 (x42 + x34)
  let x46 := shrV .u64 x39 32
  wr .u64 (x44 + x46)
theorem mulHi_all : ∀ n : Nat, n < 21 → mulHi 1 (n : Int) = 0 := by decide +kernel
theorem wr_u64_one : ∀ n : Nat, n < 21 → wr .u64 (1 * (n : Int)) = (n : Int) := by decide +kernel
/-- the first j are 1, the rest 0 -/
def firstOnes (N j : Nat) : List Int := (List.range N).map fun t => if t < j then 1 else 0
theorem firstOnes_len (N j : Nat) : (firstOnes N j).length = N := by simp [firstOnes]
theorem firstOnes_get {N j t : Nat} (ht : t < N) : (firstOnes N j).getD t 0 = if t < j then 1 else 0 := by simp [firstOnes, List.getD, ht]
/-- part of a list replaced -/
def cpL (vs ws : List Int) (j k : Nat) : List Int := (List.range vs.length).map fun t => if j ≤ t ∧ t < j + k then ws.getD (t - j) 0 else vs.getD t 0

section
variable {ro : List ABlk} {h hp : Heap} {a b u v v0 : AVal} {x : List (List Int)} {z row w vs ws : List Int}

theorem ones_ints : ∀ (w : List Int), ones (ints w) = true
  | [] => rfl
  | n :: w => by
    have := ones_ints w
    simp only [ints, List.map_cons, ones, Bool.and_eq_true] at this ⊢
    exact ⟨rfl, this⟩
theorem nonp_ints : ∀ (w : List Int), nonp (ints w) = true
  | [] => rfl
  | n :: w => by
    have := nonp_ints w
    simp only [ints, List.map_cons, nonp, Bool.and_eq_true] at this ⊢
    exact ⟨rfl, this⟩
theorem mul_ok {n : Nat} (hn : n ≤ 20) : callX F1 ro 73 [.i .u64 1, .i .u64 (n : Int)] h = some (.tup [.i .u64 0, .i .u64 (n : Int)], h, h.length, h.length) := by
  have h81 : callX F1 ro 81 [.i .u64 1, .i .u64 (n : Int)] h = some (.tup [.i .u64 0, .i .u64 (n : Int)], h, h.length, h.length) := by
    refine g81_ok (meansX_ok F1 ro) rfl ?_
    unfold g81
    have e := mulHi_all n (by omega)
    simp only [mulHi] at e
    simp only [forceI_eq, e, wr_u64_one n (by omega), tupA]
    exact fin_pure rfl
  refine g73_ok (meansX_ok F1 ro) rfl ?_
  unfold g73
  have e0 : evP .e (.ext 0 (.c (.tup [.i .u64 0, .i .u64 (n : Int)]))) = some (.i .u64 0) := rfl
  have e1 : evP .e (.ext 1 (.c (.tup [.i .u64 0, .i .u64 (n : Int)]))) = some (.i .u64 (n : Int)) := rfl
  have a0 : ∀ (k : Int → Option (AVal × Heap × Nat × Nat)) (n : Int), asI .u64 (.i .u64 n) k = k n := fun k n => rfl
  simp only [meansX_call, cp0 h81, bindP_some, e0, e1, bindO_some, a0, tupA]
  exact fin_pure rfl
theorem cpy_ok {q q2 j n1 n2 k l p : Nat} {c1 c2 : Cap} (a : Holds hp q (ints vs)) (s : Holds hp q2 (ints ws)) (hk : k = min n2 n1) (hk1 : k ≤ 1000) (hj : j + k ≤ vs.length) (hk2 : k ≤ ws.length) (hl : l ≤ q) :
    ∃ hp', stepM ro ⟨hp, l, p⟩ (.cpy 1 (.c (.sl ⟨false, q, j⟩ n1 c1)) (.c (.sl ⟨false, q2, 0⟩ n2 c2))) = some (.i .i64 (k : Int), ⟨hp', l, p⟩) ∧ Holds hp' q (ints (cpL vs ws j k)) ∧ hp'.length = hp.length ∧ ∀ i, i ≠ q → hp'[i]? = hp[i]? := by
  obtain ⟨blk, h1, h2, h3⟩ := a
  obtain ⟨b2, s1, s2, s3⟩ := s
  rw [ints_len] at h2 h3 s2 s3
  have hrow : b2.c.row 0 k = ints (ws.take k) := row_row k 0 _ (by rw [ints_len, List.length_take]; omega) fun t ht => by
    rw [Nat.zero_add, s3 t (by omega), ints_get (by omega), ints_get (by rw [List.length_take]; omega), take_getD ht]
  have hlen : (ints (ws.take k)).length = k := by rw [ints_len, List.length_take]; omega
  refine ⟨hp.set q (some { blk with c := blk.c.splice j (ints (ws.take k)) }), ?_, ⟨_, lget_set h1 _, ?_, fun t ht => ?_⟩, by simp, fun i hi => List.getElem?_set_ne (Ne.symm hi)⟩
  · have e1 : rdB ro hp ⟨false, q2, 0⟩ = some b2 := rdB_heap s1 0
    have e2 : Nat.ble (0 + k * 1) b2.n = true := by rw [Nat.ble_eq]; omega
    have e3 : wrH hp ⟨false, q, j⟩ (ints (ws.take k)) = some (hp.set q (some { blk with c := blk.c.splice j (ints (ws.take k)) })) := by
      have : (Nat.ble (j + (ints (ws.take k)).length) blk.n && ones (ints (ws.take k))) = true := by
        rw [ones_ints, Bool.and_true, Nat.ble_eq, hlen]; omega
      simp only [wrH, cond_false, h1, this, cond_true, lset_eq]
    have e4 : mkI .i64 ((k : Nat) : Int) = .i .i64 (k : Int) := by rw [mkI_eq]
    have e5 : min l q = l := by omega
    have hk' : min n2 n1 = k := hk.symm
    have hrow' : b2.c.row 0 (k * 1) = ints (ws.take k) := by rw [Nat.mul_one]; exact hrow
    simp only [stepM, stepK, st_cpy, opd, e1, hk', e2, cond_true, hrow', e3, e4, nonp_ints, e5, St.mm]
  · rw [ints_len]; simp only [cpL, List.length_map, List.length_range]; exact h2
  · rw [ints_len] at ht
    have ht' : t < vs.length := by simpa [cpL] using ht
    rw [ints_get ht]
    show (blk.c.splice j (ints (ws.take k))).get t = _
    have e : (cpL vs ws j k).getD t 0 = if j ≤ t ∧ t < j + k then ws.getD (t - j) 0 else vs.getD t 0 := by simp [cpL, List.getD, ht']
    rw [spliceGet, hlen, e]
    by_cases hc : j ≤ t ∧ t < j + k
    · rw [if_pos hc, if_pos hc, ints_get (by rw [List.length_take]; omega), take_getD (by omega)]
    · rw [if_neg hc, if_neg hc, h3 t ht', ints_get ht']
theorem Repeat_ok {N q0 : Nat} (hN : 1 ≤ N) (hN2 : N ≤ 20) (s : Holds hp q0 (ints [1])) :
    ∃ hp', callX F1 ro 51 [.sl ⟨false, q0, 0⟩ 1 (.known 1), .i .i64 (N : Int)] hp = some (wSl hp.length N, hp', hp.length, hp.length) ∧ Keep hp hp' ∧ hp'.length = hp.length + 1 ∧ Holds hp' hp.length (ints (firstOnes N N)) := by
  obtain ⟨hb1, eb⟩ : ∃ hb1, hb1 = hp ++ [some (newBlk 3 (.i .i64 0) N)] := ⟨_, rfl⟩
  have kp : Keep hp hb1 := by rw [eb]; exact Keep.app _
  have hbl : hb1.length = hp.length + 1 := by rw [eb]; simp
  have dS : Holds hb1 hp.length (ints (zeros N)) := by rw [eb]; exact newInts hp N
  have s0 := s.lt
  have s1 := mk_ok (ro := ro) (hp := hp) (l := hp.length) (p := hp.length) (e := 3) (es := 1) (bytes := 8) (v := .i .i64 0) (n := N) (by omega) (by omega)
  rw [← eb] at s1
  obtain ⟨hp2, c1, w1, l1, o1⟩ := cpy_ok (ro := ro) (l := hp.length) (p := hp.length) (j := 0) (n1 := N) (n2 := 1) (k := 1) (c1 := .known N) (c2 := .known 1) dS (s.by kp) (by omega) (by omega) (by simp [zeros]; omega) (by simp) (Nat.le_refl _)
  have ew : cpL (zeros N) [1] 0 1 = firstOnes N 1 := by
    refine List.ext_getElem (by simp [cpL, firstOnes, zeros]) fun t h1 h2 => ?_
    have ht : t < N := by simpa [firstOnes] using h2
    simp only [cpL, firstOnes, List.getElem_map, List.getElem_range]
    by_cases h0 : t = 0
    · subst h0; simp
    · rw [if_neg (by omega), if_neg (by omega)]; simp [zeros, List.getD, ht]
  rw [ew] at w1
  obtain ⟨o, hrun, hp3, rfl, l3, o3, w3⟩ : ∃ o, loopX (fun s : Int × Mm => g51_b1 (meansX F1 ro) ro (wSl hp.length N) s.1 s.2) (((1 : Nat) : Int), (⟨hp2, hp.length, hp.length⟩ : Mm)) = some o ∧
      ∃ hp3, o = (⟨hp3, hp.length, hp.length⟩ : Mm) ∧ hp3.length = hp.length + 1 ∧ (∀ i, i ≠ hp.length → hp3[i]? = hb1[i]?) ∧ Holds hp3 hp.length (ints (firstOnes N N)) := by
    refine loopX_rule (b := fun s : Int × Mm => g51_b1 (meansX F1 ro) ro (wSl hp.length N) s.1 s.2)
      (fun s => ∃ (j : Nat) (hp3 : Heap), 1 ≤ j ∧ j ≤ N ∧ s = ((j : Int), (⟨hp3, hp.length, hp.length⟩ : Mm)) ∧ hp3.length = hp.length + 1 ∧ (∀ i, i ≠ hp.length → hp3[i]? = hb1[i]?) ∧ Holds hp3 hp.length (ints (firstOnes N j)))
      (fun o => ∃ hp3, o = (⟨hp3, hp.length, hp.length⟩ : Mm) ∧ hp3.length = hp.length + 1 ∧ (∀ i, i ≠ hp.length → hp3[i]? = hb1[i]?) ∧ Holds hp3 hp.length (ints (firstOnes N N)))
      (fun s => N - s.1.toNat) ?_ _ ⟨1, hp2, Nat.le_refl _, hN, rfl, by omega, o1, w1⟩
    rintro s ⟨j, hp3, hj1, hjN, rfl, l3, o3, w3⟩
    have hlen : evP .e (.len false (.c (wSl hp.length N))) = some (.i .i64 (N : Int)) := by
      simp [evP, ev_len, opd, mkI_eq]
    by_cases hjn : j = N
    · subst hjn
      right
      refine ⟨_, ?_, hp3, rfl, l3, o3, w3⟩
      simp only [g51_b1, hlen, bindO_some, asI_i, forceB_eq, ltI_eq, lt_no, cond_false]
    left
    have hjN' : j < N := by omega
    obtain ⟨m, hm⟩ : ∃ m, j = m + 1 := ⟨j - 1, by omega⟩
    have e1 : evP .e (.slS 1 (.c (wSl hp.length N)) (some (.c (.i .i64 (j : Int)))) none none) = some (.sl ⟨false, hp.length, j⟩ (N - j) (.known (N - j))) := by
      have hble : Nat.ble (m + 1) N = true := by rw [Nat.ble_eq]; omega
      have hblt : Nat.blt (m + 1) N = true := by rw [Nat.blt_eq]; omega
      have hblN : Nat.ble N N = true := by rw [Nat.ble_eq]; omega
      have en : ((j : Nat) : Int) = Int.ofNat (m + 1) := by rw [hm]; rfl
      rw [en, hm]
      simp only [evP, ev_slS, opd, sl_lh, Option.map_some, Option.map_none, sbound, hble, cond_true, hblt, Nat.mul_one, Nat.zero_add]
    have e2 : evP .e (.slS 1 (.c (wSl hp.length N)) none (some (.c (.i .i64 (j : Int)))) none) = some (.sl ⟨false, hp.length, 0⟩ j (.known N)) := by
      have hble : Nat.ble j (capB (.known N) N) = true := by rw [Nat.ble_eq]; show j ≤ N; omega
      have en : ((j : Nat) : Int) = Int.ofNat j := rfl
      simp only [evP, ev_slS, opd, sl_lh, Option.map_some, Option.map_none, sbound, en, hble, cond_true]
    obtain ⟨hp4, c4, w4, l4, o4⟩ := cpy_ok (ro := ro) (l := hp.length) (p := hp.length) (j := j) (n1 := N - j) (n2 := j) (k := min j (N - j)) (c1 := .known (N - j)) (c2 := .known N) w3 w3 rfl (by omega) (by rw [firstOnes_len]; omega) (by rw [firstOnes_len]; omega) (Nat.le_refl _)
    have ew : cpL (firstOnes N j) (firstOnes N j) j (min j (N - j)) = firstOnes N (j + min j (N - j)) := by
      refine List.ext_getElem (by simp [cpL, firstOnes]) fun t h1 h2 => ?_
      have ht : t < N := by simpa [firstOnes] using h2
      simp only [cpL, List.getElem_map, List.getElem_range, firstOnes_get ht]
      conv => rhs; simp only [firstOnes, List.getElem_map, List.getElem_range]
      by_cases hc : j ≤ t ∧ t < j + min j (N - j)
      · rw [if_pos hc, firstOnes_get (by omega), if_pos (by omega), if_pos (by omega)]
      · rw [if_neg hc]
        by_cases h0 : t < j
        · rw [if_pos h0, if_pos (by omega)]
        · rw [if_neg h0, if_neg (by omega)]
    rw [ew] at w4
    have w5 : Go.Vm.wr .i64 ((j : Int) + ((min j (N - j) : Nat) : Int)) = ((j + min j (N - j) : Nat) : Int) := by
      have := Nat.min_le_left j (N - j)
      rw [wr_id' (by omega) (by omega)]; omega
    refine ⟨(((j + min j (N - j) : Nat) : Int), ⟨hp4, hp.length, hp.length⟩), ?_, ⟨j + min j (N - j), hp4, by omega, by omega, rfl, by omega, fun i hi => by rw [o4 i hi, o3 i hi], w4⟩, ?_⟩
    · simp only [g51_b1, hlen, bindO_some, asI_i, forceB_eq, ltI_eq, lt_yes hjN', cond_true, e1, e2, c4, bindP_some, forceI_eq, w5]
    · show N - (((j + min j (N - j) : Nat) : Int)).toNat < N - ((j : Int)).toNat
      omega
  have kp3 : Keep hp hp3 := ⟨by omega, fun i hi => by rw [o3 i (by omega)]; exact kp.2 i hi⟩
  refine ⟨hp3, g51_ok (meansX_ok F1 ro) rfl ?_, kp3, l3, w3⟩
  unfold g51
  have hlen0 : evP .e (.len false (.c (.sl ⟨false, q0, 0⟩ 1 (.known 1)))) = some (.i .i64 1) := rfl
  have u1 : Go.Vm.wr .u64 1 = 1 := by decide +kernel
  have u2 : Go.Vm.wr .u64 (N : Int) = (N : Int) := wr_u64_id (by omega)
  have u3 : Go.Vm.wr .i64 (N : Int) = (N : Int) := wr_nat (by omega)
  have cM := cp0 (F := F1) (mul_ok (ro := ro) (h := hp) hN2)
  have e0 : evP .e (.ext 0 (.c (.tup [.i .u64 0, .i .u64 (N : Int)]))) = some (.i .u64 0) := rfl
  have e1 : evP .e (.ext 1 (.c (.tup [.i .u64 0, .i .u64 (N : Int)]))) = some (.i .u64 (N : Int)) := rfl
  have a0 : ∀ (k : Int → Option (AVal × Heap × Nat × Nat)) (n : Int), asI .u64 (.i .u64 n) k = k n := fun k n => rfl
  have c1' : stepM ro ⟨hb1, hp.length, hp.length⟩ (.cpy 1 (.c (wSl hp.length N)) (.c (.sl ⟨false, q0, 0⟩ 1 (.known 1)))) = _ := c1
  have hbel : (wSl hp.length N).bel hp.length = false := by
    have : Nat.blt hp.length hp.length = false := by rw [Bool.eq_false_iff]; simp [Nat.blt_eq]
    simp [AVal.bel, this]
  simp only [forceB_eq, ltI_eq, dF (show ¬ (N : Int) < 0 by omega), cond_false, hlen0, bindO_some, asI_i, forceI_eq, u1, u2, meansX_call, cM, bindP_some, e0, e1, a0, dF (show ¬ (0 : Int) < 0 by omega), dF (show ¬ (9223372036854775807 : Int) < (N : Int) by omega), u3, s1, c1', meansX_loop, hrun, tupA]
  exact fin_out hbel
end
end Go.Proofs.Ytnalgdobglfndaa.T

/- Winnow: the program and the reference answer the same. -/
open Go.Vm
set_option linter.unusedVariables false
namespace Go.Proofs.Ytnalgdobglfndaa.T
open Go

/-- the weights of those that say 1, summed -/
def wsN (w row : List Int) : Nat → Int
  | 0 => 0
  | f + 1 => wr .i64 (wsN w row f + wr .i64 (row.getD f 0 * w.getD f 0))
def winV (w row : List Int) (n : Nat) : Int := if wsN w row n < (n : Int) then 0 else 1
/-- the weights after the first c foretellers -/
def wlr (w row : List Int) (told : Int) (c : Nat) : List Int := (List.range w.length).map fun f => if f < c ∧ row.getD f 0 = 1 then wr .i64 (w.getD f 0 * wr .i64 (2 * told)) else w.getD f 0
theorem wlr_len (w row : List Int) (told : Int) (c : Nat) : (wlr w row told c).length = w.length := by simp [wlr]
theorem wlr_get {w row : List Int} {told : Int} {c f : Nat} (hf : f < w.length) : (wlr w row told c).getD f 0 = if f < c ∧ row.getD f 0 = 1 then wr .i64 (w.getD f 0 * wr .i64 (2 * told)) else w.getD f 0 := by simp [wlr, List.getD, hf]
theorem wlr_zero (w row : List Int) (told : Int) : wlr w row told 0 = w := by
  refine List.ext_getElem (by simp [wlr]) fun j h1 h2 => ?_
  simp [wlr, List.getD, h2]
theorem wlr_same {w row : List Int} {told : Int} {c : Nat} (he : row.getD c 0 ≠ 1) : wlr w row told (c + 1) = wlr w row told c := by
  unfold wlr
  refine List.map_congr_left fun f _ => ?_
  by_cases e : f = c
  · subst e; rw [if_neg (fun hh => he hh.2), if_neg (fun hh => by omega)]
  · by_cases h : f < c ∧ row.getD f 0 = 1
    · rw [if_pos h, if_pos ⟨by omega, h.2⟩]
    · rw [if_neg h, if_neg (fun hh => h ⟨by omega, hh.2⟩)]
theorem wlr_set {w row : List Int} {told : Int} {c : Nat} (hc : c < w.length) (he : row.getD c 0 = 1) : (wlr w row told c).set c (wr .i64 (w.getD c 0 * wr .i64 (2 * told))) = wlr w row told (c + 1) := by
  refine List.ext_getElem (by simp [wlr]) fun j h1 h2 => ?_
  have hj : j < w.length := by simpa [wlr] using h2
  rw [List.getElem_set]
  by_cases e : c = j
  · subst e
    rw [if_pos rfl]
    simp only [wlr, List.getElem_map, List.getElem_range]
    rw [if_pos ⟨by omega, he⟩]
  · rw [if_neg e]
    simp only [wlr, List.getElem_map, List.getElem_range]
    by_cases h : j < c ∧ row.getD j 0 = 1
    · rw [if_pos h, if_pos ⟨by omega, h.2⟩]
    · rw [if_neg h, if_neg (fun hh => h ⟨by omega, hh.2⟩)]
/-- the weights before round i -/
def wtL (x : List (List Int)) (z : List Int) (n : Nat) : Nat → List Int
  | 0 => firstOnes n n
  | i + 1 => if winV (wtL x z n i) (nthR x i) n = z.getD i 0 then wtL x z n i else wlr (wtL x z n i) (nthR x i) (z.getD i 0) n
theorem wtL_len (x : List (List Int)) (z : List Int) (n : Nat) : ∀ i, (wtL x z n i).length = n
  | 0 => firstOnes_len n n
  | i + 1 => by
    have := wtL_len x z n i
    simp only [wtL]; split
    · exact this
    · rw [wlr_len]; exact this
def wsay (x : List (List Int)) (z : List Int) (n i : Nat) : Int := winV (wtL x z n i) (nthR x i) n
/-- what Winnow answers -/
def winR (n : Int) (x : List (List Int)) (z : List Int) : List Int × Int :=
  if recE n x z ≠ 0 then ([], recE n x z) else (sayM (wsay x z n.toNat) x.length x.length, 0)

section
variable {ro : List ABlk} {h hp : Heap} {a b u v v0 : AVal} {x : List (List Int)} {z row w : List Int}

theorem win_bool (n : Nat) : (!decide (wsN w row n < (n : Int))) = true ∧ winV w row n = 1 ∨ (!decide (wsN w row n < (n : Int))) = false ∧ winV w row n = 0 := by
  unfold winV
  by_cases h : wsN w row n < (n : Int)
  · right; rw [dT h, if_pos h]; exact ⟨rfl, rfl⟩
  · left; rw [dF h, if_neg h]; exact ⟨rfl, rfl⟩
/-- what a winnower foretells -/
theorem wforetell_ok {n q : Nat} (hu : IsRow ro hp u row) (hrl : row.length = n) (hn : n ≤ 100) (hw : Holds hp q (ints w)) (hwl : w.length = n) :
    callX F1 ro 103 [.agg [wSl q n], u] hp = some (.i .i64 (winV w row n), hp, hp.length, hp.length) := by
  refine g103_ok (meansX_ok F1 ro) rfl ?_
  unfold g103
  have s1 := bx_ok (ro := ro) (hp := hp) (l := hp.length) (p := hp.length) (vs := [wSl q n]) (n := 1) 74 rfl
  obtain ⟨hb1, eb⟩ : ∃ hb1, hb1 = hp ++ [some (blkOf 74 [wSl q n])] := ⟨_, rfl⟩
  rw [← eb] at s1
  have kp : Keep hp hb1 := by rw [eb]; exact Keep.app _
  have dB : Holds hb1 hp.length [wSl q n] := by rw [eb]; exact Holds.new hp 74 _
  have dW := hw.by kp
  have f1 := dB.one (ro := ro) (l := hp.length) (p := hp.length) (k := 0) (by simp)
  simp only [Nat.zero_add] at f1
  have f1' : ldM ro ⟨hb1, hp.length, hp.length⟩ true 1 (.p (some ⟨false, hp.length, 0⟩)) = some (.sl ⟨false, q, 0⟩ n (.known n)) := f1
  have hloop := loop_run (b := fun s : Int × Int => g103_b0 (meansX F1 ro) ro u (.p (some ⟨false, hp.length, 0⟩)) row.length ⟨hb1, hp.length, hp.length⟩ s.1 s.2) (fun f => (wsN w row f, (f : Int))) n (r0 := wsN w row n)
    (by simp only [g103_b0, hrl, forceB_eq, ltI_eq, lt_no, cond_false])
    (fun f hf => by
      obtain ⟨p1, h1, hld⟩ := at_rowK hu (show f < row.length by omega)
      have h2 := (hld (l := hp.length) (q := hp.length) kp).1
      have g4 := ixS_eq (q := ⟨false, q, 0⟩) (cap := .known n) hf
      have g5 := dW.one (ro := ro) (l := hp.length) (p := hp.length) (k := f) (by rw [ints_len]; omega)
      rw [ints_get (by omega)] at g5
      simp only [Nat.zero_add] at g4 g5
      simp only [g103_b0, hrl, forceB_eq, ltI_eq, lt_yes hf, cond_true, h1, h2, bindO_some, asI_i, p_faddr, Nat.zero_add, f1', g4, g5, forceI_eq]
      rw [wr_next (by omega)]; rfl)
  have e0 : ((0 : Nat) : Int) = 0 := rfl
  have e1 : wsN w row 0 = 0 := rfl
  rw [e0, e1] at hloop
  simp only [s1, bindP_some, len_row hu, bindO_some, asI_i, meansX_loop, forceB_eq, ltI_eq, hrl]
  rw [hrl] at hloop
  rcases win_bool (w := w) (row := row) n with ⟨h1, h2⟩ | ⟨h1, h2⟩
  · rw [h2]; simp only [hloop, bindO_some, h1, cond_true, tupA]; exact fin_keep kp rfl
  · rw [h2]; simp only [hloop, bindO_some, h1, cond_false, tupA]; exact fin_keep kp rfl
/-- what a winnower learns -/
theorem wlearn_ok {n q : Nat} {say told : Int} (hu : IsRow ro h u row) (kh : Keep h hp) (hqh : h.length ≤ q) (hrl : row.length = n) (hn : n ≤ 100) (hw : Holds hp q (ints w)) (hwl : w.length = n) :
    ∃ hp' lw, callX F1 ro 104 [.agg [wSl q n], u, .i .i64 say, .i .i64 told] hp = some (.tup [], hp', lw, hp.length) ∧ q ≤ lw ∧ hp'.length = hp.length ∧ (∀ i, i ≠ q → hp'[i]? = hp[i]?) ∧ Holds hp' q (ints (if say = told then w else wlr w row told n)) := by
  have hq := hw.lt
  have s1 := bx_ok (ro := ro) (hp := hp) (l := hp.length) (p := hp.length) (vs := [wSl q n]) (n := 1) 74 rfl
  obtain ⟨hb1, eb⟩ : ∃ hb1, hb1 = hp ++ [some (blkOf 74 [wSl q n])] := ⟨_, rfl⟩
  rw [← eb] at s1
  have kp : Keep hp hb1 := by rw [eb]; exact Keep.app _
  by_cases hst : say = told
  · have e0 : (say == told) = true := by rw [hst]; exact beq_self_eq_true _
    rw [if_pos hst]
    refine ⟨hp, hp.length, g104_ok (meansX_ok F1 ro) rfl ?_, by omega, rfl, fun _ _ => rfl, hw⟩
    unfold g104
    simp only [s1, bindP_some, forceB_eq, eqI_eq, e0, cond_true, tupA]
    exact fin_keep kp rfl
  have e0 : (say == told) = false := by rw [beq_eq_false_iff_ne]; exact hst
  rw [if_neg hst]
  have hbl : hb1.length = hp.length + 1 := by rw [eb]; simp
  have dB : Holds hb1 hp.length [wSl q n] := by rw [eb]; exact Holds.new hp 74 _
  have dW := hw.by kp
  have kh1 := kh.trans kp
  obtain ⟨m', hrun, hp3, lw3, rfl, hlw3, hl3, ho3, hw3⟩ := loop_all (b := fun s : Int × Mm => g104_b0 (meansX F1 ro) ro told (.p (some ⟨false, hp.length, 0⟩)) u row.length s.1 s.2) n
    (fun c m => ∃ hp2 lw2, m = ⟨hp2, lw2, hp.length⟩ ∧ q ≤ lw2 ∧ hp2.length = hb1.length ∧ (∀ i, i ≠ q → hp2[i]? = hb1[i]?) ∧ Holds hp2 q (ints (wlr w row told c)))
    (fun c m hc hI => by
      obtain ⟨hp2, lw2, rfl, hlw2, hl2, ho2, hw2⟩ := hI
      have kp2 : Keep h hp2 := keep_o kh1 hqh hl2 ho2
      obtain ⟨p1, h1, hld⟩ := at_rowK hu (show c < row.length by omega)
      have h2 := (hld (l := lw2) (q := hp.length) kp2).1
      by_cases he : row.getD c 0 = 1
      · have e0 : (row.getD c 0 == 1) = true := by rw [he]; rfl
        have dB2 : Holds hp2 hp.length [wSl q n] := dB.keep (ho2 _ (by omega))
        have f1 := dB2.one (ro := ro) (l := lw2) (p := hp.length) (k := 0) (by simp)
        simp only [Nat.zero_add] at f1
        have f1' : ldM ro ⟨hp2, lw2, hp.length⟩ true 1 (.p (some ⟨false, hp.length, 0⟩)) = some (.sl ⟨false, q, 0⟩ n (.known n)) := f1
        have g4 := ixS_eq (q := ⟨false, q, 0⟩) (cap := .known n) hc
        have hul : c < (wlr w row told c).length := by rw [wlr_len]; omega
        have g5 := hw2.one (ro := ro) (l := lw2) (p := hp.length) (k := c) (by rw [ints_len]; exact hul)
        rw [ints_get hul, wlr_get (by omega), if_neg (fun hh => Nat.lt_irrefl c hh.1)] at g5
        obtain ⟨hp3, hst, hw3, hl3, ho3⟩ := hw2.setG (ro := ro) (l := lw2) (p := hp.length) (k := c) (v := .i .i64 (Go.Vm.wr .i64 (w.getD c 0 * Go.Vm.wr .i64 (2 * told)))) (by rw [ints_len]; exact hul) rfl rfl rfl
        simp only [Nat.zero_add] at g4 g5 hst
        refine ⟨⟨hp3, min lw2 q, hp.length⟩, ?_, hp3, min lw2 q, rfl, by omega, by omega, fun j hj => by rw [ho3 j hj]; exact ho2 j hj, by rw [ints_set, wlr_set (by omega) he] at hw3; exact hw3⟩
        simp only [g104_b0, hrl, forceB_eq, ltI_eq, lt_yes hc, cond_true, h1, h2, bindO_some, asI_i, eqI_eq, e0, p_faddr, Nat.zero_add, f1', g4, g5, forceI_eq, hst, bindP_some]
        rw [wr_next (by omega)]
      · have e0 : (row.getD c 0 == 1) = false := by rw [beq_eq_false_iff_ne]; exact he
        refine ⟨⟨hp2, lw2, hp.length⟩, ?_, hp2, lw2, rfl, hlw2, hl2, ho2, by rw [wlr_same he]; exact hw2⟩
        simp only [g104_b0, hrl, forceB_eq, ltI_eq, lt_yes hc, cond_true, h1, h2, bindO_some, asI_i, eqI_eq, e0, cond_false, forceI_eq]
        rw [wr_next (by omega)])
    (fun m hI => by simp only [g104_b0, hrl, forceB_eq, ltI_eq, lt_no, cond_false]) n 0 ⟨hb1, hp.length, hp.length⟩ (by omega) ⟨hb1, hp.length, rfl, by omega, rfl, fun _ _ => rfl, by rw [wlr_zero]; exact dW⟩
  have e0' : ((0 : Nat) : Int) = 0 := rfl
  rw [e0'] at hrun
  have hkeep : ∀ i, i < hp.length → i ≠ q → hp3[i]? = hp[i]? := fun i hi hne => by rw [ho3 i hne]; exact kp.2 i hi
  refine ⟨hp3.take hp.length, lw3, g104_ok (meansX_ok F1 ro) rfl ?_, hlw3, by rw [List.length_take]; omega, fun i hne => ?_, hw3.keep (by rw [List.getElem?_take, if_pos hq])⟩
  · unfold g104
    simp only [s1, bindP_some, forceB_eq, eqI_eq, e0, cond_false, len_row (row_by hu kh), bindO_some, asI_i, meansX_loop, hrun, tupA]
    exact fin_take rfl
  · rw [List.getElem?_take]
    by_cases hi : i < hp.length
    · rw [if_pos hi]; exact hkeep i hi hne
    · rw [if_neg hi, List.getElem?_eq_none (by omega)]

theorem Winnow_ok {n : Int} (ha : IsMat ro h a x) (hl : LenOk x) (hb : IsRow ro h b z) (hz : z.length ≤ 9223372036854775807) : RetL ro h 21 [.i .i64 n, a, b] (winR n x z).1 [.i .i64 (winR n x z).2] := by
  unfold RetL
  suffices hs : ∃ v h', g21 (meansX F1 ro) ro n a b ⟨h, h.length, h.length⟩ = some (.tup (v :: [.i .i64 (winR n x z).2]), h', h.length, h.length) ∧ Keep h h' ∧ IsRow ro h' v (winR n x z).1 ∧ (winR n x z).1.length ≤ 1000 by
    obtain ⟨v, h', h1, h2⟩ := hs
    exact ⟨v, h', g21_ok (meansX_ok F1 ro) rfl h1, h2⟩
  unfold g21
  simp only [meansX_call, cp0 (checkRecord_ok (n := n) ha hl hb hz), bindP_some, asI_i, forceB_eq, eqI_eq]
  by_cases hr : recE n x z = 0
  case neg =>
    have e : (!(recE n x z == 0)) = true := by simpa using hr
    have e2 : winR n x z = ([], recE n x z) := by unfold winR; rw [if_pos hr]
    rw [e2]
    simp only [e, cond_true, tupA]
    exact ⟨.nsl, h, fin_pure (err_bel _ _), Keep.refl h, .inl ⟨rfl, rfl⟩, by simp⟩
  obtain ⟨N, rfl, hN1, hN2, hT, hrows, hzb, hzl⟩ := rec_facts hr
  have e : (!(recE (N : Int) x z == 0)) = false := by rw [hr]; rfl
  have e2 : winR (N : Int) x z = (sayM (wsay x z N) x.length x.length, 0) := by unfold winR; rw [if_neg (by simpa using hr)]; rfl
  rw [e2]
  -- the list of a 1
  have s1 : stepM ro ⟨h, h.length, h.length⟩ (.bsl 3 1 [(AVal.i IntKind.i64 0)] 1 [((0, 1), .c (.i .i64 1))]) = some (.sl ⟨false, h.length, 0⟩ 1 (.known 1), ⟨h ++ [some (blkOf 3 (ints [1]))], h.length, h.length⟩) := rfl
  obtain ⟨ha1, ea⟩ : ∃ ha1, ha1 = h ++ [some (blkOf 3 (ints [1]))] := ⟨_, rfl⟩
  rw [← ea] at s1
  have kpa : Keep h ha1 := by rw [ea]; exact Keep.app _
  have hal : ha1.length = h.length + 1 := by rw [ea]; simp
  have d1 : Holds ha1 h.length (ints [1]) := by rw [ea]; exact Holds.new h 3 _
  obtain ⟨hb1, cR, kR, lR, wR⟩ := Repeat_ok (ro := ro) hN1 hN2 d1
  have cR' := callM_eq (call := callX F1 ro) (m := ⟨ha1, h.length, h.length⟩) cR
  have mR : min h.length ha1.length = h.length := by omega
  rw [mR] at cR'
  have kp : Keep h hb1 := kpa.trans kR
  rw [hal] at wR cR'
  obtain ⟨hp', lw, c1, q1, q2, q3, q4, q5⟩ := listen_ok (ro := ro) (h := h) (hp := hb1) (v0 := .ifc 74 (.agg [wSl (h.length + 1) N])) (n := N) (q := h.length + 1) (T := x.length) (say := wsay x z N) (st := wtL x z N) ha hb kp (by omega) rfl hzl hT wR
    (fun i hi hp' u hu hw => ⟨103, .agg [wSl (h.length + 1) N], rfl, wforetell_ok hu (hrows i hi).2 (by omega) hw (wtL_len _ _ _ _)⟩)
    (fun i hi hp' u hu kh hw => by
      obtain ⟨hp'', lw, c, r1, r2, r3, r4⟩ := wlearn_ok (ro := ro) (h := h) (say := wsay x z N i) (told := z.getD i 0) hu kh (by omega) (hrows i hi).2 (by omega) hw (wtL_len _ _ _ _)
      exact ⟨104, .agg [wSl (h.length + 1) N], hp'', lw, rfl, c, r1, r2, r3, r4⟩)
    rfl
  have c2 := callM_eq (call := callX F1 ro) (m := ⟨hb1, h.length, h.length⟩) c1
  have m1 : min h.length lw = h.length := by omega
  have m2 : min h.length hb1.length = h.length := by omega
  rw [m1, m2] at c2
  have kp' : Keep h hp' := ⟨by omega, fun j hj => by rw [q3 j (by omega) (by omega)]; exact kp.2 j hj⟩
  have fl : (fillA [AVal.nsl] [((0, 1), wSl (h.length + 1) N)]).map AVal.agg = some (.agg [wSl (h.length + 1) N]) := rfl
  simp only [e, cond_false, s1, bindP_some, cR', fl, bindO_some, c2, tupA]
  exact ⟨_, hp', fin_out (sl_nb (by omega)), kp', holds_ints q5 (sayM_len _ _ _), by rw [sayM_len]; omega⟩
end
end Go.Proofs.Ytnalgdobglfndaa.T

/- Winnow by the reference. -/
open Go.Vm
set_option linter.unusedVariables false
namespace Go.Proofs.Ytnalgdobglfndaa.T
open Go

section
variable {ro : List ABlk} {h hp : Heap} {a b u v v0 : AVal} {x : List (List Int)} {z row w : List Int}

end
end Go.Proofs.Ytnalgdobglfndaa.T

/- A list of rows copied . -/
open Go.Vm
set_option linter.unusedVariables false
namespace Go.Proofs.Ytnalgdobglfndaa.T
open Go

section
variable {ro : List ABlk} {h hp hp' : Heap} {a b u v v0 : AVal} {x : List (List Int)} {z row w : List Int}

end
end Go.Proofs.Ytnalgdobglfndaa.T

/- The law about halving and winnowing. -/
open Go.Vm
set_option linter.unusedVariables false
namespace Go.Proofs.Ytnalgdobglfndaa.T
open Go
section
variable {ro : List ABlk} {h hp hp' : Heap} {a b u v v0 : AVal} {x : List (List Int)} {z row w : List Int}
theorem cond_of {β : Type} {c : Bool} {A B : Option β} (h : c = false) : cond c A B = B := by rw [h]; rfl
theorem bindP_of {β : Type} {o : Option (AVal × Mm)} {v : AVal} {m : Mm} {f : AVal → Mm → Option β} (h : o = some (v, m)) : bindP o f = f v m := by rw [h]; rfl
theorem bindO_of {α β : Type} {o : Option α} {v : α} {f : α → Option β} (h : o = some v) : bindO o f = f v := by rw [h]; rfl
theorem asB_of {β : Type} {c : Bool} {k : Bool → Option β} : asB (.b c) k = k c := rfl
theorem asI_of {β : Type} {n : Int} {k : Int → Option β} : asI .i64 (.i .i64 n) k = k n := rfl
theorem forceB_of {β : Type} {c : Bool} {k : Bool → Option β} : forceB c k = k c := forceB_eq ..
end
end Go.Proofs.Ytnalgdobglfndaa.T

/- Weighing: the weigher's methods, the program. -/
open Go.Vm
set_option linter.unusedVariables false
namespace Go.Proofs.Ytnalgdobglfndaa.T
open Go

section
variable {ro : List ABlk} {h hp : Heap} {a b u v v0 : AVal} {x : List (List Int)} {z row w : List Int}

end
end Go.Proofs.Ytnalgdobglfndaa.T

/- Weighing and the best expert; how often a halver can be wrong where one is never wrong. -/
open Go.Vm
set_option linter.unusedVariables false
namespace Go.Proofs.Ytnalgdobglfndaa.T
open Go

/-- how often two lists differ -/
def wrN (y z : List Int) : Nat → Nat
  | 0 => 0
  | i + 1 => wrN y z i + (if y.getD i 0 ≠ z.getD i 0 then 1 else 0)
theorem wrN_le (y z : List Int) : ∀ i, wrN y z i ≤ i
  | 0 => Nat.le_refl _
  | i + 1 => by
    have := wrN_le y z i
    simp only [wrN]; split <;> omega
section
variable {ro : List ABlk} {h hp : Heap} {a b u v v0 : AVal} {x : List (List Int)} {z y row w : List Int}

theorem Wrong_ok (ha : IsRow ro h a y) (hb : IsRow ro h b z) (hy : y.length = z.length) (hz : z.length ≤ 10000) : callX F1 ro 37 [a, b] h = some (.i .i64 ((wrN y z z.length : Nat) : Int), h, h.length, h.length) := by
  refine g37_ok (meansX_ok F1 ro) rfl ?_
  have hla := len_row ha
  have hlb := len_row hb
  rw [hy] at hla
  have hloop := loop_run (b := fun s : Int × Int => g37_b0 (meansX F1 ro) ro a b ⟨h, h.length, h.length⟩ s.1 s.2) (fun i => (((wrN y z i : Nat) : Int), (i : Int))) z.length (r0 := ((wrN y z z.length : Nat) : Int))
    (by simp only [g37_b0, hla, hlb, bindO_some, asI_i, forceB_eq, ltI_eq, lt_no, cond_false])
    (fun i hi => by
      obtain ⟨p1, a1, ald⟩ := at_rowK ha (show i < y.length by omega)
      obtain ⟨p2, b1, bld⟩ := at_rowK hb hi
      have a2 := (ald (l := 0) (q := 0) (Keep.refl h)).2
      have b2 := (bld (l := 0) (q := 0) (Keep.refl h)).2
      have hle := wrN_le y z i
      by_cases he : y.getD i 0 = z.getD i 0
      · have e0 : (y.getD i 0 == z.getD i 0) = true := by rw [he]; exact beq_self_eq_true _
        have e1 : wrN y z (i + 1) = wrN y z i := by simp only [wrN]; rw [if_neg (by simpa using he)]; omega
        simp only [g37_b0, hla, hlb, bindO_some, asI_i, forceB_eq, ltI_eq, lt_yes hi, cond_true, a1, a2, b1, b2, eqI_eq, e0, Bool.not_true, cond_false, forceI_eq, e1]
        rw [wr_next (by omega)]
      · have e0 : (y.getD i 0 == z.getD i 0) = false := by rw [beq_eq_false_iff_ne]; exact he
        have e1 : wrN y z (i + 1) = wrN y z i + 1 := by simp only [wrN]; rw [if_pos he]
        simp only [g37_b0, hla, hlb, bindO_some, asI_i, forceB_eq, ltI_eq, lt_yes hi, cond_true, a1, a2, b1, b2, eqI_eq, e0, Bool.not_false, forceI_eq, e1]
        rw [wr_next (by omega), wr_next (by omega)])
  have e0 : ((0 : Nat) : Int) = 0 := rfl
  have hloop' : loopX (fun s : Int × Int => g37_b0 (meansX F1 ro) ro a b ⟨h, h.length, h.length⟩ s.1 s.2) (0, 0) = _ := hloop
  unfold g37
  refine (bindO_of hloop').trans ?_
  exact fin_pure rfl
end
end Go.Proofs.Ytnalgdobglfndaa.T

/- The law about the best expert and the halver. -/
open Go.Vm
set_option linter.unusedVariables false
namespace Go.Proofs.Ytnalgdobglfndaa.T
open Go

section
variable {ro : List ABlk} {h hp : Heap} {a b u v v0 : AVal} {x : List (List Int)} {z y row w : List Int}

theorem condT_of {β : Type} {c : Bool} {A B : Option β} (h : c = true) : cond c A B = A := by rw [h]; rfl
end
end Go.Proofs.Ytnalgdobglfndaa.T

/- How often a winnower can be wrong. -/
open Go.Vm
set_option linter.unusedVariables false
namespace Go.Proofs.Ytnalgdobglfndaa.T
open Go

/-- the weights of those that say 1, summed; all weights, summed -/
def aN (w row : List Int) : Nat → Int
  | 0 => 0
  | f + 1 => aN w row f + (if row.getD f 0 = 1 then w.getD f 0 else 0)
def tN (w : List Int) : Nat → Int
  | 0 => 0
  | f + 1 => tN w f + w.getD f 0
theorem ws_eq {w row : List Int} {n : Nat} (hn : n ≤ 20) (hw : ∀ f, f < n → 0 ≤ w.getD f 0 ∧ w.getD f 0 ≤ 40) (hb : ∀ f, f < n → bitP (row.getD f 0)) : ∀ f, f ≤ n → wsN w row f = aN w row f ∧ 0 ≤ aN w row f ∧ aN w row f ≤ 40 * (f : Int)
  | 0, _ => ⟨rfl, by simp [aN], by simp [aN]⟩
  | f + 1, hf => by
    obtain ⟨h1, h2, h3⟩ := ws_eq hn hw hb f (by omega)
    have h4 := hw f (by omega)
    have h5 := hb f (by omega)
    unfold bitP at h5
    have w0 : wr .i64 0 = 0 := by decide +kernel
    have e1 : wr .i64 (w.getD f 0) = w.getD f 0 := wr_id' (by omega) (by omega)
    have e2 : wr .i64 (aN w row f + 0) = aN w row f + 0 := wr_id' (by omega) (by omega)
    have e3 : wr .i64 (aN w row f + w.getD f 0) = aN w row f + w.getD f 0 := wr_id' (by omega) (by omega)
    simp only [wsN, aN, h1]
    rcases h5 with h5 | h5
    · rw [h5, Int.zero_mul, if_neg (by decide), w0, e2]
      exact ⟨rfl, by omega, by omega⟩
    · rw [h5, Int.one_mul, if_pos rfl, e1, e3]
      exact ⟨rfl, by omega, by omega⟩
theorem a_ge {w row : List Int} {n : Nat} (hw : ∀ f, f < n → 0 ≤ w.getD f 0) : ∀ m, m ≤ n → 0 ≤ aN w row m ∧ ∀ f, f < m → row.getD f 0 = 1 → w.getD f 0 ≤ aN w row m
  | 0, _ => ⟨by simp [aN], fun f h => by omega⟩
  | m + 1, hm => by
    obtain ⟨h1, h2⟩ := a_ge (row := row) hw m (by omega)
    have h3 := hw m (by omega)
    simp only [aN]
    refine ⟨by split <;> omega, fun f hf hr => ?_⟩
    by_cases e : f = m
    · subst e; rw [if_pos hr]; omega
    · have := h2 f (by omega) hr
      split <;> omega
theorem t_ge {w : List Int} {n : Nat} (hw : ∀ f, f < n → 0 ≤ w.getD f 0) : ∀ m, m ≤ n → 0 ≤ tN w m
  | 0, _ => by simp [tN]
  | m + 1, hm => by
    have h1 := t_ge hw m (by omega)
    have h3 := hw m (by omega)
    simp only [tN]; omega
theorem t_ones (n : Nat) : ∀ m, m ≤ n → tN (firstOnes n n) m = (m : Int)
  | 0, _ => rfl
  | m + 1, hm => by
    simp only [tN, t_ones n m (by omega), firstOnes_get (show m < n by omega)]
    rw [if_pos (by omega)]; omega
theorem t_up {w w' row : List Int} {n : Nat} (h : ∀ f, f < n → w'.getD f 0 = if row.getD f 0 = 1 then 2 * w.getD f 0 else w.getD f 0) : ∀ m, m ≤ n → tN w' m = tN w m + aN w row m
  | 0, _ => rfl
  | m + 1, hm => by
    have h1 := t_up h m (by omega)
    have h2 := h m (by omega)
    simp only [tN, aN, h1, h2]
    split <;> omega
theorem t_down {w w' row : List Int} {n : Nat} (h : ∀ f, f < n → w'.getD f 0 = if row.getD f 0 = 1 then 0 else w.getD f 0) : ∀ m, m ≤ n → tN w' m = tN w m - aN w row m
  | 0, _ => rfl
  | m + 1, hm => by
    have h1 := t_down h m (by omega)
    have h2 := h m (by omega)
    simp only [tN, aN, h1, h2]
    split <;> omega
theorem sumN_up {w w' : Nat → Nat} {j : Nat} (h : ∀ f, w f ≤ w' f) (hj : w j < w' j) : ∀ n, j < n → sumN w n + 1 ≤ sumN w' n
  | 0, h0 => by omega
  | n + 1, hn => by
    simp only [sumN]
    by_cases e : j = n
    · subst e
      have := sumN_le (w := w) (w' := w') j fun s _ => h s
      omega
    · have := sumN_up h hj n (by omega)
      have := h n
      omega
theorem winnow_bound {x : List (List Int)} {z : List Int} {N T X : Nat} {rel : Nat → Bool} (hN : 1 ≤ N) (hN2 : N ≤ 20) (hX : N ≤ 2 ^ X) (hb : ∀ i, i < T → ∀ f, f < N → bitP ((nthR x i).getD f 0))
    (hz1 : ∀ i, i < T → z.getD i 0 = 1 → ∃ f, f < N ∧ rel f = true ∧ (nthR x i).getD f 0 = 1) (hz0 : ∀ i, i < T → z.getD i 0 ≠ 1 → z.getD i 0 = 0 ∧ ∀ f, f < N → rel f = true → (nthR x i).getD f 0 ≠ 1) :
    ∀ i, i ≤ T → ∃ (P D : Nat) (e : Nat → Nat), wrN (sayM (wsay x z N) T T) z i = P + D ∧ (∀ f, f < N → 0 ≤ (wtL x z N i).getD f 0 ∧ (wtL x z N i).getD f 0 ≤ 2 * N) ∧
      (∀ f, f < N → rel f = true → (wtL x z N i).getD f 0 = ((2 ^ e f : Nat) : Int) ∧ e f ≤ X) ∧ tN (wtL x z N i) N + N * D ≤ N + N * P ∧ P ≤ sumN (fun f => if rel f = true then e f else 0) N
  | 0, _ => ⟨0, 0, fun _ => 0, rfl, fun f hf => by simp only [wtL, firstOnes_get hf]; rw [if_pos hf]; omega, fun f hf _ => ⟨by simp only [wtL, firstOnes_get hf]; rw [if_pos hf]; rfl, Nat.zero_le _⟩, by simp only [wtL]; rw [t_ones N N (Nat.le_refl _)]; simp, Nat.zero_le _⟩
  | i + 1, hi => by
    obtain ⟨P, D, e, h1, h2, h3, h4, h5⟩ := winnow_bound hN hN2 hX hb hz1 hz0 i (by omega)
    have hs : (sayM (wsay x z N) T T).getD i 0 = wsay x z N i := sayM_get (by omega) (by omega)
    have hwl := wtL_len x z N i
    have hbi := hb i (by omega)
    obtain ⟨w, ew⟩ : ∃ w, w = wtL x z N i := ⟨_, rfl⟩
    have hsay : wsay x z N i = winV w (nthR x i) N := by rw [ew]; rfl
    have hnext : wtL x z N (i + 1) = if winV w (nthR x i) N = z.getD i 0 then w else wlr w (nthR x i) (z.getD i 0) N := by rw [ew]; rfl
    rw [← ew] at h2 h3 h4 hwl
    obtain ⟨a1, a2, a3⟩ := ws_eq (w := w) (row := nthR x i) hN2 (fun f hf => by have := h2 f hf; omega) hbi N (Nat.le_refl _)
    have ag := (a_ge (w := w) (row := nthR x i) (fun f hf => (h2 f hf).1) N (Nat.le_refl _)).2
    have hwr1 : Go.Vm.wr .i64 (2 * 1) = 2 := by decide +kernel
    have hwr0 : Go.Vm.wr .i64 (2 * 0) = 0 := by decide +kernel
    by_cases heq : winV w (nthR x i) N = z.getD i 0
    · rw [hnext, if_pos heq]
      refine ⟨P, D, e, ?_, h2, h3, h4, h5⟩
      simp only [wrN, hs, hsay]
      rw [if_neg (by simpa using heq)]; exact h1
    have hwn : wrN (sayM (wsay x z N) T T) z (i + 1) = wrN (sayM (wsay x z N) T T) z i + 1 := by
      simp only [wrN, hs, hsay]; rw [if_pos heq]
    rw [hnext, if_neg heq, hwn, h1]
    by_cases hz : z.getD i 0 = 1
    · -- a promotion
      obtain ⟨g, hg1, hg2, hg3⟩ := hz1 i (by omega) hz
      have hlt : aN w (nthR x i) N < (N : Int) := by
        rw [hz] at heq
        unfold winV at heq
        rw [a1] at heq
        by_cases hh : aN w (nthR x i) N < (N : Int)
        · exact hh
        · rw [if_neg hh] at heq; exact absurd rfl heq
      have hw' : ∀ f, f < N → (wlr w (nthR x i) (z.getD i 0) N).getD f 0 = if (nthR x i).getD f 0 = 1 then 2 * w.getD f 0 else w.getD f 0 := fun f hf => by
        have := h2 f hf
        rw [wlr_get (by omega), hz, hwr1]
        by_cases hr : (nthR x i).getD f 0 = 1
        · rw [if_pos ⟨hf, hr⟩, if_pos hr, wr_id' (by omega) (by omega)]; omega
        · rw [if_neg (fun hh => hr hh.2), if_neg hr]
      have ht := t_up hw' N (Nat.le_refl _)
      refine ⟨P + 1, D, fun f => if (nthR x i).getD f 0 = 1 then e f + 1 else e f, by omega, fun f hf => ?_, fun f hf hr => ?_, ?_, ?_⟩
      · have := h2 f hf
        rw [hw' f hf]
        by_cases hr : (nthR x i).getD f 0 = 1
        · rw [if_pos hr]; have := ag f hf hr; omega
        · rw [if_neg hr]; exact this
      · obtain ⟨q1, q2⟩ := h3 f hf hr
        rw [hw' f hf]
        by_cases hr1 : (nthR x i).getD f 0 = 1
        · simp only [if_pos hr1]
          have hag := ag f hf hr1
          have hlt2 : 2 ^ e f < 2 ^ X := by omega
          have hlt3 : e f < X := (Nat.pow_lt_pow_iff_right (by decide)).1 hlt2
          refine ⟨?_, hlt3⟩
          rw [q1, Nat.pow_succ]; omega
        · simp only [if_neg hr1]
          exact ⟨q1, q2⟩
      · rw [ht]
        have : (N : Int) * ((P + 1 : Nat) : Int) = N * P + N := by rw [Int.natCast_add, Int.mul_add]; simp
        rw [this]; omega
      · have := sumN_up (w := fun f => if rel f = true then e f else 0) (w' := fun f => if rel f = true then (if (nthR x i).getD f 0 = 1 then e f + 1 else e f) else 0) (j := g)
          (fun f => by
            show (if rel f = true then e f else 0) ≤ (if rel f = true then (if (nthR x i).getD f 0 = 1 then e f + 1 else e f) else 0)
            split
            · split <;> omega
            · omega)
          (by show (if rel g = true then e g else 0) < (if rel g = true then (if (nthR x i).getD g 0 = 1 then e g + 1 else e g) else 0); rw [if_pos hg2, if_pos hg2, if_pos hg3]; omega) N hg1
        show P + 1 ≤ sumN (fun f => if rel f = true then (if (nthR x i).getD f 0 = 1 then e f + 1 else e f) else 0) N
        omega
    · -- a strike
      obtain ⟨hz00, hz01⟩ := hz0 i (by omega) hz
      have hge : (N : Int) ≤ aN w (nthR x i) N := by
        rw [hz00] at heq
        unfold winV at heq
        rw [a1] at heq
        by_cases hh : aN w (nthR x i) N < (N : Int)
        · rw [if_pos hh] at heq; exact absurd rfl heq
        · omega
      have hw' : ∀ f, f < N → (wlr w (nthR x i) (z.getD i 0) N).getD f 0 = if (nthR x i).getD f 0 = 1 then 0 else w.getD f 0 := fun f hf => by
        rw [wlr_get (by omega), hz00, hwr0, Int.mul_zero]
        by_cases hr : (nthR x i).getD f 0 = 1
        · rw [if_pos ⟨hf, hr⟩, if_pos hr]; rfl
        · rw [if_neg (fun hh => hr hh.2), if_neg hr]
      have ht := t_down hw' N (Nat.le_refl _)
      refine ⟨P, D + 1, e, by omega, fun f hf => ?_, fun f hf hr => ?_, ?_, h5⟩
      · have := h2 f hf
        rw [hw' f hf]
        split <;> omega
      · rw [hw' f hf, if_neg (hz01 f hf hr)]; exact h3 f hf hr
      · rw [ht]
        have : (N : Int) * ((D + 1 : Nat) : Int) = N * D + N := by rw [Int.natCast_add, Int.mul_add]; simp
        rw [this]; omega
/-- the bound -/
theorem winnow_few {x : List (List Int)} {z : List Int} {N T X : Nat} {rel : Nat → Bool} (hN : 1 ≤ N) (hN2 : N ≤ 20) (hX : N ≤ 2 ^ X) (hb : ∀ i, i < T → ∀ f, f < N → bitP ((nthR x i).getD f 0))
    (hz1 : ∀ i, i < T → z.getD i 0 = 1 → ∃ f, f < N ∧ rel f = true ∧ (nthR x i).getD f 0 = 1) (hz0 : ∀ i, i < T → z.getD i 0 ≠ 1 → z.getD i 0 = 0 ∧ ∀ f, f < N → rel f = true → (nthR x i).getD f 0 ≠ 1) :
    wrN (sayM (wsay x z N) T T) z T ≤ 2 + 3 * (sumN (fun f => if rel f = true then 1 else 0) N * (1 + X)) := by
  obtain ⟨P, D, e, h1, h2, h3, h4, h5⟩ := winnow_bound hN hN2 hX hb hz1 hz0 T (Nat.le_refl _)
  have ht := t_ge (fun f hf => (h2 f hf).1) N (Nat.le_refl _)
  have hD : D ≤ P + 1 := by
    have h6 : (N : Int) * D ≤ N * ((P + 1 : Nat) : Int) := by
      have : (N : Int) * ((P + 1 : Nat) : Int) = N * P + N := by rw [Int.natCast_add, Int.mul_add]; simp
      omega
    have := Int.le_of_mul_le_mul_left h6 (by omega)
    omega
  have hP : P ≤ sumN (fun f => if rel f = true then 1 else 0) N * X := by
    have key : ∀ m, m ≤ N → sumN (fun f => if rel f = true then e f else 0) m ≤ sumN (fun f => if rel f = true then 1 else 0) m * X := by
      intro m
      induction m with
      | zero => intro _; simp [sumN]
      | succ m ih =>
        intro hm
        have := ih (by omega)
        simp only [sumN, Nat.add_mul]
        by_cases hr : rel m = true
        · have := (h3 m (by omega) hr).2
          simp only [hr, if_true, Nat.one_mul]; omega
        · simp only [hr]; simp; omega
    exact Nat.le_trans h5 (key N (Nat.le_refl _))
  rw [h1, Nat.mul_add, Nat.mul_one]
  omega
end Go.Proofs.Ytnalgdobglfndaa.T

/- The law about winnowing. -/
open Go.Vm
set_option linter.unusedVariables false
namespace Go.Proofs.Ytnalgdobglfndaa.T
open Go

/-- which variables the first t bytes name -/
def relN (y : List Int) (n : Nat) : Nat → Nat → Bool
  | 0, _ => false
  | t + 1, f => relN y n t f || decide ((y.getD t 0).toNat % n = f)
def flL (y : List Int) (n t : Nat) : List AVal := (List.range n).map fun f => .b (relN y n t f)
theorem flL_len (y : List Int) (n t : Nat) : (flL y n t).length = n := by simp [flL]
theorem flL_get {y : List Int} {n t f : Nat} (hf : f < n) : (flL y n t).getD f und = .b (relN y n t f) := by simp [flL, List.getD, hf]
theorem flL_set {y : List Int} {n t j : Nat} (hj : j = (y.getD t 0).toNat % n) : (flL y n t).set j (.b true) = flL y n (t + 1) := by
  refine List.ext_getElem (by simp [flL]) fun i h1 h2 => ?_
  rw [List.getElem_set]
  by_cases e : j = i
  · subst e
    rw [if_pos rfl]
    simp only [flL, List.getElem_map, List.getElem_range, relN]
    rw [← hj]; simp
  · rw [if_neg e]
    simp only [flL, List.getElem_map, List.getElem_range, relN]
    rw [← hj, decide_eq_false e]; simp
def kN (y : List Int) (n t : Nat) : Nat := sumN (fun f => if relN y n t f = true then 1 else 0) n
theorem sumN_upd {w w' : Nat → Nat} {j d : Nat} (h : ∀ f, f ≠ j → w' f = w f) (hj : w' j = w j + d) : ∀ n, (j < n → sumN w' n = sumN w n + d) ∧ (n ≤ j → sumN w' n = sumN w n)
  | 0 => ⟨fun h => by omega, fun _ => rfl⟩
  | n + 1 => by
    obtain ⟨h1, h2⟩ := sumN_upd h hj n
    simp only [sumN]
    refine ⟨fun hn => ?_, fun hn => by rw [h2 (by omega), h n (by omega)]⟩
    by_cases e : j = n
    · subst e; rw [h2 (Nat.le_refl _), hj]; omega
    · rw [h1 (by omega), h n (fun hh => e hh.symm)]; omega
theorem kN_next {y : List Int} {n t j : Nat} (hj : j = (y.getD t 0).toNat % n) (hjn : j < n) : kN y n (t + 1) = if relN y n t j = true then kN y n t else kN y n t + 1 := by
  have ho : ∀ f, f ≠ j → relN y n (t + 1) f = relN y n t f := fun f hf => by
    simp only [relN]; rw [← hj, decide_eq_false (fun hh => hf hh.symm)]; simp
  have hjj : relN y n (t + 1) j = true := by simp only [relN]; rw [← hj]; simp
  unfold kN
  by_cases h : relN y n t j = true
  · rw [if_pos h]
    refine sumN_congr _ fun f _ => ?_
    by_cases e : f = j
    · subst e; rw [hjj, h]
    · rw [ho f e]
  · rw [if_neg h]
    exact (sumN_upd (w := fun f => if relN y n t f = true then 1 else 0) (w' := fun f => if relN y n (t + 1) f = true then 1 else 0) (j := j) (d := 1) (fun f hf => by simp only [ho f hf]) (by simp only [hjj, if_true]; rw [if_neg h]) n).1 hjn
theorem kN_le (y : List Int) (n t : Nat) : kN y n t ≤ n := by
  have := sumN_le (w := fun f => if relN y n t f = true then 1 else 0) (w' := fun _ => 1) n (fun s _ => by show (if relN y n t s = true then 1 else 0) ≤ 1; split <;> omega)
  rw [sumN_const] at this
  unfold kN; omega
theorem kN_zero (y : List Int) (n : Nat) : kN y n 0 = 0 := by
  unfold kN
  have := sumN_congr (w := fun f => if relN y n 0 f = true then 1 else 0) (w' := fun _ => 0) n (fun s _ => by simp [relN])
  rw [this, sumN_const, Nat.zero_mul]
/-- what is told in a round -/
def tldN (rel : Nat → Bool) (row : List Int) : Nat → Int
  | 0 => 0
  | f + 1 => if rel f = true ∧ row.getD f 0 = 1 then 1 else tldN rel row f
theorem tld_iff (rel : Nat → Bool) (row : List Int) : ∀ m, (tldN rel row m = 1 ∧ ∃ f, f < m ∧ rel f = true ∧ row.getD f 0 = 1) ∨ (tldN rel row m = 0 ∧ ∀ f, f < m → rel f = true → row.getD f 0 ≠ 1)
  | 0 => .inr ⟨rfl, fun f h => by omega⟩
  | m + 1 => by
    simp only [tldN]
    by_cases h : rel m = true ∧ row.getD m 0 = 1
    · rw [if_pos h]; exact .inl ⟨rfl, m, Nat.lt_succ_self m, h.1, h.2⟩
    · rw [if_neg h]
      rcases tld_iff rel row m with ⟨h1, f, h2, h3⟩ | ⟨h1, h2⟩
      · exact .inl ⟨h1, f, by omega, h3⟩
      · refine .inr ⟨h1, fun f hf hr => ?_⟩
        by_cases e : f = m
        · subst e; exact fun hh => h ⟨hr, hh⟩
        · exact h2 f (by omega) hr
def lgX (n : Nat) : Nat := if n ≤ 1 then 0 else if n ≤ 2 then 1 else if n ≤ 4 then 2 else if n ≤ 8 then 3 else if n ≤ 16 then 4 else 5
theorem lgX_all : ∀ n, n < 21 → n ≤ 2 ^ lgX n ∧ lgX n ≤ 5 ∧ ∀ t, t < lgX n → 2 ^ t < n := by decide

section
variable {ro : List ABlk} {h hp : Heap} {a b u v v0 : AVal} {x : List (List Int)} {z y row w : List Int}

theorem len_rowU {k : IntKind} (hr : IsRowK k ro h v z) : evP .e (.len false (.c v)) = some (.i .i64 z.length) := by
  rcases hr with ⟨rfl, rfl⟩ | ⟨q, cap, blk, rfl, -⟩
  · rfl
  · simp [evP, ev_len, opd, mkI_eq]
theorem at_rowU {k : IntKind} (hr : IsRowK k ro h v z) {i : Nat} (hi : i < z.length) : ∃ p, evP .e (.ixS 1 (.c v) (.c (.i .i64 (i : Int)))) = some p ∧ ∀ {hp : Heap} {l q : Nat}, Keep h hp → ldM ro ⟨hp, l, q⟩ true 1 p = some (.i k (z.getD i 0)) := by
  rcases hr with ⟨rfl, rfl⟩ | ⟨q, cap, blk, rfl, hb, hn, hc⟩
  · simp at hi
  · refine ⟨_, ixS_eq hi, fun {hp l q'} kk => ?_⟩
    have hb' : rdB ro hp q = some blk := by rw [take_eq kk.1 kk.2]; exact rdB_ext _ hb
    have h1 := rd_one (i := i) hb' (by omega)
    rw [hc i hi] at h1
    exact h1
theorem flags_loop {N : Nat} {v36 : AVal} {hb1 : Heap} (hy : IsRowK .u8 ro [] b y) (hyr : ∀ t, t < y.length → 0 ≤ y.getD t 0 ∧ y.getD t 0 < 65536) (hyl : y.length ≤ 20) (hN : 1 ≤ N) (hN2 : N ≤ 20) (hv : v36 = wSl 0 N) (hbl : hb1.length = 1) (dS : Holds hb1 0 (flL y N 0)) :
    ∃ hp, loopX (fun s : Int × Int × Mm => g11_b3 (meansX F1 ro) ro (N : Int) a b v36 s.1 s.2.1 s.2.2) (0, 0, (⟨hb1, 0, 0⟩ : Mm)) = some (((kN y N y.length : Nat) : Int), (⟨hp, 0, 0⟩ : Mm)) ∧ hp.length = 1 ∧ Holds hp 0 (flL y N y.length) := by
  subst hv
  obtain ⟨o, hrun, hp, rfl, h1, h2⟩ : ∃ o, loopX (fun s : Int × Int × Mm => g11_b3 (meansX F1 ro) ro (N : Int) a b (wSl 0 N) s.1 s.2.1 s.2.2) (0, 0, (⟨hb1, 0, 0⟩ : Mm)) = some o ∧ ∃ hp, o = (((kN y N y.length : Nat) : Int), (⟨hp, 0, 0⟩ : Mm)) ∧ hp.length = 1 ∧ Holds hp 0 (flL y N y.length) := by
    refine loopX_rule (b := fun s : Int × Int × Mm => g11_b3 (meansX F1 ro) ro (N : Int) a b (wSl 0 N) s.1 s.2.1 s.2.2)
      (fun s => ∃ (t : Nat) (hp : Heap), t ≤ y.length ∧ s = (((kN y N t : Nat) : Int), (t : Int), (⟨hp, 0, 0⟩ : Mm)) ∧ hp.length = 1 ∧ Holds hp 0 (flL y N t))
      (fun o => ∃ hp, o = (((kN y N y.length : Nat) : Int), (⟨hp, 0, 0⟩ : Mm)) ∧ hp.length = 1 ∧ Holds hp 0 (flL y N y.length))
      (fun s => y.length - s.2.1.toNat) ?_ _ ⟨0, hb1, Nat.zero_le _, by rw [kN_zero]; rfl, hbl, dS⟩
    rintro s ⟨t, hp, ht, rfl, hl, hh⟩
    have hlen := len_rowU hy
    by_cases hty : t = y.length
    · subst hty
      right
      refine ⟨_, ?_, hp, rfl, hl, hh⟩
      simp only [g11_b3, hlen, bindO_some, asI_i, forceB_eq, ltI_eq, lt_no, cond_false]
    left
    have ht' : t < y.length := by omega
    obtain ⟨p, e1, eld⟩ := at_rowU hy ht'
    have e2 := eld (l := 0) (q := 0) (keep0 hp)
    obtain ⟨j, hj⟩ : ∃ j, j = (y.getD t 0).toNat % N := ⟨_, rfl⟩
    have hjN : j < N := by rw [hj]; exact Nat.mod_lt _ (by omega)
    have hyt := hyr t ht'
    have w1 : Go.Vm.wr .i64 (y.getD t 0) = y.getD t 0 := wr_id' (by omega) (by omega)
    have w2 : Int.tmod (y.getD t 0) (N : Int) = (j : Int) := by
      have : y.getD t 0 = (((y.getD t 0).toNat : Nat) : Int) := by omega
      rw [this, tmod_nat, hj]
    have c0 : (!((N : Int) == Int.ofNat 0)) = true := by simp only [Bool.not_eq_true', beq_eq_false_iff_ne]; show ¬ _ = (0 : Int); omega
    have g4 := ixS_eq (q := ⟨false, 0, 0⟩) (cap := .known N) hjN
    have g5 := hh.one (ro := ro) (l := 0) (p := 0) (k := j) (by rw [flL_len]; exact hjN)
    rw [flL_get hjN] at g5
    obtain ⟨hp4, hst, hh4, hl4, -⟩ := hh.setG (ro := ro) (l := 0) (p := 0) (k := j) (v := .b true) (by rw [flL_len]; exact hjN) rfl rfl rfl
    rw [flL_set hj] at hh4
    have hk := kN_next hj hjN
    have hkl := kN_le y N t
    simp only [Nat.zero_add, Nat.min_self] at g4 g5 hst
    refine ⟨(((kN y N (t + 1) : Nat) : Int), ((t + 1 : Nat) : Int), ⟨hp4, 0, 0⟩), ?_, ⟨t + 1, hp4, ht', rfl, by omega, hh4⟩, ?_⟩
    · by_cases hr : relN y N t j = true
      · rw [if_pos hr] at hk
        rw [hr] at g5
        simp only [g11_b3, hlen, bindO_some, asI_i, forceB_eq, ltI_eq, lt_yes ht', cond_true, cond_false, e1, e2, forceI_eq, w1, eqI_eq, c0, chk_true, w2, g4, g5, asB_b, Bool.not_true, hst, bindP_some, hk]
        rw [wr_next (by omega)]
      · rw [if_neg hr] at hk
        rw [show relN y N t j = false by simpa using hr] at g5
        simp only [g11_b3, hlen, bindO_some, asI_i, forceB_eq, ltI_eq, lt_yes ht', cond_true, e1, e2, forceI_eq, w1, eqI_eq, c0, chk_true, w2, g4, g5, asB_b, Bool.not_false, hst, bindP_some, hk]
        rw [wr_next (by omega), wr_next (by omega)]
    · show y.length - (((t + 1 : Nat) : Int)).toNat < y.length - ((t : Int)).toNat
      omega
  exact ⟨hp, hrun, h1, h2⟩
def toldL (rel : Nat → Bool) (x : List (List Int)) (N i : Nat) : Int := tldN rel (nthR x i) (min N (nthR x i).length)
theorem told_loop {N : Nat} {v36 : AVal} {x8 : Int} {rel : Nat → Bool} {hb1 : Heap} {fl : List AVal} (ha : IsMat ro [] a x) (hx : x.length ≤ 250) (hN2 : N ≤ 20) (hv : v36 = wSl 0 N) (hbl : hb1.length = 1) (dS : Holds hb1 0 fl) (hfl : fl.length = N) (hfg : ∀ f, f < N → fl.getD f und = .b (rel f)) :
    ∃ v hp, loopX (fun s : AVal × Int × Mm => g11_b5 (meansX F1 ro) ro (N : Int) a v36 x8 s.1 s.2.1 s.2.2) (.nsl, 0, (⟨hb1, 0, 0⟩ : Mm)) = some (v, (⟨hp, 0, 0⟩ : Mm)) ∧ IsRow ro hp v ((List.range x.length).map (toldL rel x N)) := by
  subst hv
  obtain ⟨v1, m1, hrun1, hp1, rfl, -, -, g1⟩ := loop_all3 (b := fun s : AVal × Int × Mm => g11_b5 (meansX F1 ro) ro (N : Int) a (wSl 0 N) x8 s.1 s.2.1 s.2.2) x.length
    (fun i v m => ∃ hp, m = ⟨hp, 0, 0⟩ ∧ 1 ≤ hp.length ∧ Holds hp 0 fl ∧ GV hp 1 3 1 v i (ints ((List.range i).map (toldL rel x N))))
    (fun i v m hi hI => by
      obtain ⟨hp, rfl, hl, hh, g⟩ := hI
      have kp := keep0 hp
      obtain ⟨p1, u, a1, ald, hu⟩ := at_matK ha hi
      have a2 := (ald (l := 0) (q := 0) kp).1
      have hul := len_row (row_by hu kp)
      obtain ⟨M, hM⟩ : ∃ M, M = min N (nthR x i).length := ⟨_, rfl⟩
      have hloop := loop_run (b := fun s : Int × Int => g11_b6 (meansX F1 ro) ro (N : Int) a (wSl 0 N) x8 v (i : Int) ⟨hp, 0, 0⟩ s.1 s.2) (fun f => (tldN rel (nthR x i) f, (f : Int))) M (r0 := tldN rel (nthR x i) M)
        (by
          by_cases hMN : M < N
          · have hMl : ((x.getD i []).length : Int) = (M : Int) := by unfold nthR at hM; omega
            simp only [g11_b6, forceB_eq, ltI_eq, lt_yes hMN, cond_true, a1, a2, bindO_some, hul, asI_i, hMl, lt_no, cond_false]
          · simp only [g11_b6, forceB_eq, ltI_eq, dF (show ¬ (M : Int) < (N : Int) by omega), cond_false, bindO_some])
        (fun f hf => by
          have hfN : f < N := by omega
          have hfl2 : f < (x.getD i []).length := by unfold nthR at hM; omega
          obtain ⟨p3, c1, cld⟩ := at_rowK hu hfl2
          have c2 := (cld (l := 0) (q := 0) kp).1
          have g4 := ixS_eq (q := ⟨false, 0, 0⟩) (cap := .known N) hfN
          have g5 := hh.one (ro := ro) (l := 0) (p := 0) (k := f) (by omega)
          rw [hfg f hfN] at g5
          simp only [Nat.zero_add] at g4 g5
          have hlt : decide ((f : Int) < ((x.getD i []).length : Int)) = true := lt_yes hfl2
          by_cases hr : rel f = true
          · rw [hr] at g5
            by_cases h1 : (x.getD i []).getD f 0 = 1
            · have e0 : ((x.getD i []).getD f 0 == 1) = true := by rw [h1]; rfl
              have e1 : tldN rel (nthR x i) (f + 1) = 1 := by simp only [tldN]; exact if_pos ⟨hr, h1⟩
              simp only [g11_b6, forceB_eq, ltI_eq, lt_yes hfN, cond_true, a1, a2, bindO_some, hul, asI_i, hlt, g4, g5, asB_b, c1, c2, eqI_eq, e0, forceI_eq, e1]
              rw [wr_next (by omega)]
            · have e0 : ((x.getD i []).getD f 0 == 1) = false := by rw [beq_eq_false_iff_ne]; exact h1
              have e1 : tldN rel (nthR x i) (f + 1) = tldN rel (nthR x i) f := by simp only [tldN]; exact if_neg fun hh => h1 hh.2
              simp only [g11_b6, forceB_eq, ltI_eq, lt_yes hfN, cond_true, cond_false, a1, a2, bindO_some, hul, asI_i, hlt, g4, g5, asB_b, c1, c2, eqI_eq, e0, forceI_eq, e1]
              rw [wr_next (by omega)]
          · rw [show rel f = false by simpa using hr] at g5
            have e1 : tldN rel (nthR x i) (f + 1) = tldN rel (nthR x i) f := by simp only [tldN]; exact if_neg fun hh => hr hh.1
            simp only [g11_b6, forceB_eq, ltI_eq, lt_yes hfN, cond_true, cond_false, a1, a2, bindO_some, hul, asI_i, hlt, g4, g5, asB_b, forceI_eq, e1]
            rw [wr_next (by omega)])
      have hloop' : loopX (fun s : Int × Int => g11_b6 (meansX F1 ro) ro (N : Int) a (wSl 0 N) x8 v (i : Int) ⟨hp, 0, 0⟩ s.1 s.2) (0, 0) = some (toldL rel x N i) := by
        unfold toldL; rw [← hM]; exact hloop
      obtain ⟨v2, hp3, v3, hp4, s1, s2, g3, l3, o3⟩ := push1 (ro := ro) (L0 := 0) (n := toldL rel x N i) g (by omega) (by omega) (by omega)
      refine ⟨v3, ⟨hp4, 0, 0⟩, ?_, hp4, rfl, by omega, hh.keep (o3 0 (by omega)), by rw [range_snoc]; exact g3⟩
      simp only [g11_b5, len_mat (mat_by ha kp), bindO_some, asI_i, forceB_eq, ltI_eq, lt_yes hi, cond_true, meansX_loop, hloop', s1, bindP_some, s2, forceI_eq]
      rw [wr_next (by omega)])
    (fun v m hI => by
      obtain ⟨hp, rfl, -⟩ := hI
      simp only [g11_b5, len_mat (mat_by ha (keep0 hp)), bindO_some, asI_i, forceB_eq, ltI_eq, lt_no, cond_false]) x.length 0 .nsl ⟨hb1, 0, 0⟩ (by omega) ⟨hb1, rfl, by omega, dS, GV.nil _ _ _ _⟩
  have e0 : ((0 : Nat) : Int) = 0 := rfl
  rw [e0] at hrun1
  exact ⟨v1, hp1, hrun1, g1.row (by simp)⟩
end
end Go.Proofs.Ytnalgdobglfndaa.T

/- The law about winnowing: the function. -/
open Go.Vm
set_option linter.unusedVariables false
namespace Go.Proofs.Ytnalgdobglfndaa.T
open Go

section
variable {ro : List ABlk} {h hp : Heap} {a b u v v0 : AVal} {x : List (List Int)} {z y row w : List Int}

theorem range_getD {f : Nat → Int} {n j : Nat} (hj : j < n) : ((List.range n).map f).getD j 0 = f j := by simp [List.getD, hj]
theorem law11 {n : Int} (ha : IsMat ro [] a x) (hf : Fits x) (hy : IsRowK .u8 ro [] b y) (hyl0 : y.length ≤ 9223372036854775807) (hyr : ∀ t, t < y.length → 0 ≤ y.getD t 0 ∧ y.getD t 0 < 65536) : ∃ h' lw lp, callX F1 ro 11 [.i .i64 n, a, b] [] = some (.b true, h', lw, lp) := by
  have hfew := cp0 (few_ok ha (nil_row (ro := ro) []) hf.1)
  have hal := cp0 (F := F1) (alive_pure (ro := ro) (h := []))
  simp only [List.length_nil] at hfew hal
  have hlen := len_rowU hy
  have skip : ∀ (B : Option (AVal × Heap × Nat × Nat)) (c : Bool), c = true → (cond c (bindP (callM (callX F1 ro) ⟨[], 0, 0⟩ 16 []) fun v34 m_2 => asB v34 fun c34 => finM ([] : Heap).length (tupA [(.b c34)]) m_2) B) = some (.b true, [], 0, 0) := fun B c hc => by
    refine (condT_of hc).trans ?_
    refine (bindP_of hal).trans ?_
    exact fin_pure (h := []) rfl
  by_cases hw : few x []
  case neg =>
    refine ⟨[], 0, 0, g11_ok (meansX_ok F1 ro) rfl ?_⟩
    unfold g11
    refine (bindP_of hfew).trans ?_
    refine asB_of.trans ?_
    refine forceB_of.trans ?_
    refine (bindO_of (condT_of (show (!decide (few x [])) = true by rw [dF hw]; rfl))).trans ?_
    refine (bindO_of (condT_of rfl)).trans ?_
    refine (bindO_of (condT_of rfl)).trans ?_
    exact skip _ _ rfl
  have hxl := hw.len
  have hfw : (!decide (few x [])) = false := by rw [dT hw]; rfl
  by_cases hy20 : 20 < y.length
  · refine ⟨[], 0, 0, g11_ok (meansX_ok F1 ro) rfl ?_⟩
    unfold g11
    refine (bindP_of hfew).trans ?_
    refine asB_of.trans ?_
    refine forceB_of.trans ?_
    have i1 : (cond (!decide (few x [])) (some true) (bindO (evP .e (.len false (.c b))) fun v23 => asI .i64 v23 fun x23 => forceB (ltI 20 x23) fun c24 => some c24)) = some true := by
      refine (cond_of hfw).trans ?_
      refine (bindO_of hlen).trans ?_
      refine asI_of.trans ?_
      refine forceB_of.trans ?_
      rw [ltI_eq, dT (by omega)]
    refine (bindO_of i1).trans ?_
    refine (bindO_of (condT_of rfl)).trans ?_
    refine (bindO_of (condT_of rfl)).trans ?_
    exact skip _ _ rfl
  have i1 : (cond (!decide (few x [])) (some true) (bindO (evP .e (.len false (.c b))) fun v23 => asI .i64 v23 fun x23 => forceB (ltI 20 x23) fun c24 => some c24)) = some false := by
    refine (cond_of hfw).trans ?_
    refine (bindO_of hlen).trans ?_
    refine asI_of.trans ?_
    refine forceB_of.trans ?_
    rw [ltI_eq, dF (by omega)]
  by_cases hn : n < 1 ∨ 20 < n
  · refine ⟨[], 0, 0, g11_ok (meansX_ok F1 ro) rfl ?_⟩
    unfold g11
    refine (bindP_of hfew).trans ?_
    refine asB_of.trans ?_
    refine forceB_of.trans ?_
    refine (bindO_of i1).trans ?_
    by_cases hn1 : n < 1
    · have i2 : (cond false (some true) (forceB (ltI n 1) fun c28 => some c28)) = some true := (cond_of rfl).trans (forceB_of.trans (by rw [ltI_eq, dT hn1]))
      refine (bindO_of i2).trans ?_
      refine (bindO_of (condT_of rfl)).trans ?_
      exact skip _ _ rfl
    · have i2 : (cond false (some true) (forceB (ltI n 1) fun c28 => some c28)) = some false := (cond_of rfl).trans (forceB_of.trans (by rw [ltI_eq, dF hn1]))
      have i3 : (cond false (some true) (forceB (ltI 20 n) fun c32 => some c32)) = some true := (cond_of rfl).trans (forceB_of.trans (by rw [ltI_eq, dT (by omega)]))
      refine (bindO_of i2).trans ?_
      refine (bindO_of i3).trans ?_
      exact skip _ _ rfl
  obtain ⟨N, rfl⟩ : ∃ N : Nat, n = (N : Int) := ⟨n.toNat, by omega⟩
  have hN1 : 1 ≤ N := by omega
  have hN2 : N ≤ 20 := by omega
  have i2 : (cond false (some true) (forceB (ltI (N : Int) 1) fun c28 => some c28)) = some false := (cond_of rfl).trans (forceB_of.trans (by rw [ltI_eq, dF (by omega)]))
  have i3 : (cond false (some true) (forceB (ltI 20 (N : Int)) fun c32 => some c32)) = some false := (cond_of rfl).trans (forceB_of.trans (by rw [ltI_eq, dF (by omega)]))
  have s1 := mk_ok (ro := ro) (hp := []) (l := 0) (p := 0) (e := 4) (es := 1) (bytes := 1) (v := .b false) (n := N) (by omega) (by omega)
  have dS : Holds ([] ++ [some (newBlk 4 (.b false) N)]) 0 (flL y N 0) := by
    have e : rep [(AVal.b false)] N = flL y N 0 := by
      refine List.ext_getElem (by rw [rep_len, flL_len]) fun j h1 h2 => ?_
      have hj : j < N := by rw [rep_len] at h1; exact h1
      have e1 := rep_get (AVal.b false) N j hj
      have e2 := flL_get (y := y) (t := 0) hj
      rw [List.getD_eq_getElem?_getD, List.getElem?_eq_getElem h1] at e1
      rw [List.getD_eq_getElem?_getD, List.getElem?_eq_getElem h2] at e2
      simp only [Option.getD_some] at e1 e2
      rw [e1, e2]; rfl
    show Holds ([] ++ [some (blkOf 4 (rep [(AVal.b false)] N))]) _ _
    rw [e]
    exact Holds.new [] 4 _
  obtain ⟨hq, hrun1, hql, hqh⟩ := flags_loop (a := a) hy hyr (by omega) hN1 hN2 rfl rfl dS
  obtain ⟨rel, erel⟩ : ∃ rel, rel = relN y N y.length := ⟨_, rfl⟩
  obtain ⟨k, ek⟩ : ∃ k, k = kN y N y.length := ⟨_, rfl⟩
  have hk20 : k ≤ 20 := by rw [ek]; exact Nat.le_trans (kN_le _ _ _) hN2
  have hkr : k = sumN (fun f => if rel f = true then 1 else 0) N := by rw [ek, erel]; rfl
  rw [← ek] at hrun1
  obtain ⟨v11, hr5, hrun2, rtold⟩ := told_loop (x8 := (k : Int)) (rel := rel) ha hxl hN2 rfl hql hqh (flL_len _ _ _) (fun f hf => by rw [erel]; exact flL_get hf)
  obtain ⟨z, ez⟩ : ∃ z, z = (List.range x.length).map (toldL rel x N) := ⟨_, rfl⟩
  have hzl : z.length = x.length := by rw [ez]; simp
  rw [← ez] at rtold
  have k0 : ∀ {l : Nat}, 0 ≤ l := Nat.zero_le _
  have K5 := keep0 hr5
  have hz' : z.length ≤ 9223372036854775807 := by omega
  obtain ⟨v6, h6, c6, k6, r6, n6⟩ := (Winnow_ok (n := (N : Int)) (mat_by ha K5) hf.lens rtold hz').cm
  have c6' := c6 (l := 0) (p := 0) k0 k0
  have rt6 := row_by rtold k6
  have hal6 := cp (F := F1) (l := 0) (p := 0) (alive_pure (ro := ro) (h := h6)) k0 k0
  have fin6 : (bindP (callM (callX F1 ro) ⟨h6, 0, 0⟩ 16 []) fun v57 m_9 => asB v57 fun c57 => some (c57, m_9)) = some (true, (⟨h6, 0, 0⟩ : Mm)) := (bindP_of hal6).trans rfl
  have hl6 := len_row r6
  by_cases hr : recE (N : Int) x z = 0
  case neg =>
    have e2 : winR (N : Int) x z = ([], recE (N : Int) x z) := by unfold winR; rw [if_pos hr]
    rw [e2] at c6' hl6
    have cR := cp (F := F1) (l := 0) (p := 0) (Record_ok (n := (N : Int)) (mat_by ha (keep0 h6)) hf.lens rt6 hz') k0 k0
    have q1 : (!eqI (recE (N : Int) x z) 0) = true := by rw [eqI_eq]; simpa using hr
    have q2 : eqI (recE (N : Int) x z) (recE (N : Int) x z) = true := by rw [eqI_eq]; exact beq_self_eq_true _
    have hl6' : evP .e (.len false (.c v6)) = some (.i .i64 0) := hl6
    generalize recE (N : Int) x z = E at *
    refine ⟨h6.take 0, 0, 0, g11_ok (meansX_ok F1 ro) rfl ?_⟩
    unfold g11
    refine (bindP_of hfew).trans ?_
    refine asB_of.trans ?_
    refine forceB_of.trans ?_
    refine (bindO_of i1).trans ?_
    refine (bindO_of i2).trans ?_
    refine (bindO_of i3).trans ?_
    refine (cond_of rfl).trans ?_
    refine (bindP_of s1).trans ?_
    refine (bindO_of hrun1).trans ?_
    refine (bindO_of hrun2).trans ?_
    refine (bindP_of c6').trans ?_
    refine (bindO_of (ext0 _ _)).trans ?_
    refine (bindO_of (ext1 _ _ _)).trans ?_
    refine asI_of.trans ?_
    refine forceB_of.trans ?_
    refine (condT_of q1).trans ?_
    refine (bindP_of cR).trans ?_
    refine asI_of.trans ?_
    refine forceB_of.trans ?_
    have i4 : (cond (eqI E E) (bindO (evP .e (.len false (.c v6))) fun v115 => asI .i64 v115 fun x115 => forceB (eqI x115 0) fun c116 => some c116) (some false)) = some true := by
      rw [q2, hl6']; rfl
    refine (bindO_of i4).trans ?_
    refine (bindO_of fin6).trans ?_
    exact fin_take (L := 0) rfl
  obtain ⟨N', hNN, -, -, hT, hrows, hzb, -⟩ := rec_facts hr
  obtain rfl : N = N' := by omega
  have e2 : winR (N : Int) x z = (sayM (wsay x z N) x.length x.length, 0) := by unfold winR; rw [if_neg (by simpa using hr)]; rfl
  rw [e2] at c6' hl6 r6
  rw [sayM_len] at hl6
  obtain ⟨hX1, hX2, hX3⟩ := lgX_all N (by omega)
  obtain ⟨X, eX⟩ : ∃ X, X = lgX N := ⟨_, rfl⟩
  rw [← eX] at hX1 hX2 hX3
  have hloopX := loop_run (b := fun s : Int => g11_b12 (meansX F1 ro) ro (N : Int) (k : Int) v11 v6 ⟨h6, 0, 0⟩ s) (fun t => (t : Int)) X (r0 := (X : Int))
    (by simp only [g11_b12, ltI_eq, nneg, chk_true, forceI_eq, shl_nat X (by omega), forceB_eq, dF (show ¬ ((2 ^ X : Nat) : Int) < (N : Int) by omega), cond_false])
    (fun t ht => by
      have := hX3 t ht
      simp only [g11_b12, ltI_eq, nneg, chk_true, forceI_eq, shl_nat t (by omega), forceB_eq, dT (show ((2 ^ t : Nat) : Int) < (N : Int) by omega), cond_true]
      rw [wr_next (by omega)])
  have hloopX' : loopX (fun s : Int => g11_b12 (meansX F1 ro) ro (N : Int) (k : Int) v11 v6 ⟨h6, 0, 0⟩ s) 0 = some (X : Int) := hloopX
  have htl : ∀ i, i < x.length → z.getD i 0 = tldN rel (nthR x i) N := fun i hi => by
    rw [ez, range_getD hi]; unfold toldL; rw [(hrows i hi).2, Nat.min_self]
  have hbound := winnow_few (x := x) (z := z) (N := N) (T := x.length) (X := X) (rel := rel) hN1 hN2 hX1 (fun i hi f hf => (hrows i hi).1 f (by have := (hrows i hi).2; omega))
    (fun i hi h1 => by
      rcases tld_iff rel (nthR x i) N with ⟨-, q⟩ | ⟨q, -⟩
      · exact q
      · rw [htl i hi, q] at h1; exact absurd h1 (by decide))
    (fun i hi h1 => by
      rcases tld_iff rel (nthR x i) N with ⟨q, -⟩ | ⟨q, q2⟩
      · rw [htl i hi, q] at h1; exact absurd rfl h1
      · exact ⟨by rw [htl i hi, q], q2⟩)
  rw [← hkr] at hbound
  have cW := cp (F := F1) (l := 0) (p := 0) (Wrong_ok r6 rt6 (by rw [sayM_len]; omega) (by omega)) k0 k0
  rw [hzl] at cW
  have hlz := len_row rt6
  rw [hzl] at hlz
  obtain ⟨W, hW⟩ : ∃ W, W = wrN (sayM (wsay x z N) x.length x.length) z x.length := ⟨_, rfl⟩
  rw [← hW] at cW hbound
  have hkX : k * (1 + X) ≤ 20 * 6 := Nat.mul_le_mul hk20 (by omega)
  have w1 : Go.Vm.wr .i64 (3 * (k : Int)) = ((3 * k : Nat) : Int) := by rw [wr_id' (by omega) (by omega)]; omega
  have w2 : Go.Vm.wr .i64 (1 + (X : Int)) = ((1 + X : Nat) : Int) := by rw [wr_id' (by omega) (by omega)]; omega
  have w3 : Go.Vm.wr .i64 (((3 * k : Nat) : Int) * ((1 + X : Nat) : Int)) = ((3 * (k * (1 + X)) : Nat) : Int) := by
    rw [← Int.natCast_mul, Nat.mul_assoc, wr_nat (by omega)]
  have w4 : Go.Vm.wr .i64 (2 + ((3 * (k * (1 + X)) : Nat) : Int)) = ((2 + 3 * (k * (1 + X)) : Nat) : Int) := by rw [wr_id' (by omega) (by omega)]; omega
  have q3 : eqI ((x.length : Int)) ((x.length : Int)) = true := by rw [eqI_eq]; exact beq_self_eq_true _
  refine ⟨h6.take 0, 0, 0, g11_ok (meansX_ok F1 ro) rfl ?_⟩
  unfold g11
  refine (bindP_of hfew).trans ?_
  refine asB_of.trans ?_
  refine forceB_of.trans ?_
  refine (bindO_of i1).trans ?_
  refine (bindO_of i2).trans ?_
  refine (bindO_of i3).trans ?_
  refine (cond_of rfl).trans ?_
  refine (bindP_of s1).trans ?_
  refine (bindO_of hrun1).trans ?_
  refine (bindO_of hrun2).trans ?_
  refine (bindP_of c6').trans ?_
  refine (bindO_of (ext0 _ _)).trans ?_
  refine (bindO_of (ext1 _ _ _)).trans ?_
  refine asI_of.trans ?_
  refine forceB_of.trans ?_
  refine (cond_of rfl).trans ?_
  refine (bindO_of hloopX').trans ?_
  refine (bindO_of hl6).trans ?_
  refine asI_of.trans ?_
  refine (bindO_of hlz).trans ?_
  refine asI_of.trans ?_
  refine forceB_of.trans ?_
  have i5 : (bindP (callM (callX F1 ro) ⟨h6, 0, 0⟩ 37 [v6, v11]) fun v135 m_16 => asI .i64 v135 fun x135 => forceI (Go.Vm.wr .i64 (3 * (k : Int))) fun x137 => forceI (Go.Vm.wr .i64 (1 + (X : Int))) fun x139 => forceI (Go.Vm.wr .i64 (x137 * x139)) fun x140 => forceI (Go.Vm.wr .i64 (2 + x140)) fun x141 => forceB (!ltI x141 x135) fun c142 => some (c142, m_16)) = some (true, (⟨h6, 0, 0⟩ : Mm)) := by
    refine (bindP_of cW).trans ?_
    refine asI_of.trans ?_
    rw [forceI_eq, w1, forceI_eq, w2, forceI_eq, w3, forceI_eq, w4]
    refine forceB_of.trans ?_
    rw [ltI_eq, dF (by omega)]; rfl
  refine (bindO_of ((condT_of q3).trans i5)).trans ?_
  refine (bindO_of fin6).trans ?_
  exact fin_take (L := 0) rfl
end
end Go.Proofs.Ytnalgdobglfndaa.T

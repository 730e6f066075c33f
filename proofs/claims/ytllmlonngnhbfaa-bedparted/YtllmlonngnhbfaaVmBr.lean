/- From the small machine to the statement: arguments that are lists of lists of numbers, in memory that is only read. -/
import Derived.Test.YtllmlonngnhbfaaVmFO
import Derived.Test.YtllmlonngnhbfaaVmAE
import Derived.Test.YtllmlonngnhbfaaRows
import Derived.WalkKit
import Derived.ProofKit
import Derived.OpenShut
import Derived.Carry
import Derived.Deep.Matrix
open Go.Vm
namespace Go.Proofs.Ytllmlonngnhbfaa.Bed
open Go Go.RowKit Go.Deep Go.WideShapes Go.ChangeShapes

/-- a row of numbers -/
def IsRow (ro : List ABlk) (h : Heap) (v : AVal) (z : List Int) : Prop :=
  (v = .nsl ∧ z = []) ∨ ∃ q cap blk, v = .sl q z.length cap ∧ rdB ro h q = some blk ∧ q.off + z.length ≤ blk.n ∧ ∀ j, j < z.length → blk.c.get (q.off + j) = .i .i64 (z.getD j 0)
/-- a list of rows -/
def IsMat (ro : List ABlk) (h : Heap) (v : AVal) (rows : List (List Int)) : Prop :=
  (v = .nsl ∧ rows = []) ∨ ∃ q cap blk, v = .sl q rows.length cap ∧ rdB ro h q = some blk ∧ q.off + rows.length ≤ blk.n ∧ ∀ r, r < rows.length → IsRow ro h (blk.c.get (q.off + r)) (rows.getD r [])
def inI64 (n : Int) : Prop := -9223372036854775808 ≤ n ∧ n ≤ 9223372036854775807
/-- what every argument is -/
def Fits (rows : List (List Int)) : Prop := rows.length ≤ 9223372036854775807 ∧ ∀ z ∈ rows, z.length ≤ 9223372036854775807 ∧ ∀ n ∈ z, inI64 n

abbrev F1 : Tab := ⟨F, known0 17 (.b true)⟩

theorem wf_i64 {n : Int} (h : (Lit.int .i64 n).wf = true) : inI64 n := by
  simp [Lit.wf, IntKind.min, IntKind.max, IntKind.signed, IntKind.bits] at h
  constructor <;> omega

/-- what is read in the world of a list of lists: the value, the rows -/
structure Opened (W : World) (v0 : Value) (rows : List (List Int)) : Prop where
  o : (v0 = .slice none 0 0 ∧ rows = []) ∨ ∃ (a : Addr) (cap : Nat) (A : Nat → Option Addr) (L C : Nat → Nat) (Z : Nat → List Int), v0 = .slice (some a) rows.length cap ∧
    rows.length ≤ cap ∧ rows = (List.range rows.length).map (fun r => (Z r).take (L r)) ∧
    ∀ r, r < cap → a.block < W.heap.size ∧ W.cell? (a.add r) = some (.slice (A r) (L r) (C r)) ∧ L r ≤ C r ∧ (Z r).length = C r ∧ (A r = none → C r = 0) ∧
      ∀ x, A r = some x → ∀ c, c < C r → x.block < W.heap.size ∧ W.cell? (x.add c) = some (.int .i64 ((Z r).getD c 0))
  fits : Fits rows

theorem cells32 : Try.prog.cellsOf 32 = 1 := by kernel_rfl
theorem cells3 : Try.prog.cellsOf 3 = 1 := by kernel_rfl
theorem laidOut : laidOutB Try.prog = true := by kernel_rfl
theorem own : ownKnob Try.prog.godebug = none := by kernel_rfl

def roCell (base : Nat) (A : Nat → Option Addr) (L C : Nat → Nat) (r : Nat) : AVal :=
  match A r with
  | none => .nsl
  | some _ => .sl ⟨true, base + 1 + r, 0⟩ (L r) (.known (C r))
def roMat (base cap : Nat) (A : Nat → Option Addr) (L C : Nat → Nat) (Z : Nat → List Int) : List ABlk :=
  ⟨0, cap, Tr.mk ((List.range cap).map (roCell base A L C))⟩ :: (List.range cap).map fun r => ⟨0, cond (A r).isSome (C r) 0, Tr.mk ((Z r).map (AVal.i .i64))⟩
def rlMat (a : Addr) (cap : Nat) (A : Nat → Option Addr) : Rl :=
  a :: (List.range cap).map fun r => (A r).getD a

/-- of an argument: read-only memory for it -/
theorem ro_of {W : World} {v0 : Value} {rows : List (List Int)} (h : Opened W v0 rows) (pre : List ABlk) (prl : Rl) (hp : pre.length = prl.length) : ∃ (ro : List ABlk) (rl : Rl) (v : AVal), ro.length = rl.length ∧ (∀ x y h, IsMat (pre ++ ro ++ x) h v rows ∧ VR (prl ++ rl ++ y) [] v v0) ∧
    ∀ (i : Nat) (b : ABlk), ro[i]? = some b → ∃ x, rl[i]? = some x ∧ ∀ j, j < b.n → x.block < W.heap.size ∧ ∃ v', W.cell? (x.add j) = some v' ∧ ∀ y, VR (prl ++ rl ++ y) [] (b.c.get j) v' := by
  rcases h.o with ⟨rfl, rfl⟩ | ⟨a, cap, A, L, C, Z, rfl, hcap, hrows, hcell⟩
  · exact ⟨[], [], .nsl, rfl, fun x y h => ⟨.inl ⟨rfl, rfl⟩, .nsl⟩, fun i b hb => by simp at hb⟩
  · have hro : ∀ (x : List ABlk) (r : Nat), r < cap → (pre ++ roMat pre.length cap A L C Z ++ x)[pre.length + 1 + r]? = some ⟨0, cond (A r).isSome (C r) 0, Tr.mk ((Z r).map (AVal.i .i64))⟩ := fun x r hr => by
      rw [List.append_assoc, List.getElem?_append_right (by omega), show pre.length + 1 + r - pre.length = r + 1 by omega]
      simp [roMat, hr, List.getElem?_append_left]
    have hro0 : ∀ (x : List ABlk), (pre ++ roMat pre.length cap A L C Z ++ x)[pre.length]? = some ⟨0, cap, Tr.mk ((List.range cap).map (roCell pre.length A L C))⟩ := fun x => by
      rw [List.append_assoc, List.getElem?_append_right (by omega)]
      simp [roMat]
    have hrl : ∀ (y : Rl) (r : Nat), r < cap → (prl ++ rlMat a cap A ++ y)[pre.length + 1 + r]? = some ((A r).getD a) := fun y r hr => by
      rw [List.append_assoc, List.getElem?_append_right (by omega), show pre.length + 1 + r - prl.length = r + 1 by omega]
      simp [rlMat, hr, List.getElem?_append_left]
    have hrl0 : ∀ (y : Rl), (prl ++ rlMat a cap A ++ y)[pre.length]? = some a := fun y => by
      rw [List.append_assoc, List.getElem?_append_right (by omega), show pre.length - prl.length = 0 by omega]
      simp [rlMat]
    have hvr : ∀ (y : Rl) (r : Nat), r < cap → VR (prl ++ rlMat a cap A ++ y) [] (roCell pre.length A L C r) (.slice (A r) (L r) (C r)) := fun y r hr => by
      obtain ⟨-, -, h1, h2, h3, -⟩ := hcell r hr
      unfold roCell
      cases hA : A r with
      | none =>
        have := h3 hA
        have h0 : L r = 0 := by omega
        rw [this, h0]
        exact .nsl
      | some x =>
        refine .slk _ _ _ _ ?_
        have := hrl y r hr
        rw [hA] at this
        show (((prl ++ rlMat a cap A ++ y)[pre.length + 1 + r]?).map fun x => x.add 0) = some x
        rw [this]; simp [Addr.add]
    refine ⟨roMat pre.length cap A L C Z, rlMat a cap A, .sl ⟨true, pre.length, 0⟩ rows.length (.known cap), by simp [roMat, rlMat], fun x y h => ⟨.inr ⟨_, _, ⟨0, cap, Tr.mk ((List.range cap).map (roCell pre.length A L C))⟩, rfl, ?_, ?_, ?_⟩, ?_⟩, ?_⟩
    · simp only [rdB, cond_true, lget_eq]; exact hro0 x
    · simpa using hcap
    · intro r hr
      have hr' : r < cap := by omega
      obtain ⟨-, -, h1, h2, h3, h4⟩ := hcell r hr'
      have hg : (Tr.mk ((List.range cap).map (roCell pre.length A L C))).get (0 + r) = roCell pre.length A L C r := by
        rw [get_mk]; simp [List.getD, hr']
      have hrow : rows.getD r [] = (Z r).take (L r) := by
        rw [List.getD_eq_getElem?_getD]
        conv => lhs; rw [hrows]
        simp [hr]
      simp only [hg, hrow]
      unfold roCell
      cases hA : A r with
      | none =>
        have := h3 hA
        have h0 : L r = 0 := by omega
        exact .inl ⟨rfl, by simp [h0]⟩
      | some y =>
        refine .inr ⟨⟨true, pre.length + 1 + r, 0⟩, .known (C r), ⟨0, cond (A r).isSome (C r) 0, Tr.mk ((Z r).map (AVal.i .i64))⟩, ?_, ?_, ?_, ?_⟩
        · simp; omega
        · simp only [rdB, cond_true, lget_eq]; exact hro x r hr'
        · simp [hA]; omega
        · intro j hj
          simp only [List.length_take] at hj
          rw [get_mk]
          have hj2 : j < (Z r).length := by omega
          have hj3 : j < L r := by omega
          simp [List.getD, hj2, hj3]
    · refine .slk _ _ _ _ ?_
      show (((prl ++ rlMat a cap A ++ y)[pre.length]?).map fun x => x.add 0) = some a
      rw [hrl0 y]; simp [Addr.add]
    · intro i b hb
      cases i with
      | zero =>
        simp [roMat] at hb
        subst hb
        refine ⟨a, by simp [rlMat], fun j hj => ?_⟩
        obtain ⟨h0, h1, -⟩ := hcell j hj
        refine ⟨h0, _, h1, fun y => ?_⟩
        have hg : (Tr.mk ((List.range cap).map (roCell pre.length A L C))).get j = roCell pre.length A L C j := by
          rw [get_mk]; simp [List.getD, show j < cap from hj]
        simp only [hg]
        exact hvr y j hj
      | succ r =>
        simp only [roMat, List.getElem?_cons_succ, List.getElem?_map, Option.map_eq_some_iff] at hb
        obtain ⟨r', hr', rfl⟩ := hb
        obtain ⟨hlt, he⟩ := List.getElem?_eq_some_iff.1 hr'
        simp only [List.length_range] at hlt
        simp only [List.getElem_range] at he
        subst he
        refine ⟨(A r).getD a, by simp [rlMat, hlt], fun j hj => ?_⟩
        obtain ⟨-, -, h1, h2, h3, h4⟩ := hcell r hlt
        cases hA : A r with
        | none => simp [hA] at hj
        | some x =>
          simp only [hA, Option.isSome_some, cond_true] at hj
          obtain ⟨h5, h6⟩ := h4 x hA j hj
          refine ⟨h5, _, h6, fun y => ?_⟩
          have hg : (Tr.mk ((Z r).map (AVal.i .i64))).get j = .i .i64 ((Z r).getD j 0) := by
            rw [get_mk]; simp [List.getD, show j < (Z r).length by omega]
          simp only [hg]
          exact .i _ _

theorem env_ok {W : World} {ro : List ABlk} {rl : Rl} (h : ∀ (i : Nat) (b : ABlk), ro[i]? = some b → ∃ x, rl[i]? = some x ∧ ∀ j, j < b.n → x.block < W.heap.size ∧ ∃ v', W.cell? (x.add j) = some v' ∧ VR rl [] (b.c.get j) v') :
    (Env.mk Try.prog W.heap.size W ro rl).Ok := ⟨fun i b hb => h i b hb, Nat.le_refl _⟩

/-- the call of the model: true, and below nothing has turned -/
theorem call_of (alive : callX ⟨F, noCall⟩ [] 17 [] [] = some (.b true, [], 0, 0)) {W : World} {ro : List ABlk} {rl : Rl} (hE : (Env.mk Try.prog W.heap.size W ro rl).Ok) {K : Nat} {vs : List AVal} {args : Array Value}
    (hv : LR rl [] vs args) {h' : Heap} {lw lp : Nat} (hc : callX F1 ro K vs [] = some (.b true, h', lw, lp)) : Calls Try.prog K args W fun e W' => e = .returned (.bool true) ∧ Below W.heap.size W W' := by
  have hm : (Env.mk Try.prog W.heap.size W ro rl).P.follows .mixedOrders = true := Try.checked.mixed
  have hO : CallOk (Env.mk Try.prog W.heap.size W ro rl) (known0 17 (.b true)) := known0_of hE hm fok alive rfl
  obtain ⟨-, h2⟩ := callX_sound hE hm (F := F1) fok hO K vs [] _ _ _ _ hc
  refine Calls.mono (h2 [] W args ⟨Below.refl _ _, rfl, by simp, fun i b r K hl => by simp [Live] at hl, fun i j b b' r K K' hl => by simp [Live] at hl⟩ hv) fun e w' hq => ?_
  obtain ⟨v', rfl, m', hvr, T⟩ := hq
  exact ⟨by rw [hvr.inv_b], T.hr.below⟩

/-- the reading of a list of lists -/
theorem opened {H : Type} {enc : TypeId × Value → H} {W : World} {v0 : Value} {d : DataW H} {p : List MemPlace} (hs : ∃ a len cap, v0 = .slice a len cap) (h : DataW.Trod enc Try.prog W 0 (fun _ => true) true 22 v0 d p) : ∃ rows, Opened W v0 rows := by
  obtain ⟨a0, len, cap, rfl⟩ := hs
  obtain ⟨fuel, hf⟩ := h
  rcases open_int_rows Try.underlying22 Try.underlying32 Try.underlying3 cells32 cells3 hf with ⟨hcs0, hx⟩ | ⟨a, len', cap', A, L, C, Z, hcs0, _, hl, hm, hx, hrows⟩
  · simp [Value.cells] at hcs0
    obtain ⟨rfl, rfl, rfl⟩ := hcs0
    exact ⟨[], .inl ⟨rfl, rfl⟩, by simp [Fits]⟩
  · simp [Value.cells] at hcs0
    obtain ⟨rfl, rfl, rfl⟩ := hcs0
    have hml : maxLen = 9223372036854775807 := rfl
    refine ⟨(List.range len).map fun r => (Z r).take (L r), .inr ⟨a, cap, A, L, C, Z, by simp, by simpa using hl, by simp, fun r hr => ?_⟩, ?_⟩
    · obtain ⟨h1, h2, h3, h4, h5, h6, h7⟩ := hrows r hr
      refine ⟨World.block_lt_of_cell? _ _ h1 |> fun h => by simpa [addr_block] using h, h1, h2, h4, h6, fun x hx c hc => ?_⟩
      obtain ⟨-, h8⟩ := h7 x hx
      have := World.block_lt_of_cell? _ _ (h8 c hc)
      exact ⟨by simpa [addr_block] using this, h8 c hc⟩
    · refine ⟨by simp; omega, fun z hz => ?_⟩
      obtain ⟨r, hr, rfl⟩ := List.mem_map.1 hz
      have hr := List.mem_range.1 hr
      obtain ⟨h1, h2, h3, h4, h5, h6, h7⟩ := hrows r (by omega)
      refine ⟨by simp; omega, fun n hn => wf_i64 (h5 n (List.mem_of_mem_take hn))⟩
end Go.Proofs.Ytllmlonngnhbfaa.Bed

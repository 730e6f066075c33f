/- Contracts of the functions: what each of them answers. -/
import Derived.Test.YtddnpchfjdgigaaDoorVmGt
import Derived.Test.YtddnpchfjdgigaaDoorVmFO
import Derived.Test.YtddnpchfjdgigaaDoorRows
import Derived.WalkKit
import Derived.Lib.TrailingZeros
import Derived.Laws.Bits64b
import Derived.KernelRfl
import Derived.Test.YtddnpchfjdgigaaDoorVmAE
import Derived.Test.YtddnpchfjdgigaaDoorVmAG
import Derived.ProofKit
import Derived.OpenShut
import Derived.Carry
import Derived.Deep.Slices
import Derived.Lib.LaidTab
/- math/bits.TrailingZeros32: the model's call answers what the small machine knows beforehand. -/
open Go.Vm
set_option linter.unusedVariables false
namespace Go.Proofs.YtddnpchfjdgigaaDoor.T
open Go Go.RowKit

def TabAt (w : World) : Prop := ∀ j, j < 32 → w.cell? ⟨0, j, none⟩ = some (.int .u8 ((Lib.deBruijn32tab.getD j 0 : Nat) : Int))

theorem wrap_u32 (n : Int) : IntKind.u32.wrap n = n % 4294967296 := by simp [IntKind.wrap, IntKind.signed, IntKind.bits]
theorem and_u32 (a b : Nat) (ha : a < 4294967296) (hb : b < 4294967296) : Go.bits .and .u32 (a : Int) (b : Int) = ((a &&& b : Nat) : Int) := by
  have hx : a &&& b < 2 ^ 32 := Nat.and_lt_two_pow _ (by omega)
  have h1 : (BitVec.ofInt 32 (a : Int)).toNat = a := by
    rw [BitVec.ofInt_natCast, BitVec.toNat_ofNat]; exact Nat.mod_eq_of_lt (by omega)
  have h2 : (BitVec.ofInt 32 (b : Int)).toNat = b := by
    rw [BitVec.ofInt_natCast, BitVec.toNat_ofNat]; exact Nat.mod_eq_of_lt (by omega)
  show IntKind.u32.wrap ((BitVec.ofInt 32 (a : Int) &&& BitVec.ofInt 32 (b : Int)).toNat : Int) = _
  rw [BitVec.toNat_and, h1, h2, wrap_u32]
  omega

set_option maxHeartbeats 1000000 in
theorem tz_core (x k idx : Nat) (w : World) (hx0 : ((x : Int) == 0) = false)
    (key : Go.bits BinOp.and IntKind.u32 (x : Int) (-(x : Int) % 4294967296) * 125613361 % 4294967296 / 134217728 = (idx : Int))
    (hi : idx < 32) (hk : k < 32) (hcell : w.cell? ⟨0, idx, none⟩ = some (.int .u8 k)) :
    Calls Tryd.prog 79 #[.int .u32 x] w fun e w' => e = .returned (.int .i64 k) ∧ w' = w := by
  go_enter Tryd.func79, Tryd.ntmps79
  go_wp2_with (simp only [key])
  go_ret
  exact ⟨rfl, rfl⟩

theorem tz_zero (w : World) : Calls Tryd.prog 79 #[.int .u32 0] w fun e w' => e = .returned (.int .i64 32) ∧ w' = w := by
  go_enter Tryd.func79, Tryd.ntmps79
  go_wp2
  go_ret
  exact ⟨rfl, rfl⟩

theorem ctzF_eq : ∀ (k n : Nat), n ≠ 0 → ctzF k n = Lib.ctzFrom k n
  | 0, n, _ => rfl
  | k + 1, n, h => by
    have e1 : Nat.mod n 2 = n % 2 := rfl
    have e2 : Nat.div n 2 = n / 2 := rfl
    simp only [ctzF, Lib.ctzFrom, e1, e2]
    by_cases hm : n % 2 = 1
    · simp [hm]
    · have : Nat.beq (n % 2) 1 = false := by
        cases hb : Nat.beq (n % 2) 1
        · rfl
        · exact absurd (Nat.eq_of_beq_eq_true hb) hm
      rw [this, if_neg hm, cond_false, ctzF_eq k (n / 2) (by omega)]
      omega
theorem ctzF_ctz (n : Nat) : ctzF 32 n = Lib.ctz 32 n := by
  by_cases h : n = 0
  · subst h; rfl
  · rw [ctzF_eq 32 n h]; simp [Lib.ctz, h]

theorem tz_key (x a : Nat) (hx : x < 4294967296) (hx0 : x ≠ 0) (hlow : x &&& (4294967296 - x) = a) :
    Go.bits BinOp.and IntKind.u32 (x : Int) (-(x : Int) % 4294967296) * 125613361 % 4294967296 / 134217728 = ((a * 125613361 % 4294967296 / 134217728 : Nat) : Int) := by
  have e1 : -(x : Int) % 4294967296 = ((4294967296 - x : Nat) : Int) := by omega
  rw [e1, and_u32 x _ hx (by omega), hlow]
  omega

theorem tz_all (x : Nat) (hx : x < 4294967296) (w : World) (hT : TabAt w) : Calls Tryd.prog 79 #[.int .u32 x] w fun e w' => e = .returned (.int .i64 (ctzF 32 x : Nat)) ∧ w' = w := by
  rw [ctzF_ctz]
  by_cases hx0 : x = 0
  · subst hx0
    exact tz_zero w
  · obtain ⟨hlow, hk⟩ := Lib.lowest_bit 32 x hx0 hx
    obtain ⟨hi, htab⟩ := Lib.deBruijn32_at _ hk
    have hcell := hT _ hi
    rw [htab] at hcell
    exact tz_core x _ _ w (by simp; omega) (tz_key x _ hx hx0 hlow) hi hk hcell

theorem enters79 (args' : Array Value) (w : World) : (callFunc 79 args').run Tryd.prog w = .ok (.enter 79 args') w := by
  have hb : (Tryd.f79.name == "runtime.NumGoroutine") = false := by kernel_rfl
  have hc : Tryd.f79.body.isSome = true := by kernel_rfl
  obtain ⟨c, hc⟩ := Option.isSome_iff_exists.1 hc
  have hne : ¬ Tryd.f79.name = "runtime.NumGoroutine" := by simpa using hb
  simp [callFunc, Tryd.func79, hne, hc]
theorem tz_ok {B : Nat} {w0 : World} {ro : List ABlk} {rl : Rl} (hT : TabAt w0) (hB : 0 < B) : CallOk (Env.mk Tryd.prog B w0 ro rl) tzC := by
  intro f args h v h' lw lp hcl
  unfold tzC at hcl
  cases hb : Nat.beq f 79
  · rw [hb] at hcl; cases hcl
  rw [hb] at hcl
  have := Nat.eq_of_beq_eq_true hb
  subst this
  simp only [cond_true] at hcl
  split at hcl
  · rename_i x
    split at hcl
    · rename_i n
      cases hn : Nat.blt n 4294967296
      · rw [hn] at hcl; cases hcl
      rw [hn] at hcl
      rw [Nat.blt_eq] at hn
      simp only [cond_true, Option.some.injEq, Prod.mk.injEq] at hcl
      obtain ⟨rfl, rfl, rfl, rfl⟩ := hcl
      refine ⟨fun args' w => enters79 args' w, fun m w args' hr hl => ?_⟩
      have hargs : args' = #[.int .u32 (n : Int)] := by
        obtain ⟨h1, h2⟩ := hl
        have hv := h2 0 _ rfl
        have := hv.inv_i
        obtain ⟨l⟩ := args'
        match l, h1 with
        | [a], _ =>
          simp at this
          subst this
          rfl
      subst hargs
      have hT' : TabAt w := fun j hj => by
        rw [hr.below.cell (p := ⟨0, j, none⟩) hB]
        exact hT j hj
      refine Calls.mono (tz_all n hn w hT') fun e w' hq => ?_
      obtain ⟨rfl, rfl⟩ := hq
      refine ⟨_, rfl, m, ?_, Tn.refl hr _ _⟩
      rw [mkN_eq]
      exact .i _ _
    · cases hcl
  · cases hcl
end Go.Proofs.YtddnpchfjdgigaaDoor.T

/- From the small machine to the statement: lists of numbers and of spans in memory that is only read; what is known beforehand. -/
open Go.Vm
set_option linter.unusedVariables false
namespace Go.Proofs.YtddnpchfjdgigaaDoor.T
open Go Go.RowKit Go.Deep Go.WideShapes Go.ChangeShapes

/-- a list of elements of es numbers each, in memory -/
def IsFlat (ro : List ABlk) (h : Heap) (v : AVal) (es len : Nat) (Z : List Int) : Prop :=
  (v = .nsl ∧ len = 0) ∨ ∃ q cap blk, v = .sl q len cap ∧ rdB ro h q = some blk ∧ q.off + len * es ≤ blk.n ∧ ∀ j, j < len * es → blk.c.get (q.off + j) = .i .i64 (Z.getD j 0)

/-- what is read in the world of such a list -/
structure OpenF (W : World) (v0 : Value) (es len : Nat) (Z : List Int) : Prop where
  o : (v0 = .slice none 0 0 ∧ len = 0) ∨ ∃ (a : Addr) (cap : Nat), v0 = .slice (some a) len cap ∧ len ≤ cap ∧ Z.length = cap * es ∧ ∀ i, i < cap * es → a.block < W.heap.size ∧ W.cell? (a.add i) = some (.int .i64 (Z.getD i 0))
  len_le : len ≤ 9223372036854775807
  z : ∀ n ∈ Z, inI64 n

theorem cells3 : Tryd.prog.cellsOf 3 = 1 := by kernel_rfl
theorem cells31 : Tryd.prog.cellsOf 31 = 4 := by kernel_rfl
theorem cells5 : Tryd.prog.cellsOf 5 = 1 := by kernel_rfl
theorem cells102 : Tryd.prog.cellsOf 102 = 32 := by kernel_rfl
theorem laidOut : laidOutB Tryd.prog = true := by kernel_rfl
theorem own : ownKnob Tryd.prog.godebug = none := by kernel_rfl

section
variable {H : Type} {enc : TypeId × Value → H} {W : World} {v0 : Value} {d : DataW H} {p : List MemPlace}
theorem opened_ints (hs : ∃ a len cap, v0 = .slice a len cap) (h : DataW.Trod enc Tryd.prog W 0 (fun _ => true) true 25 v0 d p) : ∃ len Z, OpenF W v0 1 len Z := by
  obtain ⟨a0, len, cap, rfl⟩ := hs
  obtain ⟨fuel, hf⟩ := h
  have hml : maxLen = 9223372036854775807 := rfl
  rcases open_ints Tryd.underlying25 Tryd.underlying3 cells3 hf with ⟨hcs0, hx⟩ | ⟨a, len', cap', zs, hcs0, _, hl, hm, hz, hx, hcell, hw⟩
  · simp [Value.cells] at hcs0
    obtain ⟨rfl, rfl, rfl⟩ := hcs0
    exact ⟨0, [], .inl ⟨rfl, rfl⟩, by omega, by simp⟩
  · simp [Value.cells] at hcs0
    obtain ⟨rfl, rfl, rfl⟩ := hcs0
    simp only [if_true] at hz
    refine ⟨len, zs, .inr ⟨a, cap, rfl, hl, by omega, fun i hi => ?_⟩, by omega, fun n hn => wf_i64 (hw n hn)⟩
    have h1 := hcell i (by omega)
    exact ⟨World.block_lt_of_cell? _ _ h1 |> fun h => by simpa [addr_block] using h, h1⟩

theorem opened_spans (hs : ∃ a len cap, v0 = .slice a len cap) (h : DataW.Trod enc Tryd.prog W 0 (fun _ => true) true 22 v0 d p) : ∃ len Z, OpenF W v0 4 len Z := by
  obtain ⟨a0, len, cap, rfl⟩ := hs
  obtain ⟨fuel, hf⟩ := h
  have hml : maxLen = 9223372036854775807 := rfl
  rcases open_slice Tryd.underlying22 hf with ⟨hcs0, hx⟩ | ⟨a, len', cap', m, n, D, Pl, hcs0, _, hl, hm, hmm, hx, hel⟩
  · simp [Value.cells] at hcs0
    obtain ⟨rfl, rfl, rfl⟩ := hcs0
    exact ⟨0, [], .inl ⟨rfl, rfl⟩, by omega, by simp⟩
  · simp [Value.cells] at hcs0
    obtain ⟨rfl, rfl, rfl⟩ := hcs0
    simp only [if_true] at hmm
    subst hmm
    have each : ∀ i, i < m → ∃ y : Nat → Int, ∀ k, k < 4 → W.cell? (a.add (i * 4 + k)) = some (.int .i64 (y k)) ∧ inI64 (y k) := by
      intro i hi
      obtain ⟨cs', h1, h2⟩ := hel i hi
      rw [cells31] at h1
      obtain ⟨_, hlen, hcell⟩ := World.cells?_some h1
      obtain ⟨xs, k, hk, hxy, _, hxl, hfs⟩ := DataW.trod_struct Tryd.underlying31 h2
      have hxl' : xs.length = 4 := hxl
      have one : ∀ j, j < 4 → ∃ z : Int, W.cell? (a.add (i * 4 + j)) = some (.int .i64 z) ∧ inI64 z := by
        intro j hj
        have hf : ∃ nm b1 b2 b3 b4, (#[{ name := "From", type := 3, offset := 0, embedded := false, tag := "", pkgPath := "", byteOffset := 0 },
        { name := "To", type := 3, offset := 1, embedded := false, tag := "", pkgPath := "", byteOffset := 8 },
        { name := "Low", type := 3, offset := 2, embedded := false, tag := "", pkgPath := "", byteOffset := 16 },
        { name := "High", type := 3, offset := 3, embedded := false, tag := "", pkgPath := "", byteOffset := 24 }] : Array Field)[j]? = some { name := nm, type := 3, offset := j, embedded := b1, tag := b2, pkgPath := b3, byteOffset := b4 } := by
          match j, hj with
          | 0, _ => exact ⟨_, _, _, _, _, rfl⟩
          | 1, _ => exact ⟨_, _, _, _, _, rfl⟩
          | 2, _ => exact ⟨_, _, _, _, _, rfl⟩
          | 3, _ => exact ⟨_, _, _, _, _, rfl⟩
        obtain ⟨nm, b1, b2, b3, b4, hf⟩ := hf
        have h3 := hfs j _ hf
        simp only [cells3] at h3
        have hx : xs[j]? = some xs[j] := List.getElem?_eq_getElem (by omega)
        rw [hx] at h3
        obtain ⟨z, e1, -, e2⟩ := DataW.trod_int Tryd.underlying3 h3
        refine ⟨z, ?_, wf_i64 e2⟩
        have h4 := hcell j hj
        rw [addr_addadd] at h4
        rw [h4]
        have h5 : ((cs'.drop j).take 1)[0]? = some (.int .i64 z) := by rw [e1]; rfl
        simpa [List.getElem?_take, List.getElem?_drop] using h5
      obtain ⟨y, hy⟩ := choose_lt (α := Int) (p := fun j z => W.cell? (a.add (i * 4 + j)) = some (.int .i64 z) ∧ inI64 z) one
      exact ⟨y, hy⟩
    obtain ⟨y, hy⟩ := choose_lt (α := Nat → Int) (p := fun i y => ∀ k, k < 4 → W.cell? (a.add (i * 4 + k)) = some (.int .i64 (y k)) ∧ inI64 (y k)) each
    refine ⟨len, (List.range (m * 4)).map fun k => y (k / 4) (k % 4), .inr ⟨a, m, rfl, hl, by simp, fun i hi => ?_⟩, by omega, fun n hn => ?_⟩
    · obtain ⟨h1, h2⟩ := hy (i / 4) (by omega) (i % 4) (by omega)
      rw [show i / 4 * 4 + i % 4 = i by omega] at h1
      have e : ((List.range (m * 4)).map fun k => y (k / 4) (k % 4)).getD i 0 = y (i / 4) (i % 4) := by simp [List.getD, hi]
      rw [e]
      exact ⟨World.block_lt_of_cell? _ _ h1 |> fun h => by simpa [addr_block] using h, h1⟩
    · obtain ⟨k, hk, rfl⟩ := List.mem_map.1 hn
      have hk := List.mem_range.1 hk
      exact (hy (k / 4) (by omega) (k % 4) (by omega)).2
end

/-- of an argument: read-only memory for it -/
theorem ro_of {W : World} {v0 : Value} {es len : Nat} {Z : List Int} (h : OpenF W v0 es len Z) (pre : List ABlk) (prl : Rl) (hp : pre.length = prl.length) : ∃ (ro : List ABlk) (rl : Rl) (v : AVal), ro.length = rl.length ∧
    (∀ x y h, IsFlat (pre ++ ro ++ x) h v es len Z ∧ VR (prl ++ rl ++ y) [] v v0) ∧
    ∀ (i : Nat) (b : ABlk), ro[i]? = some b → ∃ x, rl[i]? = some x ∧ ∀ j, j < b.n → x.block < W.heap.size ∧ ∃ v', W.cell? (x.add j) = some v' ∧ ∀ y, VR y [] (b.c.get j) v' := by
  rcases h.o with ⟨rfl, rfl⟩ | ⟨a, cap, rfl, hcap, hlen, hcell⟩
  · exact ⟨[], [], .nsl, rfl, fun x y h => ⟨.inl ⟨rfl, rfl⟩, .nsl⟩, fun i b hb => by simp at hb⟩
  · have hget : ∀ j, j < cap * es → (Tr.mk (Z.map (AVal.i .i64))).get j = .i .i64 (Z.getD j 0) := fun j hj => by
      rw [get_mk]; simp [List.getD, show j < Z.length by omega]
    refine ⟨[⟨0, cap * es, Tr.mk (Z.map (AVal.i .i64)), none⟩], [a], .sl ⟨true, pre.length, 0⟩ len (.known cap), rfl, fun x y h => ⟨.inr ⟨⟨true, pre.length, 0⟩, .known cap, ⟨0, cap * es, Tr.mk (Z.map (AVal.i .i64)), none⟩, rfl, ?_, ?_, fun j hj => ?_⟩, ?_⟩, fun i b hb => ?_⟩
    · simp only [rdB, cond_true, lget_eq, List.append_assoc]
      rw [List.getElem?_append_right (Nat.le_refl _)]; simp
    · have := Nat.mul_le_mul_right es hcap
      simpa using this
    · have := Nat.mul_le_mul_right es hcap
      have := hget j (by omega)
      simpa using this
    · refine .slk _ _ _ _ ?_
      show (((prl ++ [a] ++ y)[pre.length]?).map fun x => x.add 0) = some a
      rw [List.append_assoc, List.getElem?_append_right (by omega), hp]; simp [Addr.add]
    · cases i with
      | zero =>
        simp at hb
        subst hb
        refine ⟨a, rfl, fun j hj => ?_⟩
        obtain ⟨h1, h2⟩ := hcell j hj
        refine ⟨h1, _, h2, fun y => ?_⟩
        have := hget j hj
        simp only [this]
        exact .i _ _
      | succ i => simp at hb

theorem env_ok {W : World} {ro : List ABlk} {rl : Rl} (h : ∀ (i : Nat) (b : ABlk), ro[i]? = some b → ∃ x, rl[i]? = some x ∧ ∀ j, j < b.n → x.block < W.heap.size ∧ ∃ v', W.cell? (x.add j) = some v' ∧ VR rl [] (b.c.get j) v') :
    (Env.mk Tryd.prog W.heap.size W ro rl).Ok := ⟨fun i b hb => h i b hb, Nat.le_refl _⟩
/-- two together -/
theorem ro_two {W : World} {ro ro' : List ABlk} {rl rl' : Rl} (hl : ro.length = rl.length)
    (h : ∀ (i : Nat) (b : ABlk), ro[i]? = some b → ∃ x, rl[i]? = some x ∧ ∀ j, j < b.n → x.block < W.heap.size ∧ ∃ v', W.cell? (x.add j) = some v' ∧ ∀ y, VR y [] (b.c.get j) v')
    (h' : ∀ (i : Nat) (b : ABlk), ro'[i]? = some b → ∃ x, rl'[i]? = some x ∧ ∀ j, j < b.n → x.block < W.heap.size ∧ ∃ v', W.cell? (x.add j) = some v' ∧ ∀ y, VR y [] (b.c.get j) v') :
    ∀ (i : Nat) (b : ABlk), (ro ++ ro')[i]? = some b → ∃ x, (rl ++ rl')[i]? = some x ∧ ∀ j, j < b.n → x.block < W.heap.size ∧ ∃ v', W.cell? (x.add j) = some v' ∧ ∀ y, VR y [] (b.c.get j) v' := by
  intro i b hb
  rcases Nat.lt_or_ge i ro.length with hi | hi
  · rw [List.getElem?_append_left hi] at hb
    obtain ⟨x, h1, h2⟩ := h i b hb
    exact ⟨x, by rw [List.getElem?_append_left (by omega)]; exact h1, h2⟩
  · rw [List.getElem?_append_right hi] at hb
    obtain ⟨x, h1, h2⟩ := h' _ b hb
    exact ⟨x, by rw [List.getElem?_append_right (by omega), ← hl]; exact h1, h2⟩

abbrev F1 : Tab := ⟨F, orC (known0 16 (.b true)) tzC⟩

/-- the call of the model: true, and below nothing has turned -/
theorem call_of {W : World} {ro : List ABlk} {rl : Rl} (hT : TabAt W) (hE : (Env.mk Tryd.prog W.heap.size W ro rl).Ok) {K : Nat} {vs : List AVal} {args : Array Value}
    (hv : LR rl [] vs args) {h' : Heap} {lw lp : Nat} (hc : callX F1 ro K vs [] = some (.b true, h', lw, lp)) : Calls Tryd.prog K args W fun e W' => e = .returned (.bool true) ∧ Below W.heap.size W W' := by
  have hm : (Env.mk Tryd.prog W.heap.size W ro rl).P.follows .mixedOrders = true := Tryd.checked.mixed
  have hB : 0 < W.heap.size := by
    have := World.block_lt_of_cell? _ _ (hT 0 (by omega))
    exact this
  have hA : CallOk (Env.mk Tryd.prog W.heap.size W ro rl) (known0 16 (.b true)) := known0_ok (callX_sound (E := (Env.mk Tryd.prog W.heap.size W ro rl).bare) (Env.bare_ok hE) hm (F := ⟨F, tzC⟩) fok (tz_ok hT hB)) alive0 rfl
  have hO : CallOk (Env.mk Tryd.prog W.heap.size W ro rl) (orC (known0 16 (.b true)) tzC) := or_ok hA (tz_ok hT hB)
  obtain ⟨-, h2⟩ := callX_sound hE hm (F := F1) fok hO K vs [] _ _ _ _ hc
  refine Calls.mono (h2 [] W args ⟨Below.refl _ _, rfl, by simp, fun i b r K hl => by simp [Live] at hl, fun i j b b' r K K' hl => by simp [Live] at hl⟩ hv) fun e w' hq => ?_
  obtain ⟨v', rfl, m', hvr, T⟩ := hq
  exact ⟨by rw [hvr.inv_b], T.hr.below⟩

theorem tabLaid {W : World} (h : laidMet Tryd.prog [("math/bits.deBruijn32tab", Rows.laid_math_bits_deBruijn32tab)] W) : TabAt W := by
  have gT : Tryd.prog.globalNamed "math/bits.deBruijn32tab" = some 0 := by kernel_rfl
  have gTy : (Tryd.prog.globals[0]?).map (·.type) = some 102 := by kernel_rfl
  have hI : Lib.TabIs Tryd.prog W "math/bits.deBruijn32tab" .u8 (Lib.deBruijn32tab.map fun n : Nat => (n : Int)) := Lib.tabIs_of_head (rest := []) gT gTy Tryd.underlying102 Tryd.underlying5 cells5 cells102 h
  intro j hj
  have := hI.cell gT j (by simpa [Lib.deBruijn32tab] using hj)
  rw [this]
  have : (Lib.deBruijn32tab.map fun n : Nat => (n : Int)).getD j 0 = ((Lib.deBruijn32tab.getD j 0 : Nat) : Int) := by
    simp only [List.getD_eq_getElem?_getD, List.getElem?_map]
    cases Lib.deBruijn32tab[j]? <;> rfl
  rw [this]
end Go.Proofs.YtddnpchfjdgigaaDoor.T

/- Blocks that a function makes for itself; spans; remainders. -/
open Go.Vm
set_option linter.unusedVariables false
namespace Go.Proofs.YtddnpchfjdgigaaDoor.T
open Go

/-- a block of the heap that holds these values -/
def Holds (hp : Heap) (b : Nat) (vs : List AVal) : Prop := ∃ blk : ABlk, lget hp b = some (some blk) ∧ blk.n = vs.length ∧ ∀ j, j < vs.length → blk.c.get j = vs.getD j und
/-- what was there is still there -/
def Keep (h hp : Heap) : Prop := h.length ≤ hp.length ∧ ∀ i, i < h.length → hp[i]? = h[i]?

section
variable {ro : List ABlk} {h hp hp' : Heap} {b k e n l p : Nat} {vs : List AVal}
theorem Keep.refl (h : Heap) : Keep h h := ⟨Nat.le_refl _, fun _ _ => rfl⟩
theorem Keep.trans {h1 : Heap} (a : Keep h h1) (c : Keep h1 hp) : Keep h hp := ⟨Nat.le_trans a.1 c.1, fun i hi => by rw [c.2 i (by have := a.1; omega), a.2 i hi]⟩
theorem Keep.app (x : Heap) : Keep h (h ++ x) := ⟨by simp, fun i hi => List.getElem?_append_left hi⟩
theorem Keep.set (a : Keep h hp) (hb : h.length ≤ b) (x : Option ABlk) : Keep h (hp.set b x) := ⟨by simpa using a.1, fun i hi => by rw [List.getElem?_set_ne (by omega)]; exact a.2 i hi⟩
theorem Keep.eq (a : Keep h hp) : hp.take h.length = h := by
  refine List.ext_getElem? fun i => ?_
  rcases Nat.lt_or_ge i h.length with hi | hi
  · rw [List.getElem?_take_of_lt hi, a.2 i hi]
  · rw [List.getElem?_eq_none (by simp; omega), List.getElem?_eq_none hi]
theorem fin_keep {v : AVal} (a : Keep h hp) (hv : v.bel h.length = true) : finM h.length v ⟨hp, h.length, h.length⟩ = some (v, h, h.length, h.length) := by
  rw [fin_take hv, a.eq]
theorem Holds.lt (a : Holds hp b vs) : b < hp.length := by obtain ⟨blk, h1, -⟩ := a; exact lget_lt h1
theorem Holds.new (hp : Heap) (e : Nat) (vs : List AVal) : Holds (hp ++ [some (blkOf e vs)]) hp.length vs := ⟨_, lget_last _ _, rfl, fun j _ => get_blk e vs j⟩
theorem Holds.keep (a : Holds hp b vs) (hk : hp'[b]? = hp[b]?) : Holds hp' b vs := by
  obtain ⟨blk, h1, h2⟩ := a
  exact ⟨blk, by rw [lget_of hk]; exact h1, h2⟩
theorem Holds.ext (a : Holds hp b vs) (x : Heap) : Holds (hp ++ x) b vs := a.keep (List.getElem?_append_left a.lt)
theorem Holds.by (a : Holds hp b vs) (k : Keep hp hp') : Holds hp' b vs := a.keep (k.2 b a.lt)
theorem Holds.one (a : Holds hp b vs) (hk : k < vs.length) : ldM ro ⟨hp, l, p⟩ true 1 (.p (some ⟨false, b, 0 + k⟩)) = some (vs.getD k und) := by
  obtain ⟨blk, h1, h2, h3⟩ := a
  rw [ld_heap rfl h1 (by omega), ← h3 k hk, Nat.zero_add]
theorem Holds.oneA (a : Holds hp b vs) (hk : k < vs.length) : ldA ro hp true 1 (.p (some ⟨false, b, 0 + k⟩)) = some (vs.getD k und) := by
  obtain ⟨blk, h1, h2, h3⟩ := a
  rw [lda_heap h1 (by omega), ← h3 k hk, Nat.zero_add]
theorem row_list {t : Tr} : ∀ (vs : List AVal) (i : Nat), (∀ j, j < vs.length → t.get (i + j) = vs.getD j und) → t.row i vs.length = vs
  | [], i, _ => rfl
  | v :: vs, i, h => by
    simp only [List.length_cons, Tr.row]
    rw [show t.get i = v by simpa using h 0 (by simp), row_list vs (i + 1) fun j hj => by have := h (j + 1) (by simp; omega); rw [show i + 1 + j = i + (j + 1) by omega, this]; simp]
theorem Holds.rd (a : Holds hp b vs) (hn : n = vs.length) : Go.Vm.rd ro hp false n ⟨false, b, 0⟩ = some (.agg vs) := by
  subst hn
  obtain ⟨blk, h1, h2, h3⟩ := a
  have hc : Nat.ble (0 + vs.length) blk.n = true := by rw [Nat.ble_eq]; omega
  simp only [Go.Vm.rd, rdB_heap h1, cond_false, hc, cond_true]
  rw [row_list vs 0 fun j hj => by rw [Nat.zero_add]; exact h3 j hj]
theorem Holds.all (a : Holds hp b vs) (hn : n = vs.length) : ldM ro ⟨hp, l, p⟩ false n (.p (some ⟨false, b, 0⟩)) = some (.agg vs) := by
  simp only [ldM, a.rd hn]
theorem Holds.allA (a : Holds hp b vs) (hn : n = vs.length) : ldA ro hp false n (.p (some ⟨false, b, 0⟩)) = some (.agg vs) := by
  have h1 : (false || Nat.blt b hp.length) = true := by
    have := a.lt
    simpa [Nat.blt_eq] using this
  simp only [ldA, h1, cond_true, a.rd hn]
theorem spliceGet (t : Tr) : ∀ (vs : List AVal) (i j : Nat), (t.splice i vs).get j = if i ≤ j ∧ j < i + vs.length then vs.getD (j - i) und else t.get j
  | [], i, j => by simp [Tr.splice]; intro h1 h2; omega
  | v :: vs, i, j => by
    rw [Tr.splice, spliceGet (t.set i v) vs (i + 1) j, get_set]
    by_cases e : i = j
    · subst e
      rw [if_neg (by omega), if_pos rfl, if_pos (by simp)]; simp
    · by_cases h2 : i ≤ j ∧ j < i + (v :: vs).length
      · have h3 : i + 1 ≤ j ∧ j < i + 1 + vs.length := by simp at h2; omega
        rw [if_pos h2, if_pos h3]
        obtain ⟨q, rfl⟩ : ∃ q, j = i + 1 + q := ⟨j - (i + 1), by omega⟩
        rw [show i + 1 + q - i = q + 1 by omega, show i + 1 + q - (i + 1) = q by omega]
        simp
      · have h3 : ¬ (i + 1 ≤ j ∧ j < i + 1 + vs.length) := by simp at h2; omega
        rw [if_neg h2, if_neg h3, if_neg e]
theorem wrH_all {blk : ABlk} (hb : lget hp b = some (some blk)) (hn : vs.length ≤ blk.n) (ho : ones vs = true) : wrH hp ⟨false, b, 0⟩ vs = some (hp.set b (some { blk with c := blk.c.splice 0 vs })) := by
  have : (Nat.ble (0 + vs.length) blk.n && ones vs) = true := by rw [ho, Bool.and_true, Nat.ble_eq]; omega
  simp only [wrH, cond_false, hb, this, cond_true, lset_eq]
/-- a block is written whole -/
theorem Holds.st {vs' : List AVal} {v : AVal} (a : Holds hp b vs) (hv : v.cells = vs') (hn : n = vs'.length) (hl : vs'.length = vs.length) (ho : ones vs' = true) (hL : h.length ≤ b) (kp : Keep h hp) :
    ∃ hp', stepM ro ⟨hp, h.length, h.length⟩ (.st n (.c (.p (some ⟨false, b, 0⟩))) (.c v)) = some (und, ⟨hp', h.length, h.length⟩) ∧ Holds hp' b vs' ∧ hp'.length = hp.length ∧ (∀ i, i ≠ b → hp'[i]? = hp[i]?) ∧ Keep h hp' := by
  obtain ⟨blk, h1, h2, h3⟩ := a
  subst hv hn
  have hw := wrH_all h1 (vs := v.cells) (by omega) ho
  refine ⟨hp.set b (some { blk with c := blk.c.splice 0 v.cells }), ?_, ⟨_, lget_set h1 _, by simpa using (h2.trans hl.symm), fun j hj => ?_⟩, by simp, fun i hi => List.getElem?_set_ne (Ne.symm hi), kp.set hL _⟩
  · have hbq : Nat.beq v.cells.length v.cells.length = true := Nat.beq_refl _
    have e : (cond (nonp v.cells) h.length h.length) = h.length := by cases nonp v.cells <;> rfl
    simp only [stepM, stepK, opd, st_st, hbq, cond_true, hw, St.mm, Nat.min_eq_left hL, e]
  · show (blk.c.splice 0 v.cells).get j = _
    rw [spliceGet, if_pos (by omega)]; simp
theorem al_ok (e : Nat) (z : List AVal) : stepM ro ⟨hp, l, p⟩ (.al e z) = some (.p (some ⟨false, hp.length, 0⟩), ⟨hp ++ [some (blkOf e z)], l, p⟩) := rfl
theorem bx_ok (e : Nat) (hn : vs.length = n) : stepM ro ⟨hp, l, p⟩ (.bx e n (.c (.agg vs))) = some (.p (some ⟨false, hp.length, 0⟩), ⟨hp ++ [some (blkOf e vs)], l, p⟩) := by
  subst hn
  have hbq : Nat.beq vs.length vs.length = true := Nat.beq_refl _
  simp only [stepM, stepK, opd, st_bx, AVal.cells, hbq, cond_true, newB, St.mm]
end

/- remainders -/
theorem tmod_add {x t : Int} (ht : 1 ≤ t) : Int.tmod (Int.tmod x t + t) t = x % t := by
  have h1 : -t < Int.tmod x t ∧ Int.tmod x t < t := by
    constructor
    · have := Int.lt_tmod_of_pos x (show 0 < t by omega); omega
    · exact Int.tmod_lt_of_pos x (by omega)
  have h2 : Int.tmod x t = x - t * Int.tdiv x t := by have := Int.mul_tdiv_add_tmod x t; omega
  rw [Int.tmod_eq_emod_of_nonneg (by omega), h2]
  rw [show x - t * x.tdiv t + t = x + t * (1 - x.tdiv t) by rw [Int.mul_sub]; omega, Int.add_mul_emod_self_left]
theorem tmod_rng {x t : Int} (ht : 1 ≤ t) (h24 : t ≤ 24) : inI64 (Int.tmod x t + t) := by
  have h3 := Int.lt_tmod_of_pos x (show 0 < t by omega)
  have h4 := Int.tmod_lt_of_pos x (show 0 < t by omega)
  constructor <;> omega
theorem eqI_pos {t : Int} (ht : 1 ≤ t) : (!eqI t (.ofNat 0)) = true := by
  rw [eqI_eq]; simp; omega
theorem mod67 {ro : List ABlk} {h : Heap} {x t : Int} (ht : 1 ≤ t) (h24 : t ≤ 24) : callX F1 ro 67 [.i .i64 x, .i .i64 t] h = some (.i .i64 (x % t), h, h.length, h.length) := by
  refine g67_ok (meansX_ok F1 ro) rfl ?_
  unfold g67
  simp only [eqI_pos ht, chk_true, forceI_eq, wr_id (tmod_rng ht h24), tmod_add ht, tupA]
  exact fin_pure rfl
abbrev demV (t n : Int) (v : AVal) : AVal := .agg [.i .i64 t, .i .i64 n, v]
theorem mod70 {ro : List ABlk} {h : Heap} {x t n : Int} {v : AVal} (ht : 1 ≤ t) (h24 : t ≤ 24) : callX F1 ro 70 [demV t n v, .i .i64 x] h = some (.i .i64 (x % t), h, h.length, h.length) := by
  refine g70_ok (meansX_ok F1 ro) rfl ?_
  unfold g70
  have hb := Holds.new h 55 [.i .i64 t, .i .i64 n, v]
  have h0 := hb.oneA (ro := ro) (k := 0) (by simp)
  have hbx : stepM ro ⟨h, h.length, h.length⟩ (.bx 55 3 (.c (demV t n v))) = _ := bx_ok (vs := [.i .i64 t, .i .i64 n, v]) 55 rfl
  rw [hbx]
  simp only [bindP_some, p_faddr, bindO_some, Nat.zero_add, Nat.add_zero] at h0 ⊢
  simp only [h0, List.getD_cons_zero, bindO_some, asI_i, eqI_pos ht, chk_true, forceI_eq, wr_id (tmod_rng ht h24), tmod_add ht, tupA]
  exact fin_drop rfl

/- spans -/
structure Sp where
  f : Int
  t : Int
  lo : Int
  hi : Int
def Sp.z : Sp := ⟨0, 0, 0, 0⟩
def Sp.fits (s : Sp) : Prop := inI64 s.f ∧ inI64 s.t ∧ inI64 s.lo ∧ inI64 s.hi
abbrev Sp.vs (s : Sp) : List AVal := [.i .i64 s.f, .i .i64 s.t, .i .i64 s.lo, .i .i64 s.hi]
abbrev Sp.v (s : Sp) : AVal := .agg s.vs
def IsSpans (ro : List ABlk) (h : Heap) (v : AVal) (l : List Sp) : Prop :=
  (v = .nsl ∧ l = []) ∨ ∃ q cap blk, v = .sl q l.length cap ∧ rdB ro h q = some blk ∧ q.off + l.length * 4 ≤ blk.n ∧
    ∀ j, j < l.length → ∀ k, k < 4 → blk.c.get (q.off + j * 4 + k) = (l.getD j Sp.z).vs.getD k und
def spansOf (len : Nat) (Z : List Int) : List Sp := (List.range len).map fun i => ⟨Z.getD (i * 4) 0, Z.getD (i * 4 + 1) 0, Z.getD (i * 4 + 2) 0, Z.getD (i * 4 + 3) 0⟩
theorem spans_of {ro : List ABlk} {h : Heap} {v : AVal} {len : Nat} {Z : List Int} (a : IsFlat ro h v 4 len Z) : IsSpans ro h v (spansOf len Z) := by
  rcases a with ⟨rfl, rfl⟩ | ⟨q, cap, blk, rfl, hb, hn, hc⟩
  · exact .inl ⟨rfl, rfl⟩
  · refine .inr ⟨q, cap, blk, by simp [spansOf], hb, by simpa [spansOf] using hn, fun j hj k hk => ?_⟩
    have hj : j < len := by simpa [spansOf] using hj
    have e : (spansOf len Z).getD j Sp.z = ⟨Z.getD (j * 4) 0, Z.getD (j * 4 + 1) 0, Z.getD (j * 4 + 2) 0, Z.getD (j * 4 + 3) 0⟩ := by simp [spansOf, List.getD, hj]
    rw [e, Nat.add_assoc, hc (j * 4 + k) (by omega)]
    match k, hk with
    | 0, _ => rfl
    | 1, _ => rfl
    | 2, _ => rfl
    | 3, _ => rfl
theorem row_of {ro : List ABlk} {h : Heap} {v : AVal} {len : Nat} {Z : List Int} (a : IsFlat ro h v 1 len Z) (hl : len = 0 ∨ len ≤ Z.length) : IsRow ro h v (Z.take len) := by
  rcases a with ⟨rfl, rfl⟩ | ⟨q, cap, blk, rfl, hb, hn, hc⟩
  · exact .inl ⟨rfl, by simp⟩
  · have hlen : (Z.take len).length = len := by simp; omega
    refine .inr ⟨q, cap, blk, by rw [hlen], hb, by rw [hlen]; simpa using hn, fun j hj => ?_⟩
    rw [hlen] at hj
    rw [hc j (by omega)]
    simp [List.getD, List.getElem?_take, hj]

section
variable {ro : List ABlk} {h : Heap} {v : AVal} {l : List Sp}
theorem IsSpans.ext (x : Heap) (a : IsSpans ro h v l) : IsSpans ro (h ++ x) v l := by
  rcases a with h0 | ⟨q, cap, blk, e, hb, h1, h2⟩
  · exact .inl h0
  · exact .inr ⟨q, cap, blk, e, rdB_ext x hb, h1, h2⟩
theorem IsSpans.by {hp : Heap} (a : IsSpans ro h v l) (k : Keep h hp) : IsSpans ro hp v l := by
  rw [take_eq k.1 k.2]; exact a.ext _
theorem row_by {hp : Heap} {z : List Int} (a : IsRow ro h v z) (k : Keep h hp) : IsRow ro hp v z := by
  rw [take_eq k.1 k.2]; exact a.ext _
theorem IsSpans.bel (a : IsSpans ro h v l) : v.bel h.length = true := by
  rcases a with ⟨rfl, rfl⟩ | ⟨q, cap, blk, rfl, hb, h1, h2⟩
  · rfl
  · simpa [AVal.bel] using rdB_lt hb
theorem len_spans (a : IsSpans ro h v l) : evP .e (.len false (.c v)) = some (.i .i64 l.length) := by
  rcases a with ⟨rfl, rfl⟩ | ⟨q, cap, blk, rfl, -⟩
  · rfl
  · simp [evP, ev_len, opd, mkI_eq]
/-- the place of a span, and what lies there -/
theorem at_span (a : IsSpans ro h v l) {i : Nat} (hi : i < l.length) : ∃ q : Vm.Loc, evP .e (.ixS 4 (.c v) (.c (.i .i64 (i : Int)))) = some (.p (some q)) ∧ (∀ lw lp, ldM ro ⟨h, lw, lp⟩ false 4 (.p (some q)) = some (l.getD i Sp.z).v) ∧ ldA ro h false 4 (.p (some q)) = some (l.getD i Sp.z).v ∧
    ∀ k, k < 4 → ldA ro h true 1 (.p (some ⟨q.ro, q.b, q.off + k⟩)) = some ((l.getD i Sp.z).vs.getD k und) ∧ ∀ lw lp, ldM ro ⟨h, lw, lp⟩ true 1 (.p (some ⟨q.ro, q.b, q.off + k⟩)) = some ((l.getD i Sp.z).vs.getD k und) := by
  rcases a with ⟨rfl, rfl⟩ | ⟨q, cap, blk, rfl, hb, hn, hc⟩
  · simp at hi
  · have hblt : Nat.blt i l.length = true := by rw [Nat.blt_eq]; exact hi
    have e : ((i : Int)) = Int.ofNat i := rfl
    have hb' : rdB ro h ⟨q.ro, q.b, q.off + i * 4⟩ = some blk := hb
    have hc4 : Nat.ble (q.off + i * 4 + 4) blk.n = true := by rw [Nat.ble_eq]; omega
    have hrow : blk.c.row (q.off + i * 4) 4 = (l.getD i Sp.z).vs := row_list (t := blk.c) (l.getD i Sp.z).vs (q.off + i * 4) fun j hj => hc i hi j hj
    have hrd : rd ro h false 4 ⟨q.ro, q.b, q.off + i * 4⟩ = some (l.getD i Sp.z).v := by
      simp only [rd, hb', cond_false, hc4, cond_true, hrow]
    have hlt := rdB_lt hb
    refine ⟨⟨q.ro, q.b, q.off + i * 4⟩, ?_, fun lw lp => hrd, ?_, fun k hk => ?_⟩
    · simp only [evP, ev_ixS, opd, e, atI, hblt, cond_true]
    · simp only [ldA, hlt, cond_true, hrd]
    · have h1 : rd ro h true 1 ⟨q.ro, q.b, q.off + i * 4 + k⟩ = some ((l.getD i Sp.z).vs.getD k und) := by
        have hb2 : rdB ro h ⟨q.ro, q.b, q.off + i * 4 + k⟩ = some blk := hb
        have : Nat.blt (q.off + i * 4 + k) blk.n = true := by rw [Nat.blt_eq]; omega
        simp only [rd, hb2, cond_true, this, hc i hi k hk]
      exact ⟨by simp only [ldA, hlt, cond_true, h1], fun lw lp => h1⟩
end
theorem ext0 (a : AVal) (l : List AVal) : evP .e (.ext 0 (.c (.tup (a :: l)))) = some a := rfl
theorem ext1 (a b : AVal) (l : List AVal) : evP .e (.ext 1 (.c (.tup (a :: b :: l)))) = some b := rfl
theorem few15 {ro : List ABlk} {h : Heap} {v w : AVal} {l : List Sp} {z : List Int} (a : IsSpans ro h v l) (hr : IsRow ro h w z) : callX F1 ro 15 [v, w, .nsl] h = some (.b (decide (l.length ≤ 40 ∧ z.length ≤ 40)), h, h.length, h.length) := by
  refine g15_ok (meansX_ok F1 ro) rfl ?_
  unfold g15
  have hn : evP .e (.len false (.c AVal.nsl)) = some (.i .i64 0) := rfl
  simp only [len_spans a, len_row hr, hn, bindO_some, asI_i, forceB_eq, ltI_eq]
  have e1 : (!decide ((40 : Int) < (l.length : Int))) = decide (l.length ≤ 40) := by simp only [← decide_not]; exact decide_eq_decide.2 (by omega)
  have e2 : (!decide ((40 : Int) < (z.length : Int))) = decide (z.length ≤ 40) := by simp only [← decide_not]; exact decide_eq_decide.2 (by omega)
  rw [e1, e2]
  by_cases h1 : l.length ≤ 40 <;> by_cases h2 : z.length ≤ 40 <;> simp [h1, h2, bindO, tupA] <;> exact fin_pure rfl
end Go.Proofs.YtddnpchfjdgigaaDoor.T

/- What is a round, events and spans: the program's read and allows, the specification's Spans. -/
open Go.Vm
set_option linter.unusedVariables false
namespace Go.Proofs.YtddnpchfjdgigaaDoor.T
open Go

theorem bindO_or {β : Type} {c d : Bool} {k : Bool → Option β} : bindO (cond c (some true) (some d)) k = k (c || d) := by cases c <;> rfl
theorem bindO_and {β : Type} {c d : Bool} {k : Bool → Option β} : bindO (cond c (some d) (some false)) k = k (c && d) := by cases c <;> rfl

/-- is a span valid? -/
def spOk (t n : Int) (s : Sp) : Prop := s.f ≠ s.t ∧ 0 ≤ s.f ∧ s.f < n ∧ 0 ≤ s.t ∧ s.t < n ∧ -600 ≤ s.lo ∧ s.lo ≤ 600 ∧ s.lo ≤ s.hi ∧ s.hi ≤ s.lo + t - 1
instance (t n : Int) (s : Sp) : Decidable (spOk t n s) := inferInstanceAs (Decidable (_ ∧ _))
def rOk (t n : Int) : Prop := 1 ≤ t ∧ t ≤ 24 ∧ 1 ≤ n ∧ n ≤ 6
instance (t n : Int) : Decidable (rOk t n) := inferInstanceAs (Decidable (_ ∧ _))
/-- the error of a round, events and spans -/
def rdE (t n : Int) (l : List Sp) : Int := if rOk t n then if l.length ≤ 20 then if (∀ i, i < l.length → spOk t n (l.getD i Sp.z)) then 0 else 2 else 3 else 2

theorem allows60 {ro : List ABlk} {h : Heap} {t n : Int} {v : AVal} {s : Sp} (hr : rOk t n) : callX F1 ro 60 [demV t n v, s.v] h = some (.b (decide (spOk t n s)), h, h.length, h.length) := by
  refine g60_ok (meansX_ok F1 ro) rfl ?_
  unfold g60
  have hb1 : stepM ro ⟨h, h.length, h.length⟩ (.bx 55 3 (.c (demV t n v))) = _ := bx_ok (vs := [.i .i64 t, .i .i64 n, v]) 55 rfl
  have hb2 : stepM ro ⟨h ++ [some (blkOf 55 [.i .i64 t, .i .i64 n, v])], h.length, h.length⟩ (.bx 31 4 (.c s.v)) = _ := bx_ok (vs := s.vs) 31 rfl
  have d1 := (Holds.new h 55 [.i .i64 t, .i .i64 n, v]).ext [some (blkOf 31 s.vs)]
  have d2 := Holds.new (h ++ [some (blkOf 55 [.i .i64 t, .i .i64 n, v])]) 31 s.vs
  have a0 := d1.one (ro := ro) (l := h.length) (p := h.length) (k := 0) (by simp)
  have a1 := d1.one (ro := ro) (l := h.length) (p := h.length) (k := 1) (by simp)
  have b0 := d2.one (ro := ro) (l := h.length) (p := h.length) (k := 0) (by simp)
  have b1 := d2.one (ro := ro) (l := h.length) (p := h.length) (k := 1) (by simp)
  have b2 := d2.one (ro := ro) (l := h.length) (p := h.length) (k := 2) (by simp)
  have b3 := d2.one (ro := ro) (l := h.length) (p := h.length) (k := 3) (by simp)
  rw [hb1]
  simp only [bindP_some]
  rw [hb2]
  simp only [List.getD_cons_zero, List.getD_cons_succ] at a0 a1 b0 b1 b2 b3
  obtain ⟨r1, r2, r3, r4⟩ := hr
  have fin : ∀ c : Bool, finM h.length (tupA [AVal.b c]) ⟨h ++ [some (blkOf 55 [.i .i64 t, .i .i64 n, v])] ++ [some (blkOf 31 s.vs)], h.length, h.length⟩ = some (.b c, h, h.length, h.length) := fun c => by
    rw [List.append_assoc]; exact fin_drop rfl
  simp only [bindP_some, p_faddr, bindO_some, a0, a1, b0, b1, b2, b3, asI_i, forceB_eq, forceI_eq, eqI_eq, ltI_eq, bindO_or, mxV, Bool.false_eq_true, if_false, if_true, fin]
  have hA : (s.f == s.t || decide ((if s.t < s.f then s.t else s.f) < 0) || !decide ((if s.t > s.f then s.t else s.f) < n)) = decide (¬ (s.f ≠ s.t ∧ 0 ≤ s.f ∧ s.f < n ∧ 0 ≤ s.t ∧ s.t < n)) := by
    rw [Bool.eq_iff_iff]
    simp only [Bool.or_eq_true, beq_iff_eq, decide_eq_true_eq, Bool.not_eq_true', decide_eq_false_iff_not]
    split <;> split <;> omega
  have hB : (decide (s.lo < -600) || decide (600 < s.lo)) = decide (¬ (-600 ≤ s.lo ∧ s.lo ≤ 600)) := by
    rw [Bool.eq_iff_iff]
    simp only [Bool.or_eq_true, decide_eq_true_eq]
    omega
  rw [hA, hB]
  by_cases h1 : s.f ≠ s.t ∧ 0 ≤ s.f ∧ s.f < n ∧ 0 ≤ s.t ∧ s.t < n
  · by_cases h2 : -600 ≤ s.lo ∧ s.lo ≤ 600
    · have e1 : decide (¬ (s.f ≠ s.t ∧ 0 ≤ s.f ∧ s.f < n ∧ 0 ≤ s.t ∧ s.t < n)) = false := by simp only [decide_eq_false_iff_not]; exact fun k => k h1
      have e2 : decide (¬ (-600 ≤ s.lo ∧ s.lo ≤ 600)) = false := by simp only [decide_eq_false_iff_not]; exact fun k => k h2
      rw [e1, e2, wr_id' (x := s.lo + t) (by omega) (by omega), wr_id' (by omega) (by omega)]
      simp only [cond_false, bindO_and]
      have e3 : (!decide (s.hi < s.lo) && !decide (s.lo + t - 1 < s.hi)) = decide (spOk t n s) := by
        rw [Bool.eq_iff_iff]
        simp only [Bool.and_eq_true, Bool.not_eq_true', decide_eq_false_iff_not, decide_eq_true_eq]
        unfold spOk
        omega
      rw [e3]
    · have e2 : decide (¬ (-600 ≤ s.lo ∧ s.lo ≤ 600)) = true := by simp only [decide_eq_true_eq]; exact h2
      have e3 : decide (spOk t n s) = false := by simp only [decide_eq_false_iff_not]; unfold spOk; omega
      rw [e2, e3]
      cases decide (¬ (s.f ≠ s.t ∧ 0 ≤ s.f ∧ s.f < n ∧ 0 ≤ s.t ∧ s.t < n)) <;> rfl
  · have e2 : decide (¬ (s.f ≠ s.t ∧ 0 ≤ s.f ∧ s.f < n ∧ 0 ≤ s.t ∧ s.t < n)) = true := by simp only [decide_eq_true_eq]; exact h1
    have e3 : decide (spOk t n s) = false := by simp only [decide_eq_false_iff_not]; unfold spOk; omega
    rw [e2, e3]
    rfl

theorem rg1 (t n : Int) {β : Type} {k : Bool → Option β} : (bindO (cond (decide (t < 1)) (some true) (some (decide (24 < t)))) fun c16 => bindO (cond c16 (some true) (some (decide (n < 1)))) fun c20 => bindO (cond c20 (some true) (some (decide (6 < n)))) k) = k (decide (¬ rOk t n)) := by
  simp only [bindO_or]
  have : (decide (t < 1) || decide (24 < t) || decide (n < 1) || decide (6 < n)) = decide (¬ rOk t n) := by
    rw [Bool.eq_iff_iff]
    simp only [Bool.or_eq_true, decide_eq_true_eq]
    unfold rOk
    omega
  rw [this]
theorem lt20 {l : List Sp} : decide ((20 : Int) < (l.length : Int)) = decide (¬ l.length ≤ 20) := decide_eq_decide.2 (by omega)

/-- the specification's Spans -/
theorem spans20 {ro : List ABlk} {h : Heap} {t n : Int} {v : AVal} {l : List Sp} (a : IsSpans ro h v l) : callX F1 ro 20 [.i .i64 t, .i .i64 n, v] h = some (.i .i64 (rdE t n l), h, h.length, h.length) := by
  refine g20_ok (meansX_ok F1 ro) rfl ?_
  unfold g20
  simp only [forceB_eq, ltI_eq, rg1, rdE]
  by_cases hr : rOk t n
  · have e : decide (¬ rOk t n) = false := by simp [hr]
    rw [e, if_pos hr]
    simp only [cond_false, len_spans a, bindO_some, asI_i, lt20]
    by_cases h20 : l.length ≤ 20
    · have e : decide (¬ l.length ≤ 20) = false := by simp [h20]
      rw [e, if_pos h20]
      simp only [cond_false, meansX_loop]
      have hloop := loop_upto (b := fun s => g20_b3 (meansX F1 ro) ro t n v s.1 s.2) l.length (fun i m => m.lw = h.length ∧ m.lp = h.length ∧ Keep h m.h ∧ ∀ j, j < i → spOk t n (l.getD j Sp.z)) (fun r => r.1 = 2 ∧ r.2.lw = h.length ∧ r.2.lp = h.length ∧ Keep h r.2.h ∧ ¬ ∀ j, j < l.length → spOk t n (l.getD j Sp.z)) ?_ ?_ l.length 0 ⟨h, h.length, h.length⟩ (by omega) ⟨rfl, rfl, Keep.refl h, fun j hj => by omega⟩
      · obtain ⟨o, h1, h2⟩ := hloop
        have e0 : ((0 : Nat) : Int) = 0 := rfl
        rw [e0] at h1
        rw [h1]
        rcases h2 with ⟨m', rfl, g1, g2, g3, g4⟩ | ⟨⟨x, m'⟩, rfl, g0, g1, g2, g3, g4⟩
        · rw [if_pos g4]
          obtain ⟨hp, lw, lp⟩ := m'
          simp only at g1 g2 g3
          subst g1 g2
          exact fin_keep g3 rfl
        · rw [if_neg g4]
          obtain ⟨hp, lw, lp⟩ := m'
          simp only at g0 g1 g2 g3
          subst g0 g1 g2
          exact fin_keep g3 rfl
      · rintro i ⟨hp, lw, lp⟩ hi ⟨g1, g2, g3, g4⟩
        simp only at g1 g2 g3
        subst g1 g2
        have am := a.by g3
        obtain ⟨q, q1, q2, q3, q4⟩ := at_span am hi
        generalize hs : l.getD i Sp.z = s at *
        have hal := al_ok (ro := ro) (hp := hp) (l := h.length) (p := h.length) 31 [(AVal.i IntKind.i64 0), (AVal.i IntKind.i64 0), (AVal.i IntKind.i64 0), (AVal.i IntKind.i64 0)]
        obtain ⟨hp', st1, st2, st3, st4, st5⟩ := (Holds.new hp 31 [(AVal.i IntKind.i64 0), (AVal.i IntKind.i64 0), (AVal.i IntKind.i64 0), (AVal.i IntKind.i64 0)]).st (ro := ro) (h := h) (n := 4) (v := s.v) (vs' := s.vs) rfl rfl rfl rfl g3.1 (g3.trans (Keep.app _))
        have b0 := st2.one (ro := ro) (l := h.length) (p := h.length) (k := 0) (by simp)
        have b1 := st2.one (ro := ro) (l := h.length) (p := h.length) (k := 1) (by simp)
        have b2 := st2.one (ro := ro) (l := h.length) (p := h.length) (k := 2) (by simp)
        have b3 := st2.one (ro := ro) (l := h.length) (p := h.length) (k := 3) (by simp)
        simp only [List.getD_cons_zero, List.getD_cons_succ] at b0 b1 b2 b3
        obtain ⟨r1, r2, r3, r4⟩ := hr
        simp only [g20_b3, len_spans am, bindO_some, asI_i, forceB_eq, ltI_eq, lt_yes hi, cond_true, q1, q2, hal, bindP_some, st1, p_faddr, b0, b1, b2, b3, forceI_eq, eqI_eq, bindO_or]
        have hA : (decide (s.f < 0) || !decide (s.f < n) || decide (s.t < 0) || !decide (s.t < n) || s.f == s.t || decide (s.lo < -600) || decide (600 < s.lo) || decide (s.hi < s.lo) || decide (wr .i64 (wr .i64 (s.lo + t) - 1) < s.hi)) = decide (¬ spOk t n s) := by
          rw [Bool.eq_iff_iff]
          by_cases h2 : -600 ≤ s.lo ∧ s.lo ≤ 600
          · rw [wr_id' (x := s.lo + t) (by omega) (by omega), wr_id' (by omega) (by omega)]
            simp only [Bool.or_eq_true, beq_iff_eq, decide_eq_true_eq, Bool.not_eq_true', decide_eq_false_iff_not]
            unfold spOk
            omega
          · have h3 : ¬ spOk t n s := by unfold spOk; omega
            simp only [Bool.or_eq_true, beq_iff_eq, decide_eq_true_eq, Bool.not_eq_true', decide_eq_false_iff_not, h3, not_false_eq_true, iff_true]
            omega
        rw [hA]
        by_cases hok : spOk t n s
        · have e : decide (¬ spOk t n s) = false := by simp [hok]
          rw [e]
          refine .inl ⟨⟨hp', h.length, h.length⟩, ?_, rfl, rfl, st5, fun j hj => ?_⟩
          · simp only [cond_false]
            rw [wr_next (by omega)]
          · rcases Nat.lt_or_ge j i with h3 | h3
            · exact g4 j h3
            · obtain rfl : j = i := by omega
              rw [hs]; exact hok
        · have e : decide (¬ spOk t n s) = true := by simp [hok]
          rw [e]
          exact .inr ⟨_, rfl, rfl, rfl, rfl, st5, fun k => hok (hs ▸ k i hi)⟩
      · rintro ⟨hp, lw, lp⟩ ⟨g1, g2, g3, g4⟩
        simp only at g1 g2 g3
        subst g1 g2
        simp only [g20_b3, len_spans (a.by g3), bindO_some, asI_i, forceB_eq, ltI_eq, lt_no, cond_false]
    · have e : decide (¬ l.length ≤ 20) = true := by simp [h20]
      rw [e, if_neg h20]
      exact fin_pure rfl
  · have e : decide (¬ rOk t n) = true := by simp [hr]
    rw [e, if_neg hr]
    exact fin_pure rfl
end Go.Proofs.YtddnpchfjdgigaaDoor.T

/- The program's read. -/
open Go.Vm
set_option linter.unusedVariables false
namespace Go.Proofs.YtddnpchfjdgigaaDoor.T
open Go

abbrev z3 : List AVal := [(AVal.i IntKind.i64 0), (AVal.i IntKind.i64 0), AVal.nsl]
abbrev z4 : List AVal := [(AVal.i IntKind.i64 0), (AVal.i IntKind.i64 0), (AVal.i IntKind.i64 0), (AVal.i IntKind.i64 0)]
/-- what read answers beside the error -/
def demR (t n : Int) (v : AVal) (l : List Sp) : AVal := if rdE t n l = 0 then demV t n v else .agg z3
theorem fillz : (fillA z3 []).map AVal.agg = some (.agg z3) := rfl
theorem filld (t n : Int) (v : AVal) (hv : v.one = true) : (fillA z3 [((0, 1), (.i .i64 t)), ((1, 1), (.i .i64 n)), ((2, 1), v)]).map AVal.agg = some (demV t n v) := by
  cases v <;> first | rfl | cases hv
theorem IsSpans.one {ro : List ABlk} {h : Heap} {v : AVal} {l : List Sp} (a : IsSpans ro h v l) : v.one = true := by
  rcases a with ⟨rfl, rfl⟩ | ⟨q, cap, blk, rfl, -⟩ <;> rfl
theorem ones3 {t n : Int} {v : AVal} (hv : v.one = true) : ones [.i .i64 t, .i .i64 n, v] = true := by simp [ones, AVal.one]; exact hv

theorem read43 {ro : List ABlk} {h : Heap} {t n : Int} {v : AVal} {l : List Sp} (a : IsSpans ro h v l) : callX F1 ro 43 [.i .i64 t, .i .i64 n, v] h = some (.tup [demR t n v l, .i .i64 (rdE t n l)], h, h.length, h.length) := by
  refine g43_ok (meansX_ok F1 ro) rfl ?_
  unfold g43
  have d6 := Holds.new h 55 z3
  have k6 : Keep h (h ++ [some (blkOf 55 z3)]) := Keep.app _
  have hv1 := a.one
  have fin : ∀ (e : Int) (w : AVal) (hp : Heap), Keep h hp → w.bel h.length = true → finM h.length (tupA [w, .i .i64 e]) ⟨hp, h.length, h.length⟩ = some (.tup [w, .i .i64 e], h, h.length, h.length) := fun e w hp k hw => by
    refine fin_keep k ?_
    simp [tupA, AVal.bel, bels, hw]
  simp only [al_ok, bindP_some, forceB_eq, ltI_eq, rg1]
  have early : ∀ e : Int, rdE t n l = e → e ≠ 0 → (bindO ((fillA z3 []).map AVal.agg) fun v25 => bindP (stepM ro ⟨h ++ [some (blkOf 55 z3)], h.length, h.length⟩ (.st 3 (.c (.p (some ⟨false, h.length, 0⟩))) (.c v25))) fun vn m_2 => bindO (ldM ro m_2 false 3 (.p (some ⟨false, h.length, 0⟩))) fun vr => finM h.length (tupA [vr, (.i .i64 e)]) m_2) = some (.tup [demR t n v l, .i .i64 (rdE t n l)], h, h.length, h.length) := by
    intro e he hne
    obtain ⟨hp', st1, st2, st3, st4, st5⟩ := d6.st (ro := ro) (h := h) (n := 3) (v := .agg z3) (vs' := z3) rfl rfl rfl rfl (Nat.le_refl _) k6
    rw [fillz]
    simp only [bindO_some, st1, bindP_some, st2.all (ro := ro) (l := h.length) (p := h.length) (n := 3) rfl]
    rw [fin e _ hp' st5 rfl, he]
    simp only [demR, he, hne, if_false]
  by_cases hr : rOk t n
  · have e : decide (¬ rOk t n) = false := by simp [hr]
    rw [e]
    simp only [cond_false, len_spans a, bindO_some, asI_i, lt20]
    by_cases h20 : l.length ≤ 20
    · have e : decide (¬ l.length ≤ 20) = false := by simp [h20]
      rw [e]
      obtain ⟨hp5, st1, st2, st3, st4, st5⟩ := (Holds.new (h ++ [some (blkOf 55 z3)]) 55 z3).st (ro := ro) (h := h) (n := 3) (v := demV t n v) (vs' := [.i .i64 t, .i .i64 n, v]) rfl rfl rfl (ones3 hv1) k6.1 (k6.trans (Keep.app _))
      have d6' : Holds hp5 h.length z3 := (d6.ext [some (blkOf 55 z3)]).keep (st4 h.length (by simp))
      simp only [cond_false, filld t n v hv1, al_ok, bindO_some, bindP_some, st1, meansX_loop]
      have hloop := loop_upto (b := fun s => g43_b3 (meansX F1 ro) ro (.p (some ⟨false, h.length, 0⟩)) (.p (some ⟨false, (h ++ [some (blkOf 55 z3)]).length, 0⟩)) v l.length s.1 s.2) l.length (fun i m => m.lw = h.length ∧ m.lp = h.length ∧ Keep hp5 m.h ∧ ∀ j, j < i → spOk t n (l.getD j Sp.z)) (fun r => r.1 = 2 ∧ r.2.lw = h.length ∧ r.2.lp = h.length ∧ Keep h r.2.h ∧ Holds r.2.h h.length z3 ∧ ¬ ∀ j, j < l.length → spOk t n (l.getD j Sp.z)) ?_ ?_ l.length 0 ⟨hp5, h.length, h.length⟩ (by omega) ⟨rfl, rfl, Keep.refl hp5, fun j hj => by omega⟩
      · obtain ⟨o, h1, h2⟩ := hloop
        have e0 : ((0 : Nat) : Int) = 0 := rfl
        rw [e0] at h1
        rw [h1]
        rcases h2 with ⟨m', rfl, g1, g2, g3, g4⟩ | ⟨⟨x, m'⟩, rfl, g0, g1, g2, g3, g5, g4⟩
        · have he : rdE t n l = 0 := by simp only [rdE, hr, h20, if_true]; rw [if_pos g4]
          obtain ⟨hp, lw, lp⟩ := m'
          simp only at g1 g2 g3
          subst g1 g2
          have d8 := st2.by g3
          have d6'' := d6'.by g3
          obtain ⟨hpe, s1, s2, s3, s4, s5⟩ := d6''.st (ro := ro) (h := h) (n := 3) (v := demV t n v) (vs' := [.i .i64 t, .i .i64 n, v]) rfl rfl rfl (ones3 hv1) (Nat.le_refl _) (st5.trans g3)
          simp only [bindO_some, d8.all (ro := ro) (l := h.length) (p := h.length) (n := 3) rfl, s1, bindP_some, s2.all (ro := ro) (l := h.length) (p := h.length) (n := 3) rfl]
          rw [fin 0 _ hpe s5 (by simpa [AVal.bel, bels] using a.bel), he]
          simp only [demR, he, if_true]
        · have he : rdE t n l = 2 := by simp only [rdE, hr, h20, if_true]; rw [if_neg g4]
          obtain ⟨hp, lw, lp⟩ := m'
          simp only at g0 g1 g2 g3 g5
          subst g0 g1 g2
          simp only [bindO_some, g5.all (ro := ro) (l := h.length) (p := h.length) (n := 3) rfl]
          rw [fin 2 _ hp g3 rfl, he]
          simp [demR, he]
      · rintro i ⟨hp, lw, lp⟩ hi ⟨g1, g2, g3, g4⟩
        simp only at g1 g2 g3
        subst g1 g2
        have kh : Keep h hp := st5.trans g3
        have am := a.by kh
        obtain ⟨q, q1, q2, q3, q4⟩ := at_span am hi
        generalize hs : l.getD i Sp.z = s at *
        have hal := al_ok (ro := ro) (hp := hp) (l := h.length) (p := h.length) 31 z4
        obtain ⟨hp', s1, s2, s3, s4, s5⟩ := (Holds.new hp 31 z4).st (ro := ro) (h := h) (n := 4) (v := s.v) (vs' := s.vs) rfl rfl rfl rfl kh.1 (kh.trans (Keep.app _))
        have kp : Keep hp hp' := ⟨by rw [s3]; simp, fun i hi => by rw [s4 i (by omega)]; exact List.getElem?_append_left hi⟩
        have d8 := (st2.by g3).by kp
        have d6'' := (d6'.by g3).by kp
        simp only [g43_b3, bindO_some, asI_i, forceB_eq, ltI_eq, lt_yes hi, cond_true, q1, q2, hal, bindP_some, s1, d8.all (ro := ro) (l := h.length) (p := h.length) (n := 3) rfl, s2.all (ro := ro) (l := h.length) (p := h.length) (n := 4) rfl, meansX_call,
          callM_pure (allows60 (ro := ro) (h := hp') (v := v) (s := s) hr) (Nat.le_trans kh.1 kp.1) (Nat.le_trans kh.1 kp.1), asB_b]
        by_cases hok : spOk t n s
        · have e : (!decide (spOk t n s)) = false := by simp [hok]
          rw [e]
          refine .inl ⟨⟨hp', h.length, h.length⟩, ?_, rfl, rfl, g3.trans kp, fun j hj => ?_⟩
          · simp only [cond_false, forceI_eq]
            rw [wr_next (by omega)]
          · rcases Nat.lt_or_ge j i with h3 | h3
            · exact g4 j h3
            · obtain rfl : j = i := by omega
              rw [hs]; exact hok
        · have e : (!decide (spOk t n s)) = true := by simp [hok]
          rw [e]
          obtain ⟨hpe, w1, w2, w3, w4, w5⟩ := d6''.st (ro := ro) (h := h) (n := 3) (v := .agg z3) (vs' := z3) rfl rfl rfl rfl (Nat.le_refl _) (kh.trans kp)
          refine .inr ⟨(2, ⟨hpe, h.length, h.length⟩), ?_, rfl, rfl, rfl, w5, w2, fun k => hok (hs ▸ k i hi)⟩
          simp only [cond_true]
          rw [fillz]
          simp only [bindO_some, w1, bindP_some]
      · rintro ⟨hp, lw, lp⟩ ⟨g1, g2, g3, g4⟩
        simp only at g1 g2 g3
        subst g1 g2
        simp only [g43_b3, forceB_eq, ltI_eq, lt_no, cond_false]
    · have e : decide (¬ l.length ≤ 20) = true := by simp [h20]
      rw [e]
      exact early 3 (by simp only [rdE, hr, h20, if_true, if_false]) (by decide)
  · have e : decide (¬ rOk t n) = true := by simp [hr]
    rw [e]
    exact early 2 (by simp only [rdE, hr, if_false]) (by decide)
end Go.Proofs.YtddnpchfjdgigaaDoor.T

/- Lists that a function makes by append, of elements of several cells. -/
open Go.Vm
set_option linter.unusedVariables false
namespace Go.Proofs.YtddnpchfjdgigaaDoor.T
open Go

/-- a list made by append, in a block from L on -/
def GV (hp : Heap) (L e es : Nat) (v : AVal) (k : Nat) (cs : List AVal) : Prop :=
  (v = .nsl ∧ k = 0 ∧ cs = []) ∨ ∃ b blk, v = .sl ⟨false, b, 0⟩ k .grow ∧ 0 < k ∧ L ≤ b ∧ lget hp b = some (some blk) ∧ blk.e = e ∧ cs.length = k * es ∧ k * es ≤ blk.n ∧ ∀ j, j < k * es → blk.c.get j = cs.getD j und
theorem GV.nil (hp : Heap) (L e es : Nat) : GV hp L e es .nsl 0 [] := .inl ⟨rfl, rfl, rfl⟩
/-- blocks below L, and those above that are kept, hold the list as before -/
theorem GV.by {hp hp' : Heap} {L e es k : Nat} {v : AVal} {cs : List AVal} (g : GV hp L e es v k cs) (kp : Keep hp hp') : GV hp' L e es v k cs := by
  rcases g with h | ⟨b, blk, h1, h2, h3, h4, h5⟩
  · exact .inl h
  · exact .inr ⟨b, blk, h1, h2, h3, by rw [lget_of (kp.2 b (lget_lt h4))]; exact h4, h5⟩
theorem row_row {t : Tr} : ∀ (n i : Nat) (cs : List AVal), cs.length = n → (∀ j, j < n → t.get (i + j) = cs.getD j und) → t.row i n = cs := by
  intro n i cs hl h
  subst hl
  exact row_list cs i h
theorem GV.push {ro : List ABlk} {hp : Heap} {L0 L e es bytes k : Nat} {z : List AVal} {v w : AVal} {cs ws : List AVal} (g : GV hp L e es v k cs) (hL0 : L0 ≤ L) (hL : L ≤ hp.length) (hk : k ≤ 1000) (hb : bytes ≤ 1000) (hes : 0 < es) (hz : z.length = es) (hw : w.cells = ws) (hwl : ws.length = es) (ho : ones ws = true) (hsp : splice z 0 ws = ws) :
    ∃ v2 hp2 v3 hp3, stepM ro ⟨hp, L0, L0⟩ (.bsl e es z 1 [((0, es), .c w)]) = some (v2, ⟨hp2, L0, L0⟩) ∧ stepM ro ⟨hp2, L0, L0⟩ (.app e es bytes z (.c v) (.c v2)) = some (v3, ⟨hp3, L0, L0⟩) ∧
      GV hp3 L e es v3 (k + 1) (cs ++ ws) ∧ hp.length ≤ hp3.length ∧ ∀ i, i < L → hp3[i]? = hp[i]? := by
  have s1 : stepM ro ⟨hp, L0, L0⟩ (.bsl e es z 1 [((0, es), .c w)]) = some (.sl ⟨false, hp.length, 0⟩ 1 (.known 1), ⟨hp ++ [some (blkOf e ws)], L0, L0⟩) := by
    simp [stepM, stepK, st_bsl, rep, fillA, opd, hw, hwl, hz, hsp, newB, St.mm]
  have src : app_src ro (hp ++ [some (blkOf e ws)]) es (.sl ⟨false, hp.length, 0⟩ 1 (.known 1)) = some (ws, 1) := by
    have hbq : rdB ro (hp ++ [some (blkOf e ws)]) ⟨false, hp.length, 0⟩ = some (blkOf e ws) := by simp [rdB, lget_eq]
    have hg : (blkOf e ws).c.row 0 es = ws := row_row es 0 ws hwl fun j hj => by rw [Nat.zero_add, get_blk]
    have hble : Nat.ble (0 + 1 * es) (blkOf e ws).n = true := by rw [Nat.ble_eq]; show 0 + 1 * es ≤ ws.length; omega
    simp only [app_src, hbq, hble, cond_true]
    rw [show 1 * es = es by omega, hg]
  rcases g with ⟨rfl, rfl, rfl⟩ | ⟨b, blk, rfl, hpos, hLb, hbk, hbe, hcl, hbn, hrows⟩
  · refine ⟨_, _, .sl ⟨false, hp.length + 1, 0⟩ 1 .grow, hp ++ [some (blkOf e ws)] ++ [some (blkOf e ws)], s1, ?_, .inr ⟨hp.length + 1, blkOf e ws, rfl, by omega, by omega, ?_, rfl, by simp; omega, by show 1 * es ≤ ws.length; omega, fun j hj => ?_⟩, by simp, fun i hi => ?_⟩
    · have hb1 : Nat.beq 1 0 = false := rfl
      simp only [stepM, stepK, opd, st_app, src, hb1, cond_false, fits_small (by omega : 1 ≤ 1000000) hb, cond_true, newB, St.mm, List.length_append, List.length_cons, List.length_nil, Nat.zero_add]
    · have := lget_last (hp ++ [some (blkOf e ws)]) (some (blkOf e ws))
      rwa [List.length_append, List.length_singleton] at this
    · rw [get_blk]; simp
    · rw [List.append_assoc, List.getElem?_append_left (by omega)]
  · obtain ⟨hp2, e2⟩ : ∃ hp2, hp2 = hp ++ [some (blkOf e ws)] := ⟨_, rfl⟩
    rw [← e2] at src s1
    have hlt : b < hp.length := lget_lt hbk
    have hb2 : lget hp2 b = some (some blk) := by rw [e2]; exact lget_ext hbk _
    have hlen2 : hp2.length = hp.length + 1 := by rw [e2]; simp
    have hrow : blk.c.row 0 (k * es) = cs := row_row (k * es) 0 cs hcl fun j hj => by rw [Nat.zero_add]; exact hrows j hj
    have hke : 0 < k * es := Nat.mul_pos hpos hes
    refine ⟨_, _, .sl ⟨false, hp2.length, 0⟩ (k + 1) .grow, lset none hp2 b ++ [some (blkOf e (cs ++ ws))], s1, ?_, .inr ⟨hp2.length, blkOf e (cs ++ ws), rfl, by omega, by omega, ?_, rfl, ?_, ?_, fun j hj => ?_⟩, ?_, fun i hi => ?_⟩
    · have h1 : (Nat.beq blk.e e && Nat.ble (k * es) blk.n && fits (k + 1) bytes && ones ws) = true := by
        rw [hbe, fits_small (by omega : k + 1 ≤ 1000000) hb]
        simp [ho, Nat.ble_eq]; omega
      have h2 : (false || !Nat.beq 0 0 || Nat.beq 1 0) = false := rfl
      have h3 : Nat.blt 0 blk.n = true := by rw [Nat.blt_eq]; omega
      simp only [stepM, stepK, opd, st_app, src, app_grow, h2, cond_false, hb2, h1, h3, Bool.and_self, cond_true, St.mm, hrow, Nat.min_eq_left (Nat.le_trans hL0 hLb)]
    · rw [lget_eq, lset_eq, List.getElem?_append_right (by simp)]
      simp
    · rw [List.length_append, hcl, hwl, Nat.add_mul]; omega
    · show (k + 1) * es ≤ (cs ++ ws).length
      rw [List.length_append, hcl, hwl, Nat.add_mul]; omega
    · rw [get_blk]
    · simp [lset_eq]; omega
    · rw [lset_eq, List.getElem?_append_left (by simp; omega), List.getElem?_set_ne (by omega), e2, List.getElem?_append_left (by omega)]
/-- what it is as spans -/
theorem GV.spans {ro : List ABlk} {hp : Heap} {L e : Nat} {v : AVal} {k : Nat} {ss : List Sp} (g : GV hp L e 4 v k (ss.flatMap Sp.vs)) (hk : ss.length = k) : IsSpans ro hp v ss := by
  subst hk
  rcases g with ⟨rfl, h2, -⟩ | ⟨b, blk, rfl, hpos, hLb, hbk, hbe, hcl, hbn, hrows⟩
  · exact .inl ⟨rfl, List.length_eq_zero_iff.1 h2⟩
  · refine .inr ⟨_, _, blk, rfl, rdB_heap hbk 0, by simpa using hbn, fun j hj i hi => ?_⟩
    rw [Nat.zero_add, hrows (j * 4 + i) (by omega)]
    clear hrows hbn hcl hbe hbk hpos
    induction ss generalizing j with
    | nil => simp at hj
    | cons s ss ih =>
      cases j with
      | zero =>
        simp only [List.flatMap_cons, Nat.zero_mul, Nat.zero_add]
        rw [List.getD_eq_getElem?_getD, List.getElem?_append_left (by simpa using hi), ← List.getD_eq_getElem?_getD]
        rfl
      | succ j =>
        simp only [List.flatMap_cons]
        rw [List.getD_eq_getElem?_getD, List.getElem?_append_right (by simp; omega), ← List.getD_eq_getElem?_getD]
        have := ih j (by simpa using hj)
        rw [show (j + 1) * 4 + i - s.vs.length = j * 4 + i by simp; omega, this]
        simp
theorem GV.row {ro : List ABlk} {hp : Heap} {L e : Nat} {v : AVal} {k : Nat} {z : List Int} (g : GV hp L e 1 v k (z.map (AVal.i .i64))) (hk : z.length = k) : IsRow ro hp v z := by
  subst hk
  rcases g with ⟨rfl, h2, -⟩ | ⟨b, blk, rfl, hpos, hLb, hbk, hbe, hcl, hbn, hrows⟩
  · exact .inl ⟨rfl, List.length_eq_zero_iff.1 h2⟩
  · refine .inr ⟨_, _, blk, rfl, rdB_heap hbk 0, by simpa using hbn, fun j hj => ?_⟩
    rw [Nat.zero_add, hrows j (by omega), map_getD hj]
end Go.Proofs.YtddnpchfjdgigaaDoor.T

/- Steps of a ring. -/
open Go.Vm
set_option linter.unusedVariables false
namespace Go.Proofs.YtddnpchfjdgigaaDoor.T
open Go

/-- round, events and spans are valid -/
structure Ok (t n : Int) (l : List Sp) : Prop where
  r : rOk t n
  len : l.length ≤ 20
  sp : ∀ i, i < l.length → spOk t n (l.getD i Sp.z)
theorem rdE_ok {t n : Int} {l : List Sp} : rdE t n l = 0 ↔ Ok t n l := by
  unfold rdE
  by_cases h1 : rOk t n
  · by_cases h2 : l.length ≤ 20
    · by_cases h3 : ∀ i, i < l.length → spOk t n (l.getD i Sp.z)
      · simp only [h1, h2, if_true]; rw [if_pos h3]; exact ⟨fun _ => ⟨h1, h2, h3⟩, fun _ => rfl⟩
      · simp only [h1, h2, if_true]; rw [if_neg h3]; exact ⟨fun h => (by cases h), fun h => absurd h.sp h3⟩
    · simp only [h1, h2, if_true, if_false]; exact ⟨fun h => (by cases h), fun h => absurd h.len h2⟩
  · simp only [h1, if_false]; exact ⟨fun h => (by cases h), fun h => absurd h.r h1⟩
end Go.Proofs.YtddnpchfjdgigaaDoor.T

/- The program's ring. -/
open Go.Vm
set_option linter.unusedVariables false
namespace Go.Proofs.YtddnpchfjdgigaaDoor.T
open Go

/-- one cell of a block is written -/
theorem Holds.set {ro : List ABlk} {h hp : Heap} {b k : Nat} {vs : List AVal} {v : AVal} (a : Holds hp b vs) (hk : k < vs.length) (hv : v.one = true) (hc : v.cells = [v]) (hn : nonp [v] = true) (hL : h.length ≤ b) (kp : Keep h hp) :
    ∃ hp', stepM ro ⟨hp, h.length, h.length⟩ (.st 1 (.c (.p (some ⟨false, b, 0 + k * 1⟩))) (.c v)) = some (und, ⟨hp', h.length, h.length⟩) ∧ Holds hp' b (vs.set k v) ∧ hp'.length = hp.length ∧ (∀ i, i ≠ b → hp'[i]? = hp[i]?) ∧ Keep h hp' := by
  obtain ⟨blk, h1, h2, h3⟩ := a
  have e : 0 + k * 1 = k := by omega
  refine ⟨hp.set b (some { blk with c := blk.c.set k v }), ?_, ⟨_, lget_set h1 _, by simpa using h2, fun j hj => ?_⟩, by simp, fun i hi => List.getElem?_set_ne (Ne.symm hi), kp.set hL _⟩
  · rw [e, st_heap h1 (by omega) hv hc hn, Nat.min_eq_left hL]
  · show (blk.c.set k v).get j = _
    rw [get_set]
    simp only [List.length_set] at hj
    by_cases e : k = j
    · subst e; simp [List.getD, hj]
    · rw [if_neg e, h3 j hj]
      simp [List.getD, List.getElem?_set_ne e]

end Go.Proofs.YtddnpchfjdgigaaDoor.T

/- The program's ring: its end. -/
open Go.Vm
set_option linter.unusedVariables false
namespace Go.Proofs.YtddnpchfjdgigaaDoor.T
open Go
theorem fin_new {hp : Heap} {v : AVal} {L l p : Nat} (hb : v.bel L = false) : finM L v ⟨hp, l, p⟩ = some (v, hp, l, p) := by
  simp only [finM, gc, hb, Bool.and_false, Bool.false_eq_true, if_false]

end Go.Proofs.YtddnpchfjdgigaaDoor.T

/- The specification's IsRing. -/
open Go.Vm
set_option linter.unusedVariables false
namespace Go.Proofs.YtddnpchfjdgigaaDoor.T
open Go

end Go.Proofs.YtddnpchfjdgigaaDoor.T

/- Refuses, the program's and the specification's. -/
open Go.Vm
set_option linter.unusedVariables false
namespace Go.Proofs.YtddnpchfjdgigaaDoor.T
open Go

theorem alive_pure {ro : List ABlk} {h : Heap} : callX F1 ro 16 [] h = some (.b true, h, h.length, h.length) := callX_ov rfl

end Go.Proofs.YtddnpchfjdgigaaDoor.T

/- Hours, slacks and plans, by numbers alone. -/
open Go.Vm
set_option linter.unusedVariables false
namespace Go.Proofs.YtddnpchfjdgigaaDoor.T
open Go

/-- the hour of an event -/
def hourP (z : List Int) (e : Int) : Int := z.getD e.toNat 0
def slackP (t : Int) (s : Sp) (z : List Int) : Int := (hourP z s.t - hourP z s.f - s.lo) % t
/-- n hours -/
def HoursP (t n : Int) (z : List Int) : Prop := (z.length : Int) = n ∧ ∀ i, i < z.length → 0 ≤ z.getD i 0 ∧ z.getD i 0 < t
instance (t n : Int) (z : List Int) : Decidable (HoursP t n z) := inferInstanceAs (Decidable (_ ∧ _))
def keeps (t : Int) (s : Sp) (z : List Int) : Prop := slackP t s z ≤ s.hi - s.lo
instance (t : Int) (s : Sp) (z : List Int) : Decidable (keeps t s z) := inferInstanceAs (Decidable (_ ≤ _))
def KeptP (t : Int) (l : List Sp) (z : List Int) : Prop := ∀ i, i < l.length → keeps t (l.getD i Sp.z) z
instance (t : Int) (l : List Sp) (z : List Int) : Decidable (KeptP t l z) := inferInstanceAs (Decidable (∀ i, i < l.length → keeps t (l.getD i Sp.z) z))
def PlanP (t n : Int) (l : List Sp) (z : List Int) : Prop := HoursP t n z ∧ z.getD 0 0 = 0 ∧ KeptP t l z
instance (t n : Int) (l : List Sp) (z : List Int) : Decidable (PlanP t n l z) := inferInstanceAs (Decidable (_ ∧ _))

end Go.Proofs.YtddnpchfjdgigaaDoor.T

/- Sets of hours as numbers. -/
open Go.Vm
set_option linter.unusedVariables false
namespace Go.Proofs.YtddnpchfjdgigaaDoor.T
open Go

end Go.Proofs.YtddnpchfjdgigaaDoor.T

/- All plans in order, by a search and by a filter. -/
open Go.Vm
set_option linter.unusedVariables false
namespace Go.Proofs.YtddnpchfjdgigaaDoor.T
open Go

/-- all hours in order -/
def hoursL (t : Nat) : List Int := (List.range t).map fun n : Nat => (n : Int)
/-- those that go on step by step -/
def ext (ok : List Int → Int → Bool) (t : Nat) : Nat → List Int → List (List Int)
  | 0, now => [now]
  | k + 1, now => ((hoursL t).filter (ok now)).flatMap fun h => ext ok t k (now ++ [h])
/-- may an hour be the one of the next event? -/
def stepOk (t : Int) (l : List Sp) (now : List Int) (h : Int) : Prop := ∀ i, i < l.length → max (l.getD i Sp.z).f (l.getD i Sp.z).t = (now.length : Int) → keeps t (l.getD i Sp.z) (now ++ [h])
instance (t : Int) (l : List Sp) (now : List Int) (h : Int) : Decidable (stepOk t l now h) := inferInstanceAs (Decidable (∀ i, i < l.length → _ → _))
end Go.Proofs.YtddnpchfjdgigaaDoor.T

/- Sums along a ring, with a plan. -/
open Go.Vm
set_option linter.unusedVariables false
namespace Go.Proofs.YtddnpchfjdgigaaDoor.T
open Go

end Go.Proofs.YtddnpchfjdgigaaDoor.T

/- Loops whose state is known; steps through a function. -/
open Go.Vm
set_option linter.unusedVariables false
namespace Go.Proofs.YtddnpchfjdgigaaDoor.T
open Go

/-- a loop whose state is known for each round -/
theorem loop_st {S R : Type} {b : S → Option (S ⊕ R)} (st : Nat → S) (n : Nat) (step : Nat → Option R) (r0 : R) (hout : b (st n) = some (.inr r0)) (hin : ∀ i, i < n → b (st i) = some (match step i with | some r => .inr r | none => .inl (st (i + 1)))) :
    ∀ (k i : Nat), i + k = n → loopX b (st i) = some ((firstS step k i).getD r0)
  | 0, i, hi => by
    simp only [Nat.add_zero] at hi
    subst hi
    exact loopX_out hout
  | k + 1, i, hi => by
    have h1 := hin i (by omega)
    unfold firstS
    cases hs : step i with
    | some r => rw [hs] at h1; exact loopX_out h1
    | none =>
      rw [hs] at h1
      exact loopX_on h1 (loop_st st n step r0 hout hin k (i + 1) (by omega))
/-- one that runs to its end -/
theorem loop_run {S R : Type} {b : S → Option (S ⊕ R)} (st : Nat → S) (n : Nat) {r0 : R} (hout : b (st n) = some (.inr r0)) (hin : ∀ i, i < n → b (st i) = some (.inl (st (i + 1)))) : loopX b (st 0) = some r0 := by
  have := loop_st st n (fun _ => none) r0 hout hin n 0 (by omega)
  rw [firstS_none.2 fun _ _ _ => rfl] at this
  exact this
/-- one that looks for something -/
theorem loop_if {S R : Type} {b : S → Option (S ⊕ R)} (st : Nat → S) (n : Nat) (P : Nat → Prop) [DecidablePred P] (r0 r1 : R) (hout : b (st n) = some (.inr r0)) (hin : ∀ i, i < n → P i → b (st i) = some (.inl (st (i + 1)))) (hno : ∀ i, i < n → ¬ P i → b (st i) = some (.inr r1)) :
    loopX b (st 0) = some (if (∀ i, i < n → P i) then r0 else r1) := by
  have := loop_st st n (fun i => if P i then none else some r1) r0 hout (fun i hi => by
    by_cases hp : P i
    · rw [if_pos hp]; exact hin i hi hp
    · rw [if_neg hp]; exact hno i hi hp) n 0 (by omega)
  rw [this]
  by_cases hall : ∀ i, i < n → P i
  · rw [if_pos hall, firstS_none.2 fun j _ h2 => by rw [if_pos (hall j (by omega))]]; rfl
  · rw [if_neg hall]
    cases hf : firstS (fun i => if P i then none else some r1) n 0 with
    | none =>
      refine absurd (fun i hi => ?_) hall
      have := firstS_none.1 hf i (by omega) (by omega)
      simpa using this
    | some r =>
      obtain ⟨j, -, -, h3, -⟩ := firstS_some hf
      by_cases hc : P j
      · rw [if_pos hc] at h3; cases h3
      · rw [if_neg hc] at h3; cases h3; rfl

theorem row_bel {ro : List ABlk} {h : Heap} {v : AVal} {z : List Int} (a : IsRow ro h v z) : v.bel h.length = true := by
  rcases a with ⟨rfl, -⟩ | ⟨q, cap, blk, rfl, hb, -⟩
  · rfl
  · simpa [AVal.bel] using rdB_lt hb
theorem at_rowK {ro : List ABlk} {h : Heap} {v : AVal} {z : List Int} (hr : IsRow ro h v z) {i : Nat} (hi : i < z.length) : ∃ p, evP .e (.ixS 1 (.c v) (.c (.i .i64 (i : Int)))) = some p ∧ ∀ {hp : Heap} {l q : Nat}, Keep h hp → ldM ro ⟨hp, l, q⟩ true 1 p = some (.i .i64 (z.getD i 0)) ∧ ldA ro hp true 1 p = some (.i .i64 (z.getD i 0)) := by
  obtain ⟨p, h1, -⟩ := at_row (m := ⟨h, 0, 0⟩) rfl hr hi
  refine ⟨p, h1, fun {hp l q} k => ?_⟩
  obtain ⟨p', g1, g2, g3⟩ := at_row (m := ⟨hp, l, q⟩) rfl (row_by hr k) hi
  rw [h1] at g1; cases g1
  exact ⟨g2, g3⟩
theorem cp0 {F : Tab} {ro : List ABlk} {h : Heap} {f : Nat} {a : List AVal} {v : AVal} (e : callX F ro f a h = some (v, h, h.length, h.length)) : callM (callX F ro) ⟨h, h.length, h.length⟩ f a = some (v, ⟨h, h.length, h.length⟩) :=
  callM_pure e (Nat.le_refl _) (Nat.le_refl _)

/-- a place of a row by an event -/
theorem row_ix {ro : List ABlk} {h : Heap} {w : AVal} {z : List Int} (r : IsRow ro h w z) {e : Int} (he : 0 ≤ e ∧ e < z.length) : ∃ p, evP .e (.ixS 1 (.c w) (.c (.i .i64 e))) = some p ∧ ∀ {hp : Heap} {l q : Nat}, Keep h hp → ldM ro ⟨hp, l, q⟩ true 1 p = some (.i .i64 (hourP z e)) ∧ ldA ro hp true 1 p = some (.i .i64 (hourP z e)) := by
  obtain ⟨p, h1, h2⟩ := at_rowK r (i := e.toNat) (by omega)
  rw [show ((e.toNat : Nat) : Int) = e by omega] at h1
  exact ⟨p, h1, h2⟩
theorem hour_rng {t : Int} {z : List Int} (hz : ∀ i, i < z.length → 0 ≤ z.getD i 0 ∧ z.getD i 0 < t) {e : Int} (he : 0 ≤ e ∧ e < z.length) : 0 ≤ hourP z e ∧ hourP z e < t := hz _ (by omega)
end Go.Proofs.YtddnpchfjdgigaaDoor.T

/- Slack, hours, kept spans, plans: the program's and the specification's. -/
open Go.Vm
set_option linter.unusedVariables false
namespace Go.Proofs.YtddnpchfjdgigaaDoor.T
open Go

abbrev Hz (t : Int) (z : List Int) : Prop := ∀ i, i < z.length → 0 ≤ z.getD i 0 ∧ z.getD i 0 < t
theorem slack48 {ro : List ABlk} {h : Heap} {t n : Int} {v w : AVal} {l : List Sp} {s : Sp} {z : List Int} (hr : rOk t n) (a : IsSpans ro h v l) (r : IsRow ro h w z) (hz : Hz t z) (hf : 0 ≤ s.f ∧ s.f < z.length) (ht : 0 ≤ s.t ∧ s.t < z.length) (hlo : -2000 ≤ s.lo ∧ s.lo ≤ 2000) :
    callX F1 ro 48 [demV t n v, s.v, w] h = some (.i .i64 (slackP t s z), h, h.length, h.length) := by
  refine g48_ok (meansX_ok F1 ro) rfl ?_
  unfold g48
  obtain ⟨r1, r2, r3, r4⟩ := hr
  have hb1 : stepM ro ⟨h, h.length, h.length⟩ (.bx 55 3 (.c (demV t n v))) = _ := bx_ok (vs := [.i .i64 t, .i .i64 n, v]) 55 rfl
  have hb2 : stepM ro ⟨h ++ [some (blkOf 55 [.i .i64 t, .i .i64 n, v])], h.length, h.length⟩ (.bx 31 4 (.c s.v)) = _ := bx_ok (vs := s.vs) 31 rfl
  have d1 := (Holds.new h 55 [.i .i64 t, .i .i64 n, v]).ext [some (blkOf 31 s.vs)]
  have d2 := Holds.new (h ++ [some (blkOf 55 [.i .i64 t, .i .i64 n, v])]) 31 s.vs
  have kp : Keep h (h ++ [some (blkOf 55 [.i .i64 t, .i .i64 n, v])] ++ [some (blkOf 31 s.vs)]) := (Keep.app _).trans (Keep.app _)
  rw [hb1]
  simp only [bindP_some]
  rw [hb2]
  generalize hhp : h ++ [some (blkOf 55 [.i .i64 t, .i .i64 n, v])] ++ [some (blkOf 31 s.vs)] = hp at *
  have b0 := d2.oneA (ro := ro) (k := 0) (by simp)
  have b1 := d2.oneA (ro := ro) (k := 1) (by simp)
  have b2 := d2.oneA (ro := ro) (k := 2) (by simp)
  simp only [List.getD_cons_zero, List.getD_cons_succ] at b0 b1 b2
  obtain ⟨p1, e1, g1⟩ := row_ix r ht
  obtain ⟨p2, e2, g2⟩ := row_ix r hf
  have l1 := (g1 (l := 0) (q := 0) kp).2
  have l2 := (g2 (l := 0) (q := 0) kp).2
  have h1 := hour_rng hz ht
  have h2 := hour_rng hz hf
  have am := a.by kp
  have hc := callN_pure (mod70 (ro := ro) (h := hp) (x := hourP z s.t - hourP z s.f - s.lo) (n := n) (v := v) r1 r2) (by simp [demV, AVal.bel, bels, am.bel]) rfl
  simp only [bindP_some, d1.allA (ro := ro) (n := 3) rfl, bindO_some, p_faddr, b0, b1, b2, asI_i, e1, e2, l1, l2, forceI_eq, wr_id' (x := hourP z s.t - hourP z s.f) (by omega) (by omega), wr_id' (x := hourP z s.t - hourP z s.f - s.lo) (by omega) (by omega), meansX_call, hc, tupA]
  exact fin_keep kp rfl

theorem slack53 {ro : List ABlk} {h : Heap} {t : Int} {w : AVal} {s : Sp} {z : List Int} (r1 : 1 ≤ t ∧ t ≤ 24) (r : IsRow ro h w z) (hz : Hz t z) (hf : 0 ≤ s.f ∧ s.f < z.length) (ht : 0 ≤ s.t ∧ s.t < z.length) (hlo : -2000 ≤ s.lo ∧ s.lo ≤ 2000) :
    callX F1 ro 53 [.i .i64 t, s.v, w] h = some (.i .i64 (slackP t s z), h, h.length, h.length) := by
  refine g53_ok (meansX_ok F1 ro) rfl ?_
  unfold g53
  have hb2 : stepM ro ⟨h, h.length, h.length⟩ (.bx 31 4 (.c s.v)) = _ := bx_ok (vs := s.vs) 31 rfl
  have d2 := Holds.new h 31 s.vs
  have kp : Keep h (h ++ [some (blkOf 31 s.vs)]) := Keep.app _
  rw [hb2]
  generalize hhp : h ++ [some (blkOf 31 s.vs)] = hp at *
  have b0 := d2.oneA (ro := ro) (k := 0) (by simp)
  have b1 := d2.oneA (ro := ro) (k := 1) (by simp)
  have b2 := d2.oneA (ro := ro) (k := 2) (by simp)
  simp only [List.getD_cons_zero, List.getD_cons_succ] at b0 b1 b2
  obtain ⟨p1, e1, g1⟩ := row_ix r ht
  obtain ⟨p2, e2, g2⟩ := row_ix r hf
  have l1 := (g1 (l := 0) (q := 0) kp).2
  have l2 := (g2 (l := 0) (q := 0) kp).2
  have h1 := hour_rng hz ht
  have h2 := hour_rng hz hf
  have hc := callN_pure (mod67 (ro := ro) (h := hp) (x := hourP z s.t - hourP z s.f - s.lo) r1.1 r1.2) (by simp [AVal.bel, bels]) rfl
  simp only [bindP_some, bindO_some, p_faddr, b0, b1, b2, asI_i, e1, e2, l1, l2, forceI_eq, wr_id' (x := hourP z s.t - hourP z s.f) (by omega) (by omega), wr_id' (x := hourP z s.t - hourP z s.f - s.lo) (by omega) (by omega), meansX_call, hc, tupA]
  exact fin_keep kp rfl

/- least and greatest -/
def minL : List Int → Int → Int
  | [], m => m
  | x :: l, m => minL l (mxV false m x)
def maxL : List Int → Int → Int
  | [], m => m
  | x :: l, m => maxL l (mxV true m x)
theorem minL_ge : ∀ (l : List Int) (m b : Int), b ≤ minL l m ↔ b ≤ m ∧ ∀ x ∈ l, b ≤ x
  | [], m, b => by simp [minL]
  | x :: l, m, b => by
    rw [minL, minL_ge l]
    simp only [mxV, Bool.false_eq_true, if_false, List.mem_cons, forall_eq_or_imp]
    split <;> constructor <;> intro h <;> refine ⟨by omega, ?_⟩
    · exact ⟨by omega, h.2⟩
    · exact h.2.2
    · exact ⟨by omega, h.2⟩
    · exact h.2.2
theorem maxL_lt : ∀ (l : List Int) (m b : Int), maxL l m < b ↔ m < b ∧ ∀ x ∈ l, x < b
  | [], m, b => by simp [maxL]
  | x :: l, m, b => by
    rw [maxL, maxL_lt l]
    simp only [mxV, if_true, List.mem_cons, forall_eq_or_imp]
    split <;> constructor <;> intro h <;> refine ⟨by omega, ?_⟩
    · exact ⟨by omega, h.2⟩
    · exact h.2.2
    · exact ⟨by omega, h.2⟩
    · exact h.2.2
theorem minL_take {z : List Int} {i : Nat} (m : Int) (hi : i < z.length) : minL (z.take (i + 1)) m = mxV false (minL (z.take i) m) (z.getD i 0) := by
  induction z generalizing i m with
  | nil => simp at hi
  | cons x z ih =>
    cases i with
    | zero => simp [minL]
    | succ i => simp only [List.take_succ_cons, minL, List.getD_cons_succ]; exact ih _ (by simpa using hi)
theorem maxL_take {z : List Int} {i : Nat} (m : Int) (hi : i < z.length) : maxL (z.take (i + 1)) m = mxV true (maxL (z.take i) m) (z.getD i 0) := by
  induction z generalizing i m with
  | nil => simp at hi
  | cons x z ih =>
    cases i with
    | zero => simp [maxL]
    | succ i => simp only [List.take_succ_cons, maxL, List.getD_cons_succ]; exact ih _ (by simpa using hi)
theorem min72 {ro : List ABlk} {h : Heap} {w : AVal} {z : List Int} (r : IsRow ro h w z) (h0 : 0 < z.length) (h40 : z.length ≤ 1000) : callX F1 ro 72 [w] h = some (.i .i64 (minL z (z.getD 0 0)), h, h.length, h.length) := by
  refine g72_ok (meansX_ok F1 ro) rfl ?_
  unfold g72
  obtain ⟨p, e1, g1⟩ := at_rowK r h0
  have l1 := (g1 (l := h.length) (q := h.length) (Keep.refl h)).1
  have e0 : ((0 : Nat) : Int) = 0 := rfl
  rw [e0] at e1
  have hl : decide ((z.length : Int) < 1) = false := decide_eq_false (by omega)
  have hloop := loop_run (b := fun s : Int × Int => g72_b0 (meansX F1 ro) ro w ⟨h, h.length, h.length⟩ s.1 s.2) (fun i => (minL (z.take (i + 1)) (z.getD 0 0), ((i + 1 : Nat) : Int))) (z.length - 1) (r0 := minL z (z.getD 0 0)) ?_ ?_
  · have e2 : minL (z.take (0 + 1)) (z.getD 0 0) = z.getD 0 0 := by rw [minL_take _ h0]; simp [minL, mxV]
    rw [e2] at hloop
    simp only [len_row r, bindO_some, asI_i, forceB_eq, ltI_eq, hl, cond_false, e1, l1, meansX_loop]
    rw [show ((0 + 1 : Nat) : Int) = 1 from rfl] at hloop
    rw [hloop]
    exact fin_pure rfl
  · have e2 : z.length - 1 + 1 = z.length := by omega
    simp only [g72_b0, len_row r, bindO_some, asI_i, forceB_eq, ltI_eq, e2, lt_no, cond_false, List.take_length]
  · intro i hi
    obtain ⟨p, e1, g1⟩ := at_rowK r (i := i + 1) (by omega)
    have l1 := (g1 (l := h.length) (q := h.length) (Keep.refl h)).1
    simp only [g72_b0, len_row r, bindO_some, asI_i, forceB_eq, ltI_eq, lt_yes (show i + 1 < z.length by omega), cond_true, e1, l1, forceI_eq]
    rw [wr_next (by omega), minL_take (i := i + 1) _ (by omega)]
theorem max73 {ro : List ABlk} {h : Heap} {w : AVal} {z : List Int} (r : IsRow ro h w z) (h0 : 0 < z.length) (h40 : z.length ≤ 1000) : callX F1 ro 73 [w] h = some (.i .i64 (maxL z (z.getD 0 0)), h, h.length, h.length) := by
  refine g73_ok (meansX_ok F1 ro) rfl ?_
  unfold g73
  obtain ⟨p, e1, g1⟩ := at_rowK r h0
  have l1 := (g1 (l := h.length) (q := h.length) (Keep.refl h)).1
  have e0 : ((0 : Nat) : Int) = 0 := rfl
  rw [e0] at e1
  have hl : decide ((z.length : Int) < 1) = false := decide_eq_false (by omega)
  have hloop := loop_run (b := fun s : Int × Int => g73_b0 (meansX F1 ro) ro w ⟨h, h.length, h.length⟩ s.1 s.2) (fun i => (maxL (z.take (i + 1)) (z.getD 0 0), ((i + 1 : Nat) : Int))) (z.length - 1) (r0 := maxL z (z.getD 0 0)) ?_ ?_
  · have e2 : maxL (z.take (0 + 1)) (z.getD 0 0) = z.getD 0 0 := by rw [maxL_take _ h0]; simp [maxL, mxV]
    rw [e2] at hloop
    simp only [len_row r, bindO_some, asI_i, forceB_eq, ltI_eq, hl, cond_false, e1, l1, meansX_loop]
    rw [show ((0 + 1 : Nat) : Int) = 1 from rfl] at hloop
    rw [hloop]
    exact fin_pure rfl
  · have e2 : z.length - 1 + 1 = z.length := by omega
    simp only [g73_b0, len_row r, bindO_some, asI_i, forceB_eq, ltI_eq, e2, lt_no, cond_false, List.take_length]
  · intro i hi
    obtain ⟨p, e1, g1⟩ := at_rowK r (i := i + 1) (by omega)
    have l1 := (g1 (l := h.length) (q := h.length) (Keep.refl h)).1
    simp only [g73_b0, len_row r, bindO_some, asI_i, forceB_eq, ltI_eq, lt_yes (show i + 1 < z.length by omega), cond_true, e1, l1, forceI_eq]
    rw [wr_next (by omega), maxL_take (i := i + 1) _ (by omega)]
theorem hours_mm {t n : Int} {z : List Int} (h0 : 0 < z.length) : HoursP t n z ↔ (z.length : Int) = n ∧ 0 ≤ minL z (z.getD 0 0) ∧ maxL z (z.getD 0 0) < t := by
  have hm : ∀ i, i < z.length → z.getD i 0 ∈ z := fun i hi => by
    have : z.getD i 0 = z[i] := by simp [List.getD, hi]
    rw [this]; exact List.getElem_mem hi
  unfold HoursP
  rw [minL_ge, maxL_lt]
  constructor
  · intro ⟨h1, h2⟩
    have hx : ∀ x ∈ z, 0 ≤ x ∧ x < t := fun x hx => by
      obtain ⟨i, hi, rfl⟩ := List.getElem_of_mem hx
      have := h2 i hi
      simpa [List.getD, hi] using this
    exact ⟨h1, ⟨(h2 0 h0).1, fun x h => (hx x h).1⟩, (h2 0 h0).2, fun x h => (hx x h).2⟩
  · intro ⟨h1, ⟨h2, h3⟩, h4, h5⟩
    exact ⟨h1, fun i hi => ⟨h3 _ (hm i hi), h5 _ (hm i hi)⟩⟩
theorem hasHours52 {ro : List ABlk} {h : Heap} {t n : Int} {v w : AVal} {z : List Int} (hr : rOk t n) (r : IsRow ro h w z) (h40 : z.length ≤ 1000) : callX F1 ro 52 [demV t n v, w] h = some (.b (decide (HoursP t n z)), h, h.length, h.length) := by
  refine g52_ok (meansX_ok F1 ro) rfl ?_
  unfold g52
  obtain ⟨r1, r2, r3, r4⟩ := hr
  have hb1 : stepM ro ⟨h, h.length, h.length⟩ (.bx 55 3 (.c (demV t n v))) = _ := bx_ok (vs := [.i .i64 t, .i .i64 n, v]) 55 rfl
  have d1 := Holds.new h 55 [.i .i64 t, .i .i64 n, v]
  have kp : Keep h (h ++ [some (blkOf 55 [.i .i64 t, .i .i64 n, v])]) := Keep.app _
  rw [hb1]
  generalize hhp : h ++ [some (blkOf 55 [.i .i64 t, .i .i64 n, v])] = hp at *
  have b1 := d1.one (ro := ro) (l := hp.length) (p := hp.length) (k := 1) (by simp)
  have b0 := d1.oneA (ro := ro) (k := 0) (by simp)
  simp only [List.getD_cons_zero, List.getD_cons_succ] at b0 b1
  have rp := row_by r kp
  have hbase : Mm.base ⟨hp, h.length, h.length⟩ = (⟨hp, hp.length, hp.length⟩ : Mm) := rfl
  have hjoin : Mm.join ⟨hp, h.length, h.length⟩ ⟨hp, hp.length, hp.length⟩ = (⟨hp, h.length, h.length⟩ : Mm) := by simp [Mm.join, Nat.min_eq_left kp.1]
  have hlw : (!Nat.blt hp.length hp.length) = true := by
    have : Nat.blt hp.length hp.length = false := by rw [← Bool.not_eq_true, Nat.blt_eq]; omega
    rw [this]; rfl
  have fin : ∀ c : Bool, finM h.length (tupA [.b c]) ⟨hp, h.length, h.length⟩ = some (.b c, h, h.length, h.length) := fun c => fin_keep kp rfl
  simp only [bindP_some, bindO_some, hbase, len_row r, asI_i, p_faddr, b1, b0, forceB_eq, eqI_eq, meansX_call]
  by_cases hl : (z.length : Int) = n
  · have h0 : 0 < z.length := by omega
    have e1 : ((z.length : Int) == n) = true := by simpa using hl
    simp only [e1, cond_true, cp0 (min72 rp h0 h40), bindP_some, asI_i, hlw, chk_true, ltI_eq, bindO_some]
    by_cases hm : minL z (z.getD 0 0) < 0
    · have e2 : decide (HoursP t n z) = false := decide_eq_false fun hh => by have := ((hours_mm h0).1 hh).2.1; omega
      simp only [hm, decide_true, Bool.not_true, cond_false, bindO_some, hjoin, fin, e2]
    · have e2 : decide (HoursP t n z) = decide (maxL z (z.getD 0 0) < t) := decide_eq_decide.2 ((hours_mm h0).trans ⟨fun hh => hh.2.2, fun hh => ⟨hl, by omega, hh⟩⟩)
      simp only [hm, decide_false, Bool.not_false, cond_true, cp0 (max73 rp h0 h40), bindP_some, asI_i, hlw, chk_true, bindO_some, hjoin, fin, e2]
  · have e1 : ((z.length : Int) == n) = false := by simpa using hl
    have e2 : decide (HoursP t n z) = false := decide_eq_false fun hh => hl hh.1
    simp only [e1, cond_false, bindO_some, hjoin, fin, e2]

theorem hours41 {ro : List ABlk} {h : Heap} {t n : Int} {w : AVal} {z : List Int} (hr : rOk t n) (r : IsRow ro h w z) : callX F1 ro 41 [.i .i64 t, .i .i64 n, w] h = some (.b (decide (HoursP t n z)), h, h.length, h.length) := by
  refine g41_ok (meansX_ok F1 ro) rfl ?_
  unfold g41
  obtain ⟨r1, r2, r3, r4⟩ := hr
  simp only [len_row r, bindO_some, asI_i, forceB_eq, eqI_eq, meansX_loop]
  by_cases hl : (z.length : Int) = n
  · have e1 : (!((z.length : Int) == n)) = false := by simpa using hl
    rw [e1]
    have hloop := loop_if (b := fun s : Int => g41_b0 (meansX F1 ro) ro t n w ⟨h, h.length, h.length⟩ s) (fun i => (i : Int)) z.length (fun i => 0 ≤ z.getD i 0 ∧ z.getD i 0 < t) (.inl ()) (.inr false) ?_ ?_ ?_
    · have e0 : ((0 : Nat) : Int) = 0 := rfl
      rw [e0] at hloop
      simp only [cond_false]
      rw [hloop]
      by_cases hall : ∀ i, i < z.length → 0 ≤ z.getD i 0 ∧ z.getD i 0 < t
      · rw [if_pos hall, show decide (HoursP t n z) = true from decide_eq_true ⟨hl, hall⟩]
        exact fin_pure rfl
      · rw [if_neg hall, show decide (HoursP t n z) = false from decide_eq_false fun hh => hall hh.2]
        exact fin_pure rfl
    · have : decide ((z.length : Int) < n) = false := decide_eq_false (by omega)
      simp only [g41_b0, forceB_eq, ltI_eq, this, cond_false]
    · intro i hi hp
      obtain ⟨p, e1, g1⟩ := at_rowK r hi
      have l1 := (g1 (l := h.length) (q := h.length) (Keep.refl h)).1
      have c1 : decide ((i : Int) < n) = true := decide_eq_true (by omega)
      have c2 : (decide (z.getD i 0 < 0) || !decide (z.getD i 0 < t)) = false := by rw [decide_eq_false (by omega), decide_eq_true hp.2]; rfl
      simp only [g41_b0, forceB_eq, ltI_eq, c1, cond_true, e1, l1, bindO_some, asI_i, bindO_or, c2, cond_false, forceI_eq]
      rw [wr_next (by omega)]
    · intro i hi hp
      obtain ⟨p, e1, g1⟩ := at_rowK r hi
      have l1 := (g1 (l := h.length) (q := h.length) (Keep.refl h)).1
      have c1 : decide ((i : Int) < n) = true := decide_eq_true (by omega)
      have c2 : (decide (z.getD i 0 < 0) || !decide (z.getD i 0 < t)) = true := by
        by_cases h9 : z.getD i 0 < 0
        · rw [decide_eq_true h9]; rfl
        · rw [decide_eq_false (p := z.getD i 0 < t) (by omega)]; simp
      simp only [g41_b0, forceB_eq, ltI_eq, c1, cond_true, e1, l1, bindO_some, asI_i, bindO_or, c2]
  · have e1 : (!((z.length : Int) == n)) = true := by simpa using hl
    rw [e1, show decide (HoursP t n z) = false from decide_eq_false fun hh => hl hh.1]
    exact fin_pure rfl
end Go.Proofs.YtddnpchfjdgigaaDoor.T

/- Is and Slack, the program's and the specification's. -/
open Go.Vm
set_option linter.unusedVariables false
namespace Go.Proofs.YtddnpchfjdgigaaDoor.T
open Go

/-- a span in a block of its own -/
theorem tmp_span {ro : List ABlk} {h hp : Heap} (kh : Keep h hp) (s : Sp) : ∃ hp', stepM ro ⟨hp ++ [some (blkOf 31 z4)], h.length, h.length⟩ (.st 4 (.c (.p (some ⟨false, hp.length, 0⟩))) (.c s.v)) = some (und, ⟨hp', h.length, h.length⟩) ∧ Holds hp' hp.length s.vs ∧ Keep hp hp' ∧ hp'.length = hp.length + 1 := by
  obtain ⟨hp', s1, s2, s3, s4, s5⟩ := (Holds.new hp 31 z4).st (ro := ro) (h := h) (n := 4) (v := s.v) (vs' := s.vs) rfl rfl rfl rfl kh.1 (kh.trans (Keep.app _))
  refine ⟨hp', s1, s2, ⟨by rw [s3]; simp, fun i hi => by rw [s4 i (by omega)]; exact List.getElem?_append_left hi⟩, by rw [s3]; simp⟩
theorem spOk_in {t n : Int} {s : Sp} {z : List Int} (hs : spOk t n s) (hz : (z.length : Int) = n) (r2 : t ≤ 24) : (0 ≤ s.f ∧ s.f < z.length) ∧ (0 ≤ s.t ∧ s.t < z.length) ∧ (-2000 ≤ s.lo ∧ s.lo ≤ 2000) ∧ (-2000 ≤ s.hi ∧ s.hi ≤ 2000) := by
  unfold spOk at hs; omega

theorem kept71 {ro : List ABlk} {h : Heap} {t n : Int} {v w : AVal} {l : List Sp} {z : List Int} (a : IsSpans ro h v l) (ok : Ok t n l) (r : IsRow ro h w z) (hz : HoursP t n z) : callX F1 ro 71 [.i .i64 t, v, w] h = some (.b (decide (KeptP t l z)), h, h.length, h.length) := by
  refine g71_ok (meansX_ok F1 ro) rfl ?_
  unfold g71
  obtain ⟨r1, r2, r3, r4⟩ := ok.r
  have hlen := ok.len
  have hbase : Mm.base ⟨h, h.length, h.length⟩ = (⟨h, h.length, h.length⟩ : Mm) := rfl
  have hjoin : Mm.join ⟨h, h.length, h.length⟩ ⟨h, h.length, h.length⟩ = (⟨h, h.length, h.length⟩ : Mm) := by simp [Mm.join]
  have hlw : (!Nat.blt h.length h.length) = true := by
    have : Nat.blt h.length h.length = false := by rw [← Bool.not_eq_true, Nat.blt_eq]; omega
    rw [this]; rfl
  have step : ∀ i, i < l.length → g71_b0 (meansX F1 ro) ro t v w (i : Int) ⟨h, h.length, h.length⟩ = some (if keeps t (l.getD i Sp.z) z then .inl (((i + 1 : Nat) : Int), ⟨h, h.length, h.length⟩) else .inr (.inr (false, ⟨h, h.length, h.length⟩))) := by
    intro i hi
    obtain ⟨⟨qr, qb, qo⟩, q1, q2, q3, q4⟩ := at_span a hi
    have hs := ok.sp i hi
    generalize l.getD i Sp.z = s at *
    obtain ⟨i1, i2, i3, i4⟩ := spOk_in hs hz.1 r2
    have b0 := (q4 0 (by omega)).2 h.length h.length
    have b1 := (q4 1 (by omega)).2 h.length h.length
    have b2 := (q4 2 (by omega)).1
    have b3 := (q4 3 (by omega)).1
    simp only [List.getD_cons_zero, List.getD_cons_succ] at b0 b1 b2 b3
    have c0 : decide (s.f < (z.length : Int)) = true := decide_eq_true i1.2
    have c1 : decide (s.t < (z.length : Int)) = true := decide_eq_true i2.2
    have hc := cp0 (slack53 (ro := ro) (h := h) ⟨r1, r2⟩ r hz.2 i1 i2 i3)
    simp only [g71_b0, len_spans a, bindO_some, asI_i, forceB_eq, ltI_eq, lt_yes hi, cond_true, hbase, q1, p_faddr, b0, b1, len_row r, c0, c1, q2, meansX_call, hc, bindP_some, hlw, chk_true, b2, b3, forceI_eq, wr_id' (x := s.hi - s.lo) (by omega) (by omega), hjoin]
    by_cases hk : keeps t s z
    · have e : decide (s.hi - s.lo < slackP t s z) = false := decide_eq_false (by unfold keeps at hk; omega)
      rw [e, if_pos hk]
      simp only [cond_false]
      rw [wr_next (by omega)]
    · have e : decide (s.hi - s.lo < slackP t s z) = true := decide_eq_true (by unfold keeps at hk; omega)
      rw [e, if_neg hk]
      rfl
  have hloop := loop_if (b := fun s : Int × Mm => g71_b0 (meansX F1 ro) ro t v w s.1 s.2) (fun i => ((i : Int), (⟨h, h.length, h.length⟩ : Mm))) l.length (fun i => keeps t (l.getD i Sp.z) z) (.inl ⟨h, h.length, h.length⟩) (.inr (false, ⟨h, h.length, h.length⟩)) ?_ (fun i hi hp => by simp only [step i hi, if_pos hp]) (fun i hi hp => by simp only [step i hi, if_neg hp])
  · have e0 : ((0 : Nat) : Int) = 0 := rfl
    simp only [e0] at hloop
    simp only [meansX_loop]
    rw [hloop]
    by_cases hall : ∀ i, i < l.length → keeps t (l.getD i Sp.z) z
    · rw [if_pos hall, show decide (KeptP t l z) = true from decide_eq_true hall]
      exact fin_pure rfl
    · rw [if_neg hall, show decide (KeptP t l z) = false from decide_eq_false hall]
      exact fin_pure rfl
  · simp only [g71_b0, len_spans a, bindO_some, asI_i, forceB_eq, ltI_eq, lt_no, cond_false]

theorem isPlan51 {ro : List ABlk} {h : Heap} {t n : Int} {v w : AVal} {l : List Sp} {z : List Int} (a : IsSpans ro h v l) (ok : Ok t n l) (r : IsRow ro h w z) : callX F1 ro 51 [.i .i64 t, .i .i64 n, v, w] h = some (.b (decide (PlanP t n l z)), h, h.length, h.length) := by
  refine g51_ok (meansX_ok F1 ro) rfl ?_
  unfold g51
  obtain ⟨r1, r2, r3, r4⟩ := ok.r
  have fin : ∀ c : Bool, finM h.length (tupA [.b c]) ⟨h, h.length, h.length⟩ = some (.b c, h, h.length, h.length) := fun c => fin_pure rfl
  simp only [meansX_call, cp0 (hours41 ok.r r), bindP_some, asB_b]
  by_cases hh : HoursP t n z
  · have h0 : 0 < z.length := by have := hh.1; omega
    obtain ⟨p, e1, g1⟩ := at_rowK r h0
    have l1 := (g1 (l := h.length) (q := h.length) (Keep.refl h)).1
    have e0 : ((0 : Nat) : Int) = 0 := rfl
    rw [e0] at e1
    rw [decide_eq_true hh]
    simp only [cond_true, e1, l1, bindO_some, asI_i, forceB_eq, eqI_eq]
    by_cases hz0 : z.getD 0 0 = 0
    · have e : (z.getD 0 0 == 0) = true := by simpa using hz0
      rw [e]
      simp only [cond_true, cp0 (kept71 a ok r hh), bindP_some, asB_b, bindO_some, fin]
      congr 3
      exact decide_eq_decide.2 ⟨fun k => ⟨hh, hz0, k⟩, fun k => k.2.2⟩
    · have e : (z.getD 0 0 == 0) = false := by simpa using hz0
      rw [e, show decide (PlanP t n l z) = false from decide_eq_false fun k => hz0 k.2.1]
      simp only [cond_false, bindO_some, fin]
  · rw [decide_eq_false hh, show decide (PlanP t n l z) = false from decide_eq_false fun k => hh k.1]
    simp only [cond_false, bindO_some, fin]

theorem isPlan50 {ro : List ABlk} {h : Heap} {t n : Int} {v w : AVal} {l : List Sp} {z : List Int} (a : IsSpans ro h v l) (ok : Ok t n l) (r : IsRow ro h w z) (h40 : z.length ≤ 1000) : callX F1 ro 50 [demV t n v, w] h = some (.b (decide (PlanP t n l z)), h, h.length, h.length) := by
  refine g50_ok (meansX_ok F1 ro) rfl ?_
  unfold g50
  obtain ⟨r1, r2, r3, r4⟩ := ok.r
  have hlen := ok.len
  have hb1 : stepM ro ⟨h, h.length, h.length⟩ (.bx 55 3 (.c (demV t n v))) = _ := bx_ok (vs := [.i .i64 t, .i .i64 n, v]) 55 rfl
  have d1 := Holds.new h 55 [.i .i64 t, .i .i64 n, v]
  have kp : Keep h (h ++ [some (blkOf 55 [.i .i64 t, .i .i64 n, v])]) := Keep.app _
  rw [hb1]
  generalize hhp : h ++ [some (blkOf 55 [.i .i64 t, .i .i64 n, v])] = hp at *
  have fin : ∀ (c : Bool) (hq : Heap), Keep h hq → finM h.length (tupA [.b c]) ⟨hq, h.length, h.length⟩ = some (.b c, h, h.length, h.length) := fun c hq k => fin_keep k rfl
  have rp := row_by r kp
  have ap := a.by kp
  simp only [bindP_some, d1.all (ro := ro) (n := 3) rfl, bindO_some, meansX_call, callM_pure (hasHours52 (ro := ro) (v := v) ok.r rp h40) kp.1 kp.1, asB_b, forceB_eq]
  by_cases hh : HoursP t n z
  · have h0 : 0 < z.length := by have := hh.1; omega
    obtain ⟨p, e1, g1⟩ := at_rowK r h0
    have l1 := (g1 (l := h.length) (q := h.length) kp).1
    have e0 : ((0 : Nat) : Int) = 0 := rfl
    rw [e0] at e1
    rw [decide_eq_true hh]
    simp only [Bool.not_true, cond_false, e1, l1, bindO_some, asI_i, eqI_eq]
    by_cases hz0 : z.getD 0 0 = 0
    · have e : (!(z.getD 0 0 == 0)) = false := by simpa using hz0
      have b2 := d1.one (ro := ro) (l := h.length) (p := h.length) (k := 2) (by simp)
      simp only [List.getD_cons_zero, List.getD_cons_succ] at b2
      rw [e]
      simp only [cond_false, p_faddr, b2, bindO_some, len_spans ap, asI_i, meansX_loop]
      have hloop := loop_upto (b := fun s : Int × Mm => g50_b1 (meansX F1 ro) ro w (.p (some ⟨false, h.length, 0⟩)) v l.length s.1 s.2) l.length (fun i m => m.lw = h.length ∧ m.lp = h.length ∧ Keep hp m.h ∧ ∀ j, j < i → keeps t (l.getD j Sp.z) z) (fun x => x.1 = false ∧ x.2.lw = h.length ∧ x.2.lp = h.length ∧ Keep hp x.2.h ∧ ¬ KeptP t l z) ?_ ?_ l.length 0 ⟨hp, h.length, h.length⟩ (by omega) ⟨rfl, rfl, Keep.refl hp, fun j hj => by omega⟩
      · obtain ⟨o, h1, h2⟩ := hloop
        rw [e0] at h1
        rw [h1]
        rcases h2 with ⟨⟨hq, lw, lp⟩, rfl, g1, g2, g3, g4⟩ | ⟨⟨c, hq, lw, lp⟩, rfl, g0, g1, g2, g3, g4⟩
        · simp only at g1 g2 g3
          subst g1 g2
          rw [show decide (PlanP t n l z) = true from decide_eq_true ⟨hh, hz0, g4⟩]
          exact fin _ _ (kp.trans g3)
        · simp only at g0 g1 g2 g3
          subst g0 g1 g2
          rw [show decide (PlanP t n l z) = false from decide_eq_false fun k => g4 k.2.2]
          exact fin _ _ (kp.trans g3)
      · rintro i ⟨hq, lw, lp⟩ hi ⟨g1, g2, g3, g4⟩
        simp only at g1 g2 g3
        subst g1 g2
        have kq := kp.trans g3
        obtain ⟨q, q1, q2, q3, q4⟩ := at_span (a.by kq) hi
        have hs := ok.sp i hi
        generalize hse : l.getD i Sp.z = s at *
        obtain ⟨i1, i2, i3, i4⟩ := spOk_in hs hh.1 r2
        obtain ⟨hq', s1, s2, s3, s4⟩ := tmp_span (ro := ro) kq s
        have hal := al_ok (ro := ro) (hp := hq) (l := h.length) (p := h.length) 31 z4
        have b3 := s2.oneA (ro := ro) (k := 3) (by simp)
        have b2 := s2.oneA (ro := ro) (k := 2) (by simp)
        simp only [List.getD_cons_zero, List.getD_cons_succ] at b2 b3
        have dq := (d1.by g3).by s3
        have aq := (a.by kq).by s3
        have rq := row_by (row_by r kq) s3
        have hc := callN_pure (slack48 (ro := ro) (h := hq') ok.r aq rq hh.2 i1 i2 i3) (by simp [demV, AVal.bel, bels, aq.bel, row_bel rq]) rfl
        simp only [g50_b1, forceB_eq, ltI_eq, lt_yes hi, cond_true, q1, q2, bindO_some, hal, bindP_some, s1, dq.allA (ro := ro) (n := 3) rfl, s2.allA (ro := ro) (n := 4) rfl, meansX_call, hc, asI_i, p_faddr, b2, b3, forceI_eq, wr_id' (x := s.hi - s.lo) (by omega) (by omega)]
        by_cases hk : keeps t s z
        · have e : decide (s.hi - s.lo < slackP t s z) = false := decide_eq_false (by unfold keeps at hk; omega)
          rw [e]
          refine .inl ⟨⟨hq', h.length, h.length⟩, ?_, rfl, rfl, g3.trans s3, fun j hj => ?_⟩
          · simp only [cond_false]
            rw [wr_next (by omega)]
          · rcases Nat.lt_or_ge j i with h3 | h3
            · exact g4 j h3
            · obtain rfl : j = i := by omega
              rw [hse]; exact hk
        · have e : decide (s.hi - s.lo < slackP t s z) = true := decide_eq_true (by unfold keeps at hk; omega)
          rw [e]
          exact .inr ⟨_, rfl, rfl, rfl, rfl, g3.trans s3, fun k => hk (hse ▸ k i hi)⟩
      · rintro ⟨hq, lw, lp⟩ _
        simp only [g50_b1, forceB_eq, ltI_eq, lt_no, cond_false]
    · have e : (!(z.getD 0 0 == 0)) = true := by simpa using hz0
      rw [e, show decide (PlanP t n l z) = false from decide_eq_false fun k => hz0 k.2.1]
      simp only [cond_true]
      exact fin _ _ kp
  · rw [decide_eq_false hh, show decide (PlanP t n l z) = false from decide_eq_false fun k => hh k.1]
    simp only [Bool.not_false, cond_true, bindO_some]
    exact fin _ _ kp

/-- Is -/
def isE (t n : Int) (l : List Sp) (z : List Int) : Bool := decide (rdE t n l = 0 ∧ PlanP t n l z)
theorem is26 {ro : List ABlk} {h : Heap} {t n : Int} {v w : AVal} {l : List Sp} {z : List Int} (a : IsSpans ro h v l) (r : IsRow ro h w z) (h40 : z.length ≤ 1000) : callX F1 ro 26 [.i .i64 t, .i .i64 n, v, w] h = some (.tup [.b (isE t n l z), .i .i64 (rdE t n l)], h, h.length, h.length) := by
  refine g26_ok (meansX_ok F1 ro) rfl ?_
  unfold g26
  have hs := callM_pure (read43 (ro := ro) (t := t) (n := n) a) (Nat.le_refl _) (Nat.le_refl _)
  have hal := al_ok (ro := ro) (hp := h) (l := h.length) (p := h.length) 55 z3
  have fin : ∀ (b : Bool) (e : Int) (hp : Heap), Keep h hp → finM h.length (tupA [.b b, .i .i64 e]) ⟨hp, h.length, h.length⟩ = some (.tup [.b b, .i .i64 e], h, h.length, h.length) := fun b e hp k => fin_keep k rfl
  by_cases he : rdE t n l = 0
  · have ok := rdE_ok.1 he
    have hd : demR t n v l = demV t n v := by simp only [demR, he, if_true]
    have e1 : isE t n l z = decide (PlanP t n l z) := decide_eq_decide.2 ⟨fun k => k.2, fun k => ⟨he, k⟩⟩
    rw [hd, he] at hs
    rw [he, e1]
    obtain ⟨hp1, s1, s2, s3, s4, s5⟩ := (Holds.new h 55 z3).st (ro := ro) (h := h) (n := 3) (v := demV t n v) (vs' := [.i .i64 t, .i .i64 n, v]) rfl rfl rfl (ones3 a.one) (Nat.le_refl _) (Keep.app _)
    have hld := s2.all (ro := ro) (l := h.length) (p := h.length) (n := 3) rfl
    simp only [meansX_call, hs, bindP_some, ext0, ext1, bindO_some, asI_i, hal, s1, forceB_eq, eqI_eq, beq_self_eq_true, Bool.not_true, cond_false, hld, callM_pure (isPlan50 (ro := ro) (a.by s5) ok (row_by r s5) h40) s5.1 s5.1, asB_b]
    exact fin _ _ hp1 s5
  · have hd : demR t n v l = .agg z3 := by simp only [demR, he, if_false]
    have e1 : isE t n l z = false := decide_eq_false fun k => he k.1
    rw [hd] at hs
    rw [e1]
    obtain ⟨hp1, s1, s2, s3, s4, s5⟩ := (Holds.new h 55 z3).st (ro := ro) (h := h) (n := 3) (v := .agg z3) (vs' := z3) rfl rfl rfl rfl (Nat.le_refl _) (Keep.app _)
    have e : (rdE t n l == 0) = false := by simpa using he
    simp only [meansX_call, hs, bindP_some, ext0, ext1, bindO_some, asI_i, hal, s1, forceB_eq, eqI_eq, e, Bool.not_false, cond_true]
    exact fin _ _ hp1 s5
theorem is27 {ro : List ABlk} {h : Heap} {t n : Int} {v w : AVal} {l : List Sp} {z : List Int} (a : IsSpans ro h v l) (r : IsRow ro h w z) : callX F1 ro 27 [.i .i64 t, .i .i64 n, v, w] h = some (.tup [.b (isE t n l z), .i .i64 (rdE t n l)], h, h.length, h.length) := by
  refine g27_ok (meansX_ok F1 ro) rfl ?_
  unfold g27
  have hs := callM_pure (spans20 (ro := ro) (t := t) (n := n) a) (Nat.le_refl _) (Nat.le_refl _)
  have fin : ∀ (b : Bool) (e : Int), finM h.length (tupA [.b b, .i .i64 e]) ⟨h, h.length, h.length⟩ = some (.tup [.b b, .i .i64 e], h, h.length, h.length) := fun b e => fin_pure rfl
  by_cases he : rdE t n l = 0
  · have ok := rdE_ok.1 he
    have e1 : isE t n l z = decide (PlanP t n l z) := decide_eq_decide.2 ⟨fun k => k.2, fun k => ⟨he, k⟩⟩
    rw [he] at hs
    rw [he, e1]
    simp only [meansX_call, hs, bindP_some, asI_i, forceB_eq, eqI_eq, beq_self_eq_true, Bool.not_true, cond_false, cp0 (isPlan51 a ok r), asB_b]
    exact fin _ _
  · have e1 : isE t n l z = false := decide_eq_false fun k => he k.1
    have e : (rdE t n l == 0) = false := by simpa using he
    rw [e1]
    simp only [meansX_call, hs, bindP_some, asI_i, forceB_eq, eqI_eq, e, Bool.not_false, cond_true]
    exact fin _ _
end Go.Proofs.YtddnpchfjdgigaaDoor.T

/- Slack, the program's and the specification's; the law TurnIs. -/
open Go.Vm
set_option linter.unusedVariables false
namespace Go.Proofs.YtddnpchfjdgigaaDoor.T
open Go

/-- a list that is filled from its beginning -/
def fillV (f : Nat → Int) (len i : Nat) : List AVal := (List.range len).map fun j => AVal.i .i64 (if j < i then f j else 0)
theorem fillV_len (f : Nat → Int) (len i : Nat) : (fillV f len i).length = len := by simp [fillV]
theorem fillV_set {f : Nat → Int} {len i : Nat} (hi : i < len) : (fillV f len i).set i (.i .i64 (f i)) = fillV f len (i + 1) := by
  refine List.ext_getElem (by simp [fillV]) fun j h1 h2 => ?_
  rw [List.getElem_set]
  simp only [fillV, List.getElem_map, List.getElem_range]
  by_cases e : i = j
  · subst e; rw [if_pos rfl, if_pos (by omega)]
  · rw [if_neg e]
    by_cases h : j < i
    · rw [if_pos h, if_pos (by omega)]
    · rw [if_neg h, if_neg (by omega)]
theorem fillV_zero (f : Nat → Int) (len : Nat) : rep [AVal.i .i64 0] len = fillV f len 0 := by
  refine List.ext_getElem (by rw [rep_len, fillV_len]) fun j h1 h2 => ?_
  rw [rep_len] at h1
  have := rep_get (.i .i64 0) len j h1
  rw [List.getD_eq_getElem?_getD, List.getElem?_eq_getElem (by rw [rep_len]; exact h1)] at this
  simp only [Option.getD_some] at this
  rw [this]
  simp [fillV]
theorem holds_row {ro : List ABlk} {hp : Heap} {b n : Nat} {cap : Cap} {vs : List AVal} {z : List Int} (a : Holds hp b vs) (hv : vs = z.map (AVal.i .i64)) (hn : n = z.length) : IsRow ro hp (.sl ⟨false, b, 0⟩ n cap) z := by
  subst hn hv
  obtain ⟨blk, h1, h2, h3⟩ := a
  simp only [List.length_map] at h2 h3
  exact .inr ⟨_, cap, blk, rfl, rdB_heap h1 0, by simp [h2], fun j hj => by rw [Nat.zero_add, h3 j hj, map_getD hj]⟩
theorem fillV_full (f : Nat → Int) (len : Nat) : fillV f len len = ((List.range len).map f).map (AVal.i .i64) := by
  rw [List.map_map]
  refine List.map_congr_left fun j hj => ?_
  have := List.mem_range.1 hj
  simp [this]

/-- all slacks -/
def slackL (t : Int) (l : List Sp) (z : List Int) : List Int := (List.range l.length).map fun i => slackP t (l.getD i Sp.z) z
theorem slackL_len (t : Int) (l : List Sp) (z : List Int) : (slackL t l z).length = l.length := by simp [slackL]
def slE (t n : Int) (l : List Sp) (z : List Int) : Int := if rdE t n l = 0 then if HoursP t n z then 0 else 2 else rdE t n l
def slR (t n : Int) (l : List Sp) (z : List Int) : List Int := if rdE t n l = 0 ∧ HoursP t n z then slackL t l z else []

theorem loop28 {ro : List ABlk} {h hp : Heap} {t n : Int} {v w : AVal} {l : List Sp} {z : List Int} {B : Nat} (a : IsSpans ro h v l) (ok : Ok t n l) (r : IsRow ro h w z) (hh : HoursP t n z) (kh : Keep h hp) (d : Holds hp h.length [.i .i64 t, .i .i64 n, v]) (hB : Holds hp B (fillV (fun i => slackP t (l.getD i Sp.z) z) l.length 0)) (hLB : h.length < B) :
    ∃ hp', loopX (fun s : Int × Mm => g28_b0 (meansX F1 ro) ro w (.p (some ⟨false, h.length, 0⟩)) (.sl ⟨false, B, 0⟩ l.length (.known l.length)) v l.length s.1 s.2) (0, ⟨hp, h.length, h.length⟩) = some ⟨hp', h.length, h.length⟩ ∧ Keep h hp' ∧ Holds hp' B ((slackL t l z).map (AVal.i .i64)) := by
  obtain ⟨r1, r2, r3, r4⟩ := ok.r
  have hlen := ok.len
  have hloop := loop_all (b := fun s : Int × Mm => g28_b0 (meansX F1 ro) ro w (.p (some ⟨false, h.length, 0⟩)) (.sl ⟨false, B, 0⟩ l.length (.known l.length)) v l.length s.1 s.2) l.length (fun i m => m.lw = h.length ∧ m.lp = h.length ∧ Keep h m.h ∧ Holds m.h h.length [.i .i64 t, .i .i64 n, v] ∧ Holds m.h B (fillV (fun i => slackP t (l.getD i Sp.z) z) l.length i)) ?_ ?_ l.length 0 ⟨hp, h.length, h.length⟩ (by omega) ⟨rfl, rfl, kh, d, hB⟩
  · obtain ⟨⟨hq, lw, lp⟩, h1, g1, g2, g3, g4, g5⟩ := hloop
    simp only at g1 g2 g3 g4 g5
    subst g1 g2
    rw [fillV_full] at g5
    exact ⟨hq, h1, g3, g5⟩
  · rintro i ⟨hq, lw, lp⟩ hi ⟨g1, g2, g3, g4, g5⟩
    simp only at g1 g2 g3 g4 g5
    subst g1 g2
    obtain ⟨q, q1, q2, q3, q4⟩ := at_span (a.by g3) hi
    have hs := ok.sp i hi
    generalize hse : l.getD i Sp.z = s at *
    obtain ⟨i1, i2, i3, i4⟩ := spOk_in hs hh.1 r2
    obtain ⟨hq', s1, s2, s3, s4⟩ := tmp_span (ro := ro) g3 s
    have hal := al_ok (ro := ro) (hp := hq) (l := h.length) (p := h.length) 31 z4
    have k2 := g3.trans s3
    have hc := callM_pure (slack48 (ro := ro) (h := hq') ok.r (a.by k2) (row_by r k2) hh.2 i1 i2 i3) (l := h.length) (p := h.length) k2.1 k2.1
    obtain ⟨hr, w1, w2, w3, w4, w5⟩ := (g5.by s3).set (ro := ro) (h := h) (k := i) (v := .i .i64 (slackP t s z)) (by rw [fillV_len]; exact hi) rfl rfl rfl (by omega) k2
    rw [Nat.mul_one] at w1
    have hset := fillV_set (f := fun i => slackP t (l.getD i Sp.z) z) hi
    simp only [hse] at hset
    rw [hset] at w2
    refine ⟨⟨hr, h.length, h.length⟩, ?_, rfl, rfl, w5, (g4.by s3).keep (w4 _ (by omega)), w2⟩
    simp only [g28_b0, forceB_eq, ltI_eq, lt_yes hi, cond_true, q1, q2, bindO_some, hal, bindP_some, s1, (g4.by s3).all (ro := ro) (l := h.length) (p := h.length) (n := 3) rfl, s2.all (ro := ro) (l := h.length) (p := h.length) (n := 4) rfl, meansX_call, hc, asI_i, ixS_eq hi, w1, forceI_eq]
    rw [wr_next (by omega)]
  · rintro ⟨hq, lw, lp⟩ _
    simp only [g28_b0, forceB_eq, ltI_eq, lt_no, cond_false]

theorem slack28 {ro : List ABlk} {h : Heap} {t n : Int} {v w : AVal} {l : List Sp} {z : List Int} (a : IsSpans ro h v l) (r : IsRow ro h w z) (h40 : z.length ≤ 1000) : ∃ u hp, callX F1 ro 28 [.i .i64 t, .i .i64 n, v, w] h = some (.tup [u, .i .i64 (slE t n l z)], hp, h.length, h.length) ∧ Keep h hp ∧ IsRow ro hp u (slR t n l z) := by
  have hs := callM_pure (read43 (ro := ro) (t := t) (n := n) a) (Nat.le_refl _) (Nat.le_refl _)
  have hal := al_ok (ro := ro) (hp := h) (l := h.length) (p := h.length) 55 z3
  have fin : ∀ (e : Int) (hp : Heap), Keep h hp → finM h.length (tupA [.nsl, .i .i64 e]) ⟨hp, h.length, h.length⟩ = some (.tup [.nsl, .i .i64 e], h, h.length, h.length) := fun e hp k => fin_keep k rfl
  by_cases he : rdE t n l = 0
  · have ok := rdE_ok.1 he
    have hlen := ok.len
    have hd : demR t n v l = demV t n v := by simp only [demR, he, if_true]
    rw [hd, he] at hs
    obtain ⟨hp1, s1, s2, s3, s4, s5⟩ := (Holds.new h 55 z3).st (ro := ro) (h := h) (n := 3) (v := demV t n v) (vs' := [.i .i64 t, .i .i64 n, v]) rfl rfl rfl (ones3 a.one) (Nat.le_refl _) (Keep.app _)
    have hld := s2.all (ro := ro) (l := h.length) (p := h.length) (n := 3) rfl
    have hh52 := callM_pure (hasHours52 (ro := ro) (v := v) ok.r (row_by r s5) h40) (l := h.length) (p := h.length) s5.1 s5.1
    by_cases hh : HoursP t n z
    · have e1 : slE t n l z = 0 := by simp only [slE, he, hh, if_true]
      have e2 : slR t n l z = slackL t l z := by simp only [slR, he, hh, and_self, if_true]
      rw [e1, e2]
      rw [decide_eq_true hh] at hh52
      have hmk := mk_ok (ro := ro) (hp := hp1) (l := h.length) (p := h.length) (e := 3) (es := 1) (bytes := 8) (v := .i .i64 0) (n := l.length) (by omega) (by omega)
      have dB := Holds.new hp1 3 (rep [AVal.i .i64 0] l.length)
      rw [fillV_zero (fun i => slackP t (l.getD i Sp.z) z)] at dB
      have hnb : newBlk 3 (.i .i64 0) l.length = blkOf 3 (fillV (fun i => slackP t (l.getD i Sp.z) z) l.length 0) := by unfold newBlk; rw [fillV_zero (fun i => slackP t (l.getD i Sp.z) z)]
      have kx : Keep hp1 (hp1 ++ [some (blkOf 3 (fillV (fun i => slackP t (l.getD i Sp.z) z) l.length 0))]) := Keep.app _
      rw [hnb] at hmk
      obtain ⟨hp3, l1, l2, l3⟩ := loop28 a ok r hh (s5.trans kx) (s2.by kx) dB (by have := s2.lt; omega)
      refine ⟨.sl ⟨false, hp1.length, 0⟩ l.length (.known l.length), hp3, g28_ok (meansX_ok F1 ro) rfl ?_, l2, holds_row l3 rfl (slackL_len t l z).symm⟩
      unfold g28
      simp only [meansX_call, hs, bindP_some, ext0, ext1, bindO_some, asI_i, hal, s1, forceB_eq, eqI_eq, beq_self_eq_true, Bool.not_true, cond_false, hld, hh52, asB_b, len_spans a, hmk, meansX_loop, l1]
      have hbel : (tupA [AVal.sl ⟨false, hp1.length, 0⟩ l.length (.known l.length), .i .i64 0]).bel h.length = false := by
        have := not_bel (L := h.length) (b := hp1.length) (off := 0) (len := l.length) (cap := .known l.length) s5.1
        simp only [tupA, AVal.bel, bels] at this ⊢
        rw [this]; rfl
      rw [fin_new hbel]
      rfl
    · have e1 : slE t n l z = 2 := by simp only [slE, he, hh, if_true, if_false]
      have e2 : slR t n l z = [] := by simp only [slR, hh, and_false, if_false]
      rw [e1, e2]
      rw [decide_eq_false hh] at hh52
      refine ⟨.nsl, h, g28_ok (meansX_ok F1 ro) rfl ?_, Keep.refl h, .inl ⟨rfl, rfl⟩⟩
      unfold g28
      simp only [meansX_call, hs, bindP_some, ext0, ext1, bindO_some, asI_i, hal, s1, forceB_eq, eqI_eq, beq_self_eq_true, Bool.not_true, cond_false, hld, hh52, asB_b, Bool.not_false, cond_true]
      exact fin _ _ s5
  · have hd : demR t n v l = .agg z3 := by simp only [demR, he, if_false]
    have e1 : slE t n l z = rdE t n l := by simp only [slE, he, if_false]
    have e2 : slR t n l z = [] := by simp only [slR, he, false_and, if_false]
    rw [hd] at hs
    rw [e1, e2]
    obtain ⟨hp1, s1, s2, s3, s4, s5⟩ := (Holds.new h 55 z3).st (ro := ro) (h := h) (n := 3) (v := .agg z3) (vs' := z3) rfl rfl rfl rfl (Nat.le_refl _) (Keep.app _)
    have e : (rdE t n l == 0) = false := by simpa using he
    refine ⟨.nsl, h, g28_ok (meansX_ok F1 ro) rfl ?_, Keep.refl h, .inl ⟨rfl, rfl⟩⟩
    unfold g28
    simp only [meansX_call, hs, bindP_some, ext0, ext1, bindO_some, asI_i, hal, s1, forceB_eq, eqI_eq, e, Bool.not_false, cond_true]
    exact fin _ _ s5

theorem take_map_snoc {f : Nat → Int} {len i : Nat} (hi : i < len) : ((List.range len).map f).take (i + 1) = ((List.range len).map f).take i ++ [f i] := by
  rw [List.take_add_one]; simp [hi]
theorem slack29 {ro : List ABlk} {h : Heap} {t n : Int} {v w : AVal} {l : List Sp} {z : List Int} (a : IsSpans ro h v l) (r : IsRow ro h w z) : ∃ u hp, callX F1 ro 29 [.i .i64 t, .i .i64 n, v, w] h = some (.tup [u, .i .i64 (slE t n l z)], hp, h.length, h.length) ∧ Keep h hp ∧ IsRow ro hp u (slR t n l z) := by
  have hs := callM_pure (spans20 (ro := ro) (t := t) (n := n) a) (Nat.le_refl _) (Nat.le_refl _)
  have fin : ∀ (e : Int), finM h.length (tupA [.nsl, .i .i64 e]) ⟨h, h.length, h.length⟩ = some (.tup [.nsl, .i .i64 e], h, h.length, h.length) := fun e => fin_pure rfl
  by_cases he : rdE t n l = 0
  · have ok := rdE_ok.1 he
    have hlen := ok.len
    obtain ⟨r1, r2, r3, r4⟩ := ok.r
    rw [he] at hs
    have hh41 := cp0 (hours41 (ro := ro) (h := h) ok.r r)
    by_cases hh : HoursP t n z
    · have e1 : slE t n l z = 0 := by simp only [slE, he, hh, if_true]
      have e2 : slR t n l z = slackL t l z := by simp only [slR, he, hh, and_self, if_true]
      rw [e1, e2]
      rw [decide_eq_true hh] at hh41
      have hloop := loop_all3 (b := fun s : AVal × Int × Mm => g29_b0 (meansX F1 ro) ro t v w s.1 s.2.1 s.2.2) l.length (fun i u m => m.lw = h.length ∧ m.lp = h.length ∧ Keep h m.h ∧ GV m.h h.length 3 1 u i (((slackL t l z).take i).map (AVal.i .i64))) ?_ ?_ l.length 0 .nsl ⟨h, h.length, h.length⟩ (by omega) ⟨rfl, rfl, Keep.refl h, GV.nil _ _ _ _⟩
      · obtain ⟨u, ⟨hq, lw, lp⟩, h1, g1, g2, g3, g4⟩ := hloop
        simp only at g1 g2 g3 g4
        subst g1 g2
        have e0 : ((0 : Nat) : Int) = 0 := rfl
        rw [e0] at h1
        have hrow := g4.row (ro := ro) (by rw [List.length_take, slackL_len]; omega)
        rw [List.take_of_length_le (by rw [slackL_len]; omega)] at hrow
        obtain ⟨y, f1, f2⟩ := fin_gen (h := h) (h' := hq) (v := tupA [u, .i .i64 0]) (l := h.length) (p := h.length) g3.1 g3.2
        refine ⟨u, h ++ y, g29_ok (meansX_ok F1 ro) rfl ?_, Keep.app _, ?_⟩
        · unfold g29
          simp only [meansX_call, hs, bindP_some, asI_i, forceB_eq, eqI_eq, beq_self_eq_true, Bool.not_true, cond_false, hh41, asB_b, meansX_loop, h1, bindO_some, f1]
          rfl
        · rcases g4 with ⟨rfl, h5, -⟩ | ⟨b, blk, rfl, h5, h6, -⟩
          · exact .inl ⟨rfl, by have := slackL_len t l z; exact List.length_eq_zero_iff.1 (by omega)⟩
          · have hb : (tupA [AVal.sl ⟨false, b, 0⟩ l.length .grow, .i .i64 0]).bel h.length = false := by
              have := not_bel (L := h.length) (b := b) (off := 0) (len := l.length) (cap := .grow) h6
              simp only [tupA, AVal.bel, bels] at this ⊢
              rw [this]; rfl
            rw [f2 hb]; exact hrow
      · rintro i u ⟨hq, lw, lp⟩ hi ⟨g1, g2, g3, g4⟩
        simp only at g1 g2 g3 g4
        subst g1 g2
        obtain ⟨q, q1, q2, q3, q4⟩ := at_span (a.by g3) hi
        have hs := ok.sp i hi
        have hsn : (slackL t l z).take (i + 1) = (slackL t l z).take i ++ [slackP t (l.getD i Sp.z) z] := take_map_snoc hi
        generalize hse : l.getD i Sp.z = s at *
        obtain ⟨i1, i2, i3, i4⟩ := spOk_in hs hh.1 r2
        have hc := callM_pure (slack53 (ro := ro) (h := hq) ⟨r1, r2⟩ (row_by r g3) hh.2 i1 i2 i3) (l := h.length) (p := h.length) g3.1 g3.1
        obtain ⟨v2, hp3, v3, hp4, u1, u2, u3, u4, u5⟩ := g4.push (ro := ro) (L0 := h.length) (bytes := 8) (z := [(AVal.i IntKind.i64 0)]) (w := .i .i64 (slackP t s z)) (ws := [.i .i64 (slackP t s z)]) (by omega) g3.1 (by omega) (by omega) (by omega) rfl rfl rfl rfl rfl
        refine ⟨v3, ⟨hp4, h.length, h.length⟩, ?_, rfl, rfl, ⟨Nat.le_trans g3.1 u4, fun k hk => by show hp4[k]? = _; rw [u5 k hk]; exact g3.2 k hk⟩, ?_⟩
        · simp only [g29_b0, len_spans (a.by g3), bindO_some, asI_i, forceB_eq, ltI_eq, lt_yes hi, cond_true, q1, q2, meansX_call, hc, bindP_some, u1, u2, forceI_eq]
          rw [wr_next (by omega)]
        · rw [hsn, List.map_append]; exact u3
      · rintro u ⟨hq, lw, lp⟩ ⟨g1, g2, g3, g4⟩
        simp only [g29_b0, len_spans (a.by g3), bindO_some, asI_i, forceB_eq, ltI_eq, lt_no, cond_false]
    · have e1 : slE t n l z = 2 := by simp only [slE, he, hh, if_true, if_false]
      have e2 : slR t n l z = [] := by simp only [slR, hh, and_false, if_false]
      rw [e1, e2]
      rw [decide_eq_false hh] at hh41
      refine ⟨.nsl, h, g29_ok (meansX_ok F1 ro) rfl ?_, Keep.refl h, .inl ⟨rfl, rfl⟩⟩
      unfold g29
      simp only [meansX_call, hs, bindP_some, asI_i, forceB_eq, eqI_eq, beq_self_eq_true, Bool.not_true, cond_false, hh41, asB_b, Bool.not_false, cond_true]
      exact fin _
  · have e1 : slE t n l z = rdE t n l := by simp only [slE, he, if_false]
    have e2 : slR t n l z = [] := by simp only [slR, he, false_and, if_false]
    rw [e1, e2]
    have e : (rdE t n l == 0) = false := by simpa using he
    refine ⟨.nsl, h, g29_ok (meansX_ok F1 ro) rfl ?_, Keep.refl h, .inl ⟨rfl, rfl⟩⟩
    unfold g29
    simp only [meansX_call, hs, bindP_some, asI_i, forceB_eq, eqI_eq, e, Bool.not_false, cond_true]
    exact fin _

theorem same19 {ro : List ABlk} {h : Heap} {a b : AVal} {x y : List Int} (ha : IsRow ro h a x) (hb : IsRow ro h b y) (hx : x.length ≤ 1000000) :
    callX F1 ro 19 [a, b] h = some (.b (decide (x = y)), h, h.length, h.length) := by
  refine g19_ok (meansX_ok F1 ro) rfl ?_
  unfold g19
  simp only [len_row ha, len_row hb, bindO_some, asI_i, forceB_eq, eqI_eq, meansX_loop]
  by_cases hl : x.length = y.length
  · have e : ((x.length : Int) == (y.length : Int)) = true := by simp [hl]
    simp only [e, Bool.not_true, cond_false]
    have hloop := loop_if (b := fun s => g19_b0 (meansX F1 ro) ro a b ⟨h, h.length, h.length⟩ s) (fun i => (i : Int)) x.length (fun i => x.getD i 0 = y.getD i 0) (.inl ()) (.inr false) ?_ ?_ ?_
    · have e0 : ((0 : Nat) : Int) = 0 := rfl
      rw [e0] at hloop
      rw [hloop]
      by_cases hxy : x = y
      · rw [if_pos (fun i _ => by rw [hxy])]
        simp only [bindO_some, hxy, decide_true, tupA]
        exact fin_pure rfl
      · rw [if_neg (fun hall => hxy (List.ext_getElem hl fun i h1 h2 => by have := hall i h1; simpa [List.getD, h1, h2] using this))]
        simp only [bindO_some, hxy, decide_false, tupA]
        exact fin_pure rfl
    · simp only [g19_b0, len_row ha, bindO_some, asI_i, forceB_eq, ltI_eq]
      simp
    · intro i hi hp
      obtain ⟨p, h1, h2, h3⟩ := at_row (m := ⟨h, h.length, h.length⟩) rfl ha hi
      obtain ⟨p', h1', h2', h3'⟩ := at_row (m := ⟨h, h.length, h.length⟩) rfl hb (by omega : i < y.length)
      have e := lt_yes hi
      have e2 : (!(x.getD i 0 == y.getD i 0)) = false := by rw [hp]; simp
      simp only [g19_b0, len_row ha, bindO_some, asI_i, forceB_eq, ltI_eq, e, cond_true, h1, h3, h1', h3', eqI_eq, e2, cond_false, forceI_eq]
      rw [wr_id' (by omega) (by omega)]
      rfl
    · intro i hi hp
      obtain ⟨p, h1, h2, h3⟩ := at_row (m := ⟨h, h.length, h.length⟩) rfl ha hi
      obtain ⟨p', h1', h2', h3'⟩ := at_row (m := ⟨h, h.length, h.length⟩) rfl hb (by omega : i < y.length)
      have e := lt_yes hi
      have e2 : (!(x.getD i 0 == y.getD i 0)) = true := by simpa using hp
      simp only [g19_b0, len_row ha, bindO_some, asI_i, forceB_eq, ltI_eq, e, cond_true, h1, h3, h1', h3', eqI_eq, e2]
  · have e : ((x.length : Int) == (y.length : Int)) = false := by simp; omega
    have hxy : ¬ (x = y) := fun e => hl (by rw [e])
    simp only [e, Bool.not_false, cond_true, hxy, decide_false, tupA]
    exact fin_pure rfl

theorem slR_len {t n : Int} {l : List Sp} {z : List Int} : (slR t n l z).length ≤ l.length := by
  unfold slR
  split
  · rw [slackL_len]; exact Nat.le_refl _
  · simp
/-- a call within a law -/
theorem lawM {ro : List ABlk} {h hp : Heap} {f : Nat} {vs : List AVal} {u : AVal} (e : callX F1 ro f vs h = some (u, hp, h.length, h.length)) : callM (callX F1 ro) ⟨h, 0, 0⟩ f vs = some (u, ⟨hp, 0, 0⟩) := by
  rw [callM_eq (m := ⟨h, 0, 0⟩) e]
  simp
theorem law4 {ro : List ABlk} {t n : Int} {v w : AVal} {l : List Sp} {z : List Int} (a : IsSpans ro [] v l) (r : IsRow ro [] w z) : ∃ h' lw lp, callX F1 ro 4 [.i .i64 t, .i .i64 n, v, w] [] = some (.b true, h', lw, lp) := by
  suffices h : ∃ q, g4 (meansX F1 ro) ro t n v w ⟨[], 0, 0⟩ = some q ∧ q.1 = .b true by
    obtain ⟨⟨u, h', lw, lp⟩, h1, rfl⟩ := h
    exact ⟨h', lw, lp, g4_ok (meansX_ok F1 ro) rfl h1⟩
  have hal : ∀ h : Heap, callM (callX F1 ro) ⟨h, 0, 0⟩ 16 [] = some (.b true, ⟨h, 0, 0⟩) := fun h => lawM alive_pure
  unfold g4
  simp only [meansX_call, lawM (few15 a r), bindP_some, asB_b, forceB_eq]
  by_cases hf : l.length ≤ 40 ∧ z.length ≤ 40
  · have h1 := is26 (t := t) (n := n) a r (by omega)
    have h2 := is27 (t := t) (n := n) a r
    obtain ⟨u, hp, h3, k3, i3⟩ := slack28 (t := t) (n := n) a r (by omega)
    obtain ⟨u', hp', h4, k4, i4⟩ := slack29 (t := t) (n := n) (a.by k3) (row_by r k3)
    have hsl := slR_len (t := t) (n := n) (l := l) (z := z)
    have h5 := same19 (row_by i3 k4) i4 (by omega)
    simp only [decide_true] at h5
    simp only [hf, and_self, decide_true, Bool.not_true, cond_false, lawM h1, lawM h2, bindP_some, ext0, ext1, bindO_some, asB_b, asI_i, beq_self_eq_true, eqI_eq, lawM h3, lawM h4, lawM h5, cond_true, hal]
    exact ⟨_, rfl, rfl⟩
  · have e : decide (l.length ≤ 40 ∧ z.length ≤ 40) = false := decide_eq_false hf
    rw [e]
    simp only [Bool.not_false, cond_true, hal, bindP_some, asB_b]
    exact ⟨_, rfl, rfl⟩
end Go.Proofs.YtddnpchfjdgigaaDoor.T

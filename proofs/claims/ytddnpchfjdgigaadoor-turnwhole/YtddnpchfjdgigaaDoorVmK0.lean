/- Contracts of the functions: what each of them answers. -/
import Derived.Test.YtddnpchfjdgigaaDoorVmGa0
import Derived.Test.YtddnpchfjdgigaaDoorVmGa1
import Derived.Test.YtddnpchfjdgigaaDoorVmGt
import Derived.Test.YtddnpchfjdgigaaDoorVmFO
import Derived.Test.YtddnpchfjdgigaaDoorRows
import Derived.WalkKit
import Derived.Lib.TrailingZeros
import Derived.Laws.Bits64b
import Derived.KernelRfl
import Derived.Test.YtddnpchfjdgigaaDoorVmAE
import Derived.Test.YtddnpchfjdgigaaDoorVmAG
import Derived.ProofKit
import Derived.OpenShut
import Derived.Carry
import Derived.Deep.Slices
import Derived.Lib.LaidTab
/- math/bits.TrailingZeros32: the model's call answers what the small machine knows beforehand. -/
open Go.Vm
set_option linter.unusedVariables false
namespace Go.Proofs.YtddnpchfjdgigaaDoor.T
open Go Go.RowKit

def TabAt (w : World) : Prop := ∀ j, j < 32 → w.cell? ⟨0, j, none⟩ = some (.int .u8 ((Lib.deBruijn32tab.getD j 0 : Nat) : Int))

theorem wrap_u32 (n : Int) : IntKind.u32.wrap n = n % 4294967296 := by simp [IntKind.wrap, IntKind.signed, IntKind.bits]
theorem and_u32 (a b : Nat) (ha : a < 4294967296) (hb : b < 4294967296) : Go.bits .and .u32 (a : Int) (b : Int) = ((a &&& b : Nat) : Int) := by
  have hx : a &&& b < 2 ^ 32 := Nat.and_lt_two_pow _ (by omega)
  have h1 : (BitVec.ofInt 32 (a : Int)).toNat = a := by
    rw [BitVec.ofInt_natCast, BitVec.toNat_ofNat]; exact Nat.mod_eq_of_lt (by omega)
  have h2 : (BitVec.ofInt 32 (b : Int)).toNat = b := by
    rw [BitVec.ofInt_natCast, BitVec.toNat_ofNat]; exact Nat.mod_eq_of_lt (by omega)
  show IntKind.u32.wrap ((BitVec.ofInt 32 (a : Int) &&& BitVec.ofInt 32 (b : Int)).toNat : Int) = _
  rw [BitVec.toNat_and, h1, h2, wrap_u32]
  omega

set_option maxHeartbeats 1000000 in
theorem tz_core (x k idx : Nat) (w : World) (hx0 : ((x : Int) == 0) = false)
    (key : Go.bits BinOp.and IntKind.u32 (x : Int) (-(x : Int) % 4294967296) * 125613361 % 4294967296 / 134217728 = (idx : Int))
    (hi : idx < 32) (hk : k < 32) (hcell : w.cell? ⟨0, idx, none⟩ = some (.int .u8 k)) :
    Calls Tryd.prog 79 #[.int .u32 x] w fun e w' => e = .returned (.int .i64 k) ∧ w' = w := by
  go_enter Tryd.func79, Tryd.ntmps79
  go_wp2_with (simp only [key])
  go_ret
  exact ⟨rfl, rfl⟩

theorem tz_zero (w : World) : Calls Tryd.prog 79 #[.int .u32 0] w fun e w' => e = .returned (.int .i64 32) ∧ w' = w := by
  go_enter Tryd.func79, Tryd.ntmps79
  go_wp2
  go_ret
  exact ⟨rfl, rfl⟩

theorem ctzF_eq : ∀ (k n : Nat), n ≠ 0 → ctzF k n = Lib.ctzFrom k n
  | 0, n, _ => rfl
  | k + 1, n, h => by
    have e1 : Nat.mod n 2 = n % 2 := rfl
    have e2 : Nat.div n 2 = n / 2 := rfl
    simp only [ctzF, Lib.ctzFrom, e1, e2]
    by_cases hm : n % 2 = 1
    · simp [hm]
    · have : Nat.beq (n % 2) 1 = false := by
        cases hb : Nat.beq (n % 2) 1
        · rfl
        · exact absurd (Nat.eq_of_beq_eq_true hb) hm
      rw [this, if_neg hm, cond_false, ctzF_eq k (n / 2) (by omega)]
      omega
theorem ctzF_ctz (n : Nat) : ctzF 32 n = Lib.ctz 32 n := by
  by_cases h : n = 0
  · subst h; rfl
  · rw [ctzF_eq 32 n h]; simp [Lib.ctz, h]

theorem tz_key (x a : Nat) (hx : x < 4294967296) (hx0 : x ≠ 0) (hlow : x &&& (4294967296 - x) = a) :
    Go.bits BinOp.and IntKind.u32 (x : Int) (-(x : Int) % 4294967296) * 125613361 % 4294967296 / 134217728 = ((a * 125613361 % 4294967296 / 134217728 : Nat) : Int) := by
  have e1 : -(x : Int) % 4294967296 = ((4294967296 - x : Nat) : Int) := by omega
  rw [e1, and_u32 x _ hx (by omega), hlow]
  omega

theorem tz_all (x : Nat) (hx : x < 4294967296) (w : World) (hT : TabAt w) : Calls Tryd.prog 79 #[.int .u32 x] w fun e w' => e = .returned (.int .i64 (ctzF 32 x : Nat)) ∧ w' = w := by
  rw [ctzF_ctz]
  by_cases hx0 : x = 0
  · subst hx0
    exact tz_zero w
  · obtain ⟨hlow, hk⟩ := Lib.lowest_bit 32 x hx0 hx
    obtain ⟨hi, htab⟩ := Lib.deBruijn32_at _ hk
    have hcell := hT _ hi
    rw [htab] at hcell
    exact tz_core x _ _ w (by simp; omega) (tz_key x _ hx hx0 hlow) hi hk hcell

theorem enters79 (args' : Array Value) (w : World) : (callFunc 79 args').run Tryd.prog w = .ok (.enter 79 args') w := by
  have hb : (Tryd.f79.name == "runtime.NumGoroutine") = false := by kernel_rfl
  have hc : Tryd.f79.body.isSome = true := by kernel_rfl
  obtain ⟨c, hc⟩ := Option.isSome_iff_exists.1 hc
  have hne : ¬ Tryd.f79.name = "runtime.NumGoroutine" := by simpa using hb
  simp [callFunc, Tryd.func79, hne, hc]
theorem tz_ok {B : Nat} {w0 : World} {ro : List ABlk} {rl : Rl} (hT : TabAt w0) (hB : 0 < B) : CallOk (Env.mk Tryd.prog B w0 ro rl) tzC := by
  intro f args h v h' lw lp hcl
  unfold tzC at hcl
  cases hb : Nat.beq f 79
  · rw [hb] at hcl; cases hcl
  rw [hb] at hcl
  have := Nat.eq_of_beq_eq_true hb
  subst this
  simp only [cond_true] at hcl
  split at hcl
  · rename_i x
    split at hcl
    · rename_i n
      cases hn : Nat.blt n 4294967296
      · rw [hn] at hcl; cases hcl
      rw [hn] at hcl
      rw [Nat.blt_eq] at hn
      simp only [cond_true, Option.some.injEq, Prod.mk.injEq] at hcl
      obtain ⟨rfl, rfl, rfl, rfl⟩ := hcl
      refine ⟨fun args' w => enters79 args' w, fun m w args' hr hl => ?_⟩
      have hargs : args' = #[.int .u32 (n : Int)] := by
        obtain ⟨h1, h2⟩ := hl
        have hv := h2 0 _ rfl
        have := hv.inv_i
        obtain ⟨l⟩ := args'
        match l, h1 with
        | [a], _ =>
          simp at this
          subst this
          rfl
      subst hargs
      have hT' : TabAt w := fun j hj => by
        rw [hr.below.cell (p := ⟨0, j, none⟩) hB]
        exact hT j hj
      refine Calls.mono (tz_all n hn w hT') fun e w' hq => ?_
      obtain ⟨rfl, rfl⟩ := hq
      refine ⟨_, rfl, m, ?_, Tn.refl hr _ _⟩
      rw [mkN_eq]
      exact .i _ _
    · cases hcl
  · cases hcl
end Go.Proofs.YtddnpchfjdgigaaDoor.T

/- From the small machine to the statement: lists of numbers and of spans in memory that is only read; what is known beforehand. -/
open Go.Vm
set_option linter.unusedVariables false
namespace Go.Proofs.YtddnpchfjdgigaaDoor.T
open Go Go.RowKit Go.Deep Go.WideShapes Go.ChangeShapes

/-- a list of elements of es numbers each, in memory -/
def IsFlat (ro : List ABlk) (h : Heap) (v : AVal) (es len : Nat) (Z : List Int) : Prop :=
  (v = .nsl ∧ len = 0) ∨ ∃ q cap blk, v = .sl q len cap ∧ rdB ro h q = some blk ∧ q.off + len * es ≤ blk.n ∧ ∀ j, j < len * es → blk.c.get (q.off + j) = .i .i64 (Z.getD j 0)

/-- what is read in the world of such a list -/
structure OpenF (W : World) (v0 : Value) (es len : Nat) (Z : List Int) : Prop where
  o : (v0 = .slice none 0 0 ∧ len = 0) ∨ ∃ (a : Addr) (cap : Nat), v0 = .slice (some a) len cap ∧ len ≤ cap ∧ Z.length = cap * es ∧ ∀ i, i < cap * es → a.block < W.heap.size ∧ W.cell? (a.add i) = some (.int .i64 (Z.getD i 0))
  len_le : len ≤ 9223372036854775807
  z : ∀ n ∈ Z, inI64 n

theorem cells3 : Tryd.prog.cellsOf 3 = 1 := by kernel_rfl
theorem cells31 : Tryd.prog.cellsOf 31 = 4 := by kernel_rfl
theorem cells5 : Tryd.prog.cellsOf 5 = 1 := by kernel_rfl
theorem cells102 : Tryd.prog.cellsOf 102 = 32 := by kernel_rfl
theorem laidOut : laidOutB Tryd.prog = true := by kernel_rfl
theorem own : ownKnob Tryd.prog.godebug = none := by kernel_rfl

section
variable {H : Type} {enc : TypeId × Value → H} {W : World} {v0 : Value} {d : DataW H} {p : List MemPlace}
theorem opened_ints (hs : ∃ a len cap, v0 = .slice a len cap) (h : DataW.Trod enc Tryd.prog W 0 (fun _ => true) true 25 v0 d p) : ∃ len Z, OpenF W v0 1 len Z := by
  obtain ⟨a0, len, cap, rfl⟩ := hs
  obtain ⟨fuel, hf⟩ := h
  have hml : maxLen = 9223372036854775807 := rfl
  rcases open_ints Tryd.underlying25 Tryd.underlying3 cells3 hf with ⟨hcs0, hx⟩ | ⟨a, len', cap', zs, hcs0, _, hl, hm, hz, hx, hcell, hw⟩
  · simp [Value.cells] at hcs0
    obtain ⟨rfl, rfl, rfl⟩ := hcs0
    exact ⟨0, [], .inl ⟨rfl, rfl⟩, by omega, by simp⟩
  · simp [Value.cells] at hcs0
    obtain ⟨rfl, rfl, rfl⟩ := hcs0
    simp only [if_true] at hz
    refine ⟨len, zs, .inr ⟨a, cap, rfl, hl, by omega, fun i hi => ?_⟩, by omega, fun n hn => wf_i64 (hw n hn)⟩
    have h1 := hcell i (by omega)
    exact ⟨World.block_lt_of_cell? _ _ h1 |> fun h => by simpa [addr_block] using h, h1⟩

theorem opened_spans (hs : ∃ a len cap, v0 = .slice a len cap) (h : DataW.Trod enc Tryd.prog W 0 (fun _ => true) true 22 v0 d p) : ∃ len Z, OpenF W v0 4 len Z := by
  obtain ⟨a0, len, cap, rfl⟩ := hs
  obtain ⟨fuel, hf⟩ := h
  have hml : maxLen = 9223372036854775807 := rfl
  rcases open_slice Tryd.underlying22 hf with ⟨hcs0, hx⟩ | ⟨a, len', cap', m, n, D, Pl, hcs0, _, hl, hm, hmm, hx, hel⟩
  · simp [Value.cells] at hcs0
    obtain ⟨rfl, rfl, rfl⟩ := hcs0
    exact ⟨0, [], .inl ⟨rfl, rfl⟩, by omega, by simp⟩
  · simp [Value.cells] at hcs0
    obtain ⟨rfl, rfl, rfl⟩ := hcs0
    simp only [if_true] at hmm
    subst hmm
    have each : ∀ i, i < m → ∃ y : Nat → Int, ∀ k, k < 4 → W.cell? (a.add (i * 4 + k)) = some (.int .i64 (y k)) ∧ inI64 (y k) := by
      intro i hi
      obtain ⟨cs', h1, h2⟩ := hel i hi
      rw [cells31] at h1
      obtain ⟨_, hlen, hcell⟩ := World.cells?_some h1
      obtain ⟨xs, k, hk, hxy, _, hxl, hfs⟩ := DataW.trod_struct Tryd.underlying31 h2
      have hxl' : xs.length = 4 := hxl
      have one : ∀ j, j < 4 → ∃ z : Int, W.cell? (a.add (i * 4 + j)) = some (.int .i64 z) ∧ inI64 z := by
        intro j hj
        have hf : ∃ nm b1 b2 b3 b4, (#[{ name := "From", type := 3, offset := 0, embedded := false, tag := "", pkgPath := "", byteOffset := 0 },
        { name := "To", type := 3, offset := 1, embedded := false, tag := "", pkgPath := "", byteOffset := 8 },
        { name := "Low", type := 3, offset := 2, embedded := false, tag := "", pkgPath := "", byteOffset := 16 },
        { name := "High", type := 3, offset := 3, embedded := false, tag := "", pkgPath := "", byteOffset := 24 }] : Array Field)[j]? = some { name := nm, type := 3, offset := j, embedded := b1, tag := b2, pkgPath := b3, byteOffset := b4 } := by
          match j, hj with
          | 0, _ => exact ⟨_, _, _, _, _, rfl⟩
          | 1, _ => exact ⟨_, _, _, _, _, rfl⟩
          | 2, _ => exact ⟨_, _, _, _, _, rfl⟩
          | 3, _ => exact ⟨_, _, _, _, _, rfl⟩
        obtain ⟨nm, b1, b2, b3, b4, hf⟩ := hf
        have h3 := hfs j _ hf
        simp only [cells3] at h3
        have hx : xs[j]? = some xs[j] := List.getElem?_eq_getElem (by omega)
        rw [hx] at h3
        obtain ⟨z, e1, -, e2⟩ := DataW.trod_int Tryd.underlying3 h3
        refine ⟨z, ?_, wf_i64 e2⟩
        have h4 := hcell j hj
        rw [addr_addadd] at h4
        rw [h4]
        have h5 : ((cs'.drop j).take 1)[0]? = some (.int .i64 z) := by rw [e1]; rfl
        simpa [List.getElem?_take, List.getElem?_drop] using h5
      obtain ⟨y, hy⟩ := choose_lt (α := Int) (p := fun j z => W.cell? (a.add (i * 4 + j)) = some (.int .i64 z) ∧ inI64 z) one
      exact ⟨y, hy⟩
    obtain ⟨y, hy⟩ := choose_lt (α := Nat → Int) (p := fun i y => ∀ k, k < 4 → W.cell? (a.add (i * 4 + k)) = some (.int .i64 (y k)) ∧ inI64 (y k)) each
    refine ⟨len, (List.range (m * 4)).map fun k => y (k / 4) (k % 4), .inr ⟨a, m, rfl, hl, by simp, fun i hi => ?_⟩, by omega, fun n hn => ?_⟩
    · obtain ⟨h1, h2⟩ := hy (i / 4) (by omega) (i % 4) (by omega)
      rw [show i / 4 * 4 + i % 4 = i by omega] at h1
      have e : ((List.range (m * 4)).map fun k => y (k / 4) (k % 4)).getD i 0 = y (i / 4) (i % 4) := by simp [List.getD, hi]
      rw [e]
      exact ⟨World.block_lt_of_cell? _ _ h1 |> fun h => by simpa [addr_block] using h, h1⟩
    · obtain ⟨k, hk, rfl⟩ := List.mem_map.1 hn
      have hk := List.mem_range.1 hk
      exact (hy (k / 4) (by omega) (k % 4) (by omega)).2
end

/-- of an argument: read-only memory for it -/
theorem ro_of {W : World} {v0 : Value} {es len : Nat} {Z : List Int} (h : OpenF W v0 es len Z) (pre : List ABlk) (prl : Rl) (hp : pre.length = prl.length) : ∃ (ro : List ABlk) (rl : Rl) (v : AVal), ro.length = rl.length ∧
    (∀ x y h, IsFlat (pre ++ ro ++ x) h v es len Z ∧ VR (prl ++ rl ++ y) [] v v0) ∧
    ∀ (i : Nat) (b : ABlk), ro[i]? = some b → ∃ x, rl[i]? = some x ∧ ∀ j, j < b.n → x.block < W.heap.size ∧ ∃ v', W.cell? (x.add j) = some v' ∧ ∀ y, VR y [] (b.c.get j) v' := by
  rcases h.o with ⟨rfl, rfl⟩ | ⟨a, cap, rfl, hcap, hlen, hcell⟩
  · exact ⟨[], [], .nsl, rfl, fun x y h => ⟨.inl ⟨rfl, rfl⟩, .nsl⟩, fun i b hb => by simp at hb⟩
  · have hget : ∀ j, j < cap * es → (Tr.mk (Z.map (AVal.i .i64))).get j = .i .i64 (Z.getD j 0) := fun j hj => by
      rw [get_mk]; simp [List.getD, show j < Z.length by omega]
    refine ⟨[⟨0, cap * es, Tr.mk (Z.map (AVal.i .i64)), none⟩], [a], .sl ⟨true, pre.length, 0⟩ len (.known cap), rfl, fun x y h => ⟨.inr ⟨⟨true, pre.length, 0⟩, .known cap, ⟨0, cap * es, Tr.mk (Z.map (AVal.i .i64)), none⟩, rfl, ?_, ?_, fun j hj => ?_⟩, ?_⟩, fun i b hb => ?_⟩
    · simp only [rdB, cond_true, lget_eq, List.append_assoc]
      rw [List.getElem?_append_right (Nat.le_refl _)]; simp
    · have := Nat.mul_le_mul_right es hcap
      simpa using this
    · have := Nat.mul_le_mul_right es hcap
      have := hget j (by omega)
      simpa using this
    · refine .slk _ _ _ _ ?_
      show (((prl ++ [a] ++ y)[pre.length]?).map fun x => x.add 0) = some a
      rw [List.append_assoc, List.getElem?_append_right (by omega), hp]; simp [Addr.add]
    · cases i with
      | zero =>
        simp at hb
        subst hb
        refine ⟨a, rfl, fun j hj => ?_⟩
        obtain ⟨h1, h2⟩ := hcell j hj
        refine ⟨h1, _, h2, fun y => ?_⟩
        have := hget j hj
        simp only [this]
        exact .i _ _
      | succ i => simp at hb

theorem env_ok {W : World} {ro : List ABlk} {rl : Rl} (h : ∀ (i : Nat) (b : ABlk), ro[i]? = some b → ∃ x, rl[i]? = some x ∧ ∀ j, j < b.n → x.block < W.heap.size ∧ ∃ v', W.cell? (x.add j) = some v' ∧ VR rl [] (b.c.get j) v') :
    (Env.mk Tryd.prog W.heap.size W ro rl).Ok := ⟨fun i b hb => h i b hb, Nat.le_refl _⟩
/-- two together -/
theorem ro_two {W : World} {ro ro' : List ABlk} {rl rl' : Rl} (hl : ro.length = rl.length)
    (h : ∀ (i : Nat) (b : ABlk), ro[i]? = some b → ∃ x, rl[i]? = some x ∧ ∀ j, j < b.n → x.block < W.heap.size ∧ ∃ v', W.cell? (x.add j) = some v' ∧ ∀ y, VR y [] (b.c.get j) v')
    (h' : ∀ (i : Nat) (b : ABlk), ro'[i]? = some b → ∃ x, rl'[i]? = some x ∧ ∀ j, j < b.n → x.block < W.heap.size ∧ ∃ v', W.cell? (x.add j) = some v' ∧ ∀ y, VR y [] (b.c.get j) v') :
    ∀ (i : Nat) (b : ABlk), (ro ++ ro')[i]? = some b → ∃ x, (rl ++ rl')[i]? = some x ∧ ∀ j, j < b.n → x.block < W.heap.size ∧ ∃ v', W.cell? (x.add j) = some v' ∧ ∀ y, VR y [] (b.c.get j) v' := by
  intro i b hb
  rcases Nat.lt_or_ge i ro.length with hi | hi
  · rw [List.getElem?_append_left hi] at hb
    obtain ⟨x, h1, h2⟩ := h i b hb
    exact ⟨x, by rw [List.getElem?_append_left (by omega)]; exact h1, h2⟩
  · rw [List.getElem?_append_right hi] at hb
    obtain ⟨x, h1, h2⟩ := h' _ b hb
    exact ⟨x, by rw [List.getElem?_append_right (by omega), ← hl]; exact h1, h2⟩

abbrev F1 : Tab := ⟨F, orC (known0 16 (.b true)) tzC⟩

/-- the call of the model: true, and below nothing has turned -/
theorem call_of {W : World} {ro : List ABlk} {rl : Rl} (hT : TabAt W) (hE : (Env.mk Tryd.prog W.heap.size W ro rl).Ok) {K : Nat} {vs : List AVal} {args : Array Value}
    (hv : LR rl [] vs args) {h' : Heap} {lw lp : Nat} (hc : callX F1 ro K vs [] = some (.b true, h', lw, lp)) : Calls Tryd.prog K args W fun e W' => e = .returned (.bool true) ∧ Below W.heap.size W W' := by
  have hm : (Env.mk Tryd.prog W.heap.size W ro rl).P.follows .mixedOrders = true := Tryd.checked.mixed
  have hB : 0 < W.heap.size := by
    have := World.block_lt_of_cell? _ _ (hT 0 (by omega))
    exact this
  have hA : CallOk (Env.mk Tryd.prog W.heap.size W ro rl) (known0 16 (.b true)) := known0_ok (callX_sound (E := (Env.mk Tryd.prog W.heap.size W ro rl).bare) (Env.bare_ok hE) hm (F := ⟨F, tzC⟩) fok (tz_ok hT hB)) alive0 rfl
  have hO : CallOk (Env.mk Tryd.prog W.heap.size W ro rl) (orC (known0 16 (.b true)) tzC) := or_ok hA (tz_ok hT hB)
  obtain ⟨-, h2⟩ := callX_sound hE hm (F := F1) fok hO K vs [] _ _ _ _ hc
  refine Calls.mono (h2 [] W args ⟨Below.refl _ _, rfl, by simp, fun i b r K hl => by simp [Live] at hl, fun i j b b' r K K' hl => by simp [Live] at hl⟩ hv) fun e w' hq => ?_
  obtain ⟨v', rfl, m', hvr, T⟩ := hq
  exact ⟨by rw [hvr.inv_b], T.hr.below⟩

theorem tabLaid {W : World} (h : laidMet Tryd.prog [("math/bits.deBruijn32tab", Rows.laid_math_bits_deBruijn32tab)] W) : TabAt W := by
  have gT : Tryd.prog.globalNamed "math/bits.deBruijn32tab" = some 0 := by kernel_rfl
  have gTy : (Tryd.prog.globals[0]?).map (·.type) = some 102 := by kernel_rfl
  have hI : Lib.TabIs Tryd.prog W "math/bits.deBruijn32tab" .u8 (Lib.deBruijn32tab.map fun n : Nat => (n : Int)) := Lib.tabIs_of_head (rest := []) gT gTy Tryd.underlying102 Tryd.underlying5 cells5 cells102 h
  intro j hj
  have := hI.cell gT j (by simpa [Lib.deBruijn32tab] using hj)
  rw [this]
  have : (Lib.deBruijn32tab.map fun n : Nat => (n : Int)).getD j 0 = ((Lib.deBruijn32tab.getD j 0 : Nat) : Int) := by
    simp only [List.getD_eq_getElem?_getD, List.getElem?_map]
    cases Lib.deBruijn32tab[j]? <;> rfl
  rw [this]
end Go.Proofs.YtddnpchfjdgigaaDoor.T

/- Blocks that a function makes for itself; spans; remainders. -/
open Go.Vm
set_option linter.unusedVariables false
namespace Go.Proofs.YtddnpchfjdgigaaDoor.T
open Go

/-- a block of the heap that holds these values -/
def Holds (hp : Heap) (b : Nat) (vs : List AVal) : Prop := ∃ blk : ABlk, lget hp b = some (some blk) ∧ blk.n = vs.length ∧ ∀ j, j < vs.length → blk.c.get j = vs.getD j und
/-- what was there is still there -/
def Keep (h hp : Heap) : Prop := h.length ≤ hp.length ∧ ∀ i, i < h.length → hp[i]? = h[i]?

section
variable {ro : List ABlk} {h hp hp' : Heap} {b k e n l p : Nat} {vs : List AVal}
theorem Keep.refl (h : Heap) : Keep h h := ⟨Nat.le_refl _, fun _ _ => rfl⟩
theorem Keep.trans {h1 : Heap} (a : Keep h h1) (c : Keep h1 hp) : Keep h hp := ⟨Nat.le_trans a.1 c.1, fun i hi => by rw [c.2 i (by have := a.1; omega), a.2 i hi]⟩
theorem Keep.app (x : Heap) : Keep h (h ++ x) := ⟨by simp, fun i hi => List.getElem?_append_left hi⟩
theorem Keep.set (a : Keep h hp) (hb : h.length ≤ b) (x : Option ABlk) : Keep h (hp.set b x) := ⟨by simpa using a.1, fun i hi => by rw [List.getElem?_set_ne (by omega)]; exact a.2 i hi⟩
theorem Keep.eq (a : Keep h hp) : hp.take h.length = h := by
  refine List.ext_getElem? fun i => ?_
  rcases Nat.lt_or_ge i h.length with hi | hi
  · rw [List.getElem?_take_of_lt hi, a.2 i hi]
  · rw [List.getElem?_eq_none (by simp; omega), List.getElem?_eq_none hi]
theorem fin_keep {v : AVal} (a : Keep h hp) (hv : v.bel h.length = true) : finM h.length v ⟨hp, h.length, h.length⟩ = some (v, h, h.length, h.length) := by
  rw [fin_take hv, a.eq]
theorem Holds.lt (a : Holds hp b vs) : b < hp.length := by obtain ⟨blk, h1, -⟩ := a; exact lget_lt h1
theorem Holds.new (hp : Heap) (e : Nat) (vs : List AVal) : Holds (hp ++ [some (blkOf e vs)]) hp.length vs := ⟨_, lget_last _ _, rfl, fun j _ => get_blk e vs j⟩
theorem Holds.keep (a : Holds hp b vs) (hk : hp'[b]? = hp[b]?) : Holds hp' b vs := by
  obtain ⟨blk, h1, h2⟩ := a
  exact ⟨blk, by rw [lget_of hk]; exact h1, h2⟩
theorem Holds.ext (a : Holds hp b vs) (x : Heap) : Holds (hp ++ x) b vs := a.keep (List.getElem?_append_left a.lt)
theorem Holds.by (a : Holds hp b vs) (k : Keep hp hp') : Holds hp' b vs := a.keep (k.2 b a.lt)
theorem Holds.one (a : Holds hp b vs) (hk : k < vs.length) : ldM ro ⟨hp, l, p⟩ true 1 (.p (some ⟨false, b, 0 + k⟩)) = some (vs.getD k und) := by
  obtain ⟨blk, h1, h2, h3⟩ := a
  rw [ld_heap rfl h1 (by omega), ← h3 k hk, Nat.zero_add]
theorem Holds.oneA (a : Holds hp b vs) (hk : k < vs.length) : ldA ro hp true 1 (.p (some ⟨false, b, 0 + k⟩)) = some (vs.getD k und) := by
  obtain ⟨blk, h1, h2, h3⟩ := a
  rw [lda_heap h1 (by omega), ← h3 k hk, Nat.zero_add]
theorem row_list {t : Tr} : ∀ (vs : List AVal) (i : Nat), (∀ j, j < vs.length → t.get (i + j) = vs.getD j und) → t.row i vs.length = vs
  | [], i, _ => rfl
  | v :: vs, i, h => by
    simp only [List.length_cons, Tr.row]
    rw [show t.get i = v by simpa using h 0 (by simp), row_list vs (i + 1) fun j hj => by have := h (j + 1) (by simp; omega); rw [show i + 1 + j = i + (j + 1) by omega, this]; simp]
theorem Holds.rd (a : Holds hp b vs) (hn : n = vs.length) : Go.Vm.rd ro hp false n ⟨false, b, 0⟩ = some (.agg vs) := by
  subst hn
  obtain ⟨blk, h1, h2, h3⟩ := a
  have hc : Nat.ble (0 + vs.length) blk.n = true := by rw [Nat.ble_eq]; omega
  simp only [Go.Vm.rd, rdB_heap h1, cond_false, hc, cond_true]
  rw [row_list vs 0 fun j hj => by rw [Nat.zero_add]; exact h3 j hj]
theorem Holds.all (a : Holds hp b vs) (hn : n = vs.length) : ldM ro ⟨hp, l, p⟩ false n (.p (some ⟨false, b, 0⟩)) = some (.agg vs) := by
  simp only [ldM, a.rd hn]
theorem Holds.allA (a : Holds hp b vs) (hn : n = vs.length) : ldA ro hp false n (.p (some ⟨false, b, 0⟩)) = some (.agg vs) := by
  have h1 : (false || Nat.blt b hp.length) = true := by
    have := a.lt
    simpa [Nat.blt_eq] using this
  simp only [ldA, h1, cond_true, a.rd hn]
theorem spliceGet (t : Tr) : ∀ (vs : List AVal) (i j : Nat), (t.splice i vs).get j = if i ≤ j ∧ j < i + vs.length then vs.getD (j - i) und else t.get j
  | [], i, j => by simp [Tr.splice]; intro h1 h2; omega
  | v :: vs, i, j => by
    rw [Tr.splice, spliceGet (t.set i v) vs (i + 1) j, get_set]
    by_cases e : i = j
    · subst e
      rw [if_neg (by omega), if_pos rfl, if_pos (by simp)]; simp
    · by_cases h2 : i ≤ j ∧ j < i + (v :: vs).length
      · have h3 : i + 1 ≤ j ∧ j < i + 1 + vs.length := by simp at h2; omega
        rw [if_pos h2, if_pos h3]
        obtain ⟨q, rfl⟩ : ∃ q, j = i + 1 + q := ⟨j - (i + 1), by omega⟩
        rw [show i + 1 + q - i = q + 1 by omega, show i + 1 + q - (i + 1) = q by omega]
        simp
      · have h3 : ¬ (i + 1 ≤ j ∧ j < i + 1 + vs.length) := by simp at h2; omega
        rw [if_neg h2, if_neg h3, if_neg e]
theorem wrH_all {blk : ABlk} (hb : lget hp b = some (some blk)) (hn : vs.length ≤ blk.n) (ho : ones vs = true) : wrH hp ⟨false, b, 0⟩ vs = some (hp.set b (some { blk with c := blk.c.splice 0 vs })) := by
  have : (Nat.ble (0 + vs.length) blk.n && ones vs) = true := by rw [ho, Bool.and_true, Nat.ble_eq]; omega
  simp only [wrH, cond_false, hb, this, cond_true, lset_eq]
/-- a block is written whole -/
theorem Holds.st {vs' : List AVal} {v : AVal} (a : Holds hp b vs) (hv : v.cells = vs') (hn : n = vs'.length) (hl : vs'.length = vs.length) (ho : ones vs' = true) (hL : h.length ≤ b) (kp : Keep h hp) :
    ∃ hp', stepM ro ⟨hp, h.length, h.length⟩ (.st n (.c (.p (some ⟨false, b, 0⟩))) (.c v)) = some (und, ⟨hp', h.length, h.length⟩) ∧ Holds hp' b vs' ∧ hp'.length = hp.length ∧ (∀ i, i ≠ b → hp'[i]? = hp[i]?) ∧ Keep h hp' := by
  obtain ⟨blk, h1, h2, h3⟩ := a
  subst hv hn
  have hw := wrH_all h1 (vs := v.cells) (by omega) ho
  refine ⟨hp.set b (some { blk with c := blk.c.splice 0 v.cells }), ?_, ⟨_, lget_set h1 _, by simpa using (h2.trans hl.symm), fun j hj => ?_⟩, by simp, fun i hi => List.getElem?_set_ne (Ne.symm hi), kp.set hL _⟩
  · have hbq : Nat.beq v.cells.length v.cells.length = true := Nat.beq_refl _
    have e : (cond (nonp v.cells) h.length h.length) = h.length := by cases nonp v.cells <;> rfl
    simp only [stepM, stepK, opd, st_st, hbq, cond_true, hw, St.mm, Nat.min_eq_left hL, e]
  · show (blk.c.splice 0 v.cells).get j = _
    rw [spliceGet, if_pos (by omega)]; simp
theorem al_ok (e : Nat) (z : List AVal) : stepM ro ⟨hp, l, p⟩ (.al e z) = some (.p (some ⟨false, hp.length, 0⟩), ⟨hp ++ [some (blkOf e z)], l, p⟩) := rfl
theorem bx_ok (e : Nat) (hn : vs.length = n) : stepM ro ⟨hp, l, p⟩ (.bx e n (.c (.agg vs))) = some (.p (some ⟨false, hp.length, 0⟩), ⟨hp ++ [some (blkOf e vs)], l, p⟩) := by
  subst hn
  have hbq : Nat.beq vs.length vs.length = true := Nat.beq_refl _
  simp only [stepM, stepK, opd, st_bx, AVal.cells, hbq, cond_true, newB, St.mm]
end

/- remainders -/
theorem tmod_add {x t : Int} (ht : 1 ≤ t) : Int.tmod (Int.tmod x t + t) t = x % t := by
  have h1 : -t < Int.tmod x t ∧ Int.tmod x t < t := by
    constructor
    · have := Int.lt_tmod_of_pos x (show 0 < t by omega); omega
    · exact Int.tmod_lt_of_pos x (by omega)
  have h2 : Int.tmod x t = x - t * Int.tdiv x t := by have := Int.mul_tdiv_add_tmod x t; omega
  rw [Int.tmod_eq_emod_of_nonneg (by omega), h2]
  rw [show x - t * x.tdiv t + t = x + t * (1 - x.tdiv t) by rw [Int.mul_sub]; omega, Int.add_mul_emod_self_left]
theorem tmod_rng {x t : Int} (ht : 1 ≤ t) (h24 : t ≤ 24) : inI64 (Int.tmod x t + t) := by
  have h3 := Int.lt_tmod_of_pos x (show 0 < t by omega)
  have h4 := Int.tmod_lt_of_pos x (show 0 < t by omega)
  constructor <;> omega
theorem eqI_pos {t : Int} (ht : 1 ≤ t) : (!eqI t (.ofNat 0)) = true := by
  rw [eqI_eq]; simp; omega
abbrev demV (t n : Int) (v : AVal) : AVal := .agg [.i .i64 t, .i .i64 n, v]
theorem mod70 {ro : List ABlk} {h : Heap} {x t n : Int} {v : AVal} (ht : 1 ≤ t) (h24 : t ≤ 24) : callX F1 ro 70 [demV t n v, .i .i64 x] h = some (.i .i64 (x % t), h, h.length, h.length) := by
  refine g70_ok (meansX_ok F1 ro) rfl ?_
  unfold g70
  have hb := Holds.new h 55 [.i .i64 t, .i .i64 n, v]
  have h0 := hb.oneA (ro := ro) (k := 0) (by simp)
  have hbx : stepM ro ⟨h, h.length, h.length⟩ (.bx 55 3 (.c (demV t n v))) = _ := bx_ok (vs := [.i .i64 t, .i .i64 n, v]) 55 rfl
  rw [hbx]
  simp only [bindP_some, p_faddr, bindO_some, Nat.zero_add, Nat.add_zero] at h0 ⊢
  simp only [h0, List.getD_cons_zero, bindO_some, asI_i, eqI_pos ht, chk_true, forceI_eq, wr_id (tmod_rng ht h24), tmod_add ht, tupA]
  exact fin_drop rfl

/- spans -/
structure Sp where
  f : Int
  t : Int
  lo : Int
  hi : Int
def Sp.z : Sp := ⟨0, 0, 0, 0⟩
def Sp.fits (s : Sp) : Prop := inI64 s.f ∧ inI64 s.t ∧ inI64 s.lo ∧ inI64 s.hi
abbrev Sp.vs (s : Sp) : List AVal := [.i .i64 s.f, .i .i64 s.t, .i .i64 s.lo, .i .i64 s.hi]
abbrev Sp.v (s : Sp) : AVal := .agg s.vs
def IsSpans (ro : List ABlk) (h : Heap) (v : AVal) (l : List Sp) : Prop :=
  (v = .nsl ∧ l = []) ∨ ∃ q cap blk, v = .sl q l.length cap ∧ rdB ro h q = some blk ∧ q.off + l.length * 4 ≤ blk.n ∧
    ∀ j, j < l.length → ∀ k, k < 4 → blk.c.get (q.off + j * 4 + k) = (l.getD j Sp.z).vs.getD k und
def spansOf (len : Nat) (Z : List Int) : List Sp := (List.range len).map fun i => ⟨Z.getD (i * 4) 0, Z.getD (i * 4 + 1) 0, Z.getD (i * 4 + 2) 0, Z.getD (i * 4 + 3) 0⟩
theorem spans_of {ro : List ABlk} {h : Heap} {v : AVal} {len : Nat} {Z : List Int} (a : IsFlat ro h v 4 len Z) : IsSpans ro h v (spansOf len Z) := by
  rcases a with ⟨rfl, rfl⟩ | ⟨q, cap, blk, rfl, hb, hn, hc⟩
  · exact .inl ⟨rfl, rfl⟩
  · refine .inr ⟨q, cap, blk, by simp [spansOf], hb, by simpa [spansOf] using hn, fun j hj k hk => ?_⟩
    have hj : j < len := by simpa [spansOf] using hj
    have e : (spansOf len Z).getD j Sp.z = ⟨Z.getD (j * 4) 0, Z.getD (j * 4 + 1) 0, Z.getD (j * 4 + 2) 0, Z.getD (j * 4 + 3) 0⟩ := by simp [spansOf, List.getD, hj]
    rw [e, Nat.add_assoc, hc (j * 4 + k) (by omega)]
    match k, hk with
    | 0, _ => rfl
    | 1, _ => rfl
    | 2, _ => rfl
    | 3, _ => rfl
theorem row_of {ro : List ABlk} {h : Heap} {v : AVal} {len : Nat} {Z : List Int} (a : IsFlat ro h v 1 len Z) (hl : len = 0 ∨ len ≤ Z.length) : IsRow ro h v (Z.take len) := by
  rcases a with ⟨rfl, rfl⟩ | ⟨q, cap, blk, rfl, hb, hn, hc⟩
  · exact .inl ⟨rfl, by simp⟩
  · have hlen : (Z.take len).length = len := by simp; omega
    refine .inr ⟨q, cap, blk, by rw [hlen], hb, by rw [hlen]; simpa using hn, fun j hj => ?_⟩
    rw [hlen] at hj
    rw [hc j (by omega)]
    simp [List.getD, List.getElem?_take, hj]

section
variable {ro : List ABlk} {h : Heap} {v : AVal} {l : List Sp}
theorem IsSpans.ext (x : Heap) (a : IsSpans ro h v l) : IsSpans ro (h ++ x) v l := by
  rcases a with h0 | ⟨q, cap, blk, e, hb, h1, h2⟩
  · exact .inl h0
  · exact .inr ⟨q, cap, blk, e, rdB_ext x hb, h1, h2⟩
theorem IsSpans.by {hp : Heap} (a : IsSpans ro h v l) (k : Keep h hp) : IsSpans ro hp v l := by
  rw [take_eq k.1 k.2]; exact a.ext _
theorem row_by {hp : Heap} {z : List Int} (a : IsRow ro h v z) (k : Keep h hp) : IsRow ro hp v z := by
  rw [take_eq k.1 k.2]; exact a.ext _
theorem IsSpans.bel (a : IsSpans ro h v l) : v.bel h.length = true := by
  rcases a with ⟨rfl, rfl⟩ | ⟨q, cap, blk, rfl, hb, h1, h2⟩
  · rfl
  · simpa [AVal.bel] using rdB_lt hb
theorem len_spans (a : IsSpans ro h v l) : evP .e (.len false (.c v)) = some (.i .i64 l.length) := by
  rcases a with ⟨rfl, rfl⟩ | ⟨q, cap, blk, rfl, -⟩
  · rfl
  · simp [evP, ev_len, opd, mkI_eq]
/-- the place of a span, and what lies there -/
theorem at_span (a : IsSpans ro h v l) {i : Nat} (hi : i < l.length) : ∃ q : Vm.Loc, evP .e (.ixS 4 (.c v) (.c (.i .i64 (i : Int)))) = some (.p (some q)) ∧ (∀ lw lp, ldM ro ⟨h, lw, lp⟩ false 4 (.p (some q)) = some (l.getD i Sp.z).v) ∧ ldA ro h false 4 (.p (some q)) = some (l.getD i Sp.z).v ∧
    ∀ k, k < 4 → ldA ro h true 1 (.p (some ⟨q.ro, q.b, q.off + k⟩)) = some ((l.getD i Sp.z).vs.getD k und) ∧ ∀ lw lp, ldM ro ⟨h, lw, lp⟩ true 1 (.p (some ⟨q.ro, q.b, q.off + k⟩)) = some ((l.getD i Sp.z).vs.getD k und) := by
  rcases a with ⟨rfl, rfl⟩ | ⟨q, cap, blk, rfl, hb, hn, hc⟩
  · simp at hi
  · have hblt : Nat.blt i l.length = true := by rw [Nat.blt_eq]; exact hi
    have e : ((i : Int)) = Int.ofNat i := rfl
    have hb' : rdB ro h ⟨q.ro, q.b, q.off + i * 4⟩ = some blk := hb
    have hc4 : Nat.ble (q.off + i * 4 + 4) blk.n = true := by rw [Nat.ble_eq]; omega
    have hrow : blk.c.row (q.off + i * 4) 4 = (l.getD i Sp.z).vs := row_list (t := blk.c) (l.getD i Sp.z).vs (q.off + i * 4) fun j hj => hc i hi j hj
    have hrd : rd ro h false 4 ⟨q.ro, q.b, q.off + i * 4⟩ = some (l.getD i Sp.z).v := by
      simp only [rd, hb', cond_false, hc4, cond_true, hrow]
    have hlt := rdB_lt hb
    refine ⟨⟨q.ro, q.b, q.off + i * 4⟩, ?_, fun lw lp => hrd, ?_, fun k hk => ?_⟩
    · simp only [evP, ev_ixS, opd, e, atI, hblt, cond_true]
    · simp only [ldA, hlt, cond_true, hrd]
    · have h1 : rd ro h true 1 ⟨q.ro, q.b, q.off + i * 4 + k⟩ = some ((l.getD i Sp.z).vs.getD k und) := by
        have hb2 : rdB ro h ⟨q.ro, q.b, q.off + i * 4 + k⟩ = some blk := hb
        have : Nat.blt (q.off + i * 4 + k) blk.n = true := by rw [Nat.blt_eq]; omega
        simp only [rd, hb2, cond_true, this, hc i hi k hk]
      exact ⟨by simp only [ldA, hlt, cond_true, h1], fun lw lp => h1⟩
end
theorem ext0 (a : AVal) (l : List AVal) : evP .e (.ext 0 (.c (.tup (a :: l)))) = some a := rfl
theorem ext1 (a b : AVal) (l : List AVal) : evP .e (.ext 1 (.c (.tup (a :: b :: l)))) = some b := rfl
theorem ext2 (a b c : AVal) (l : List AVal) : evP .e (.ext 2 (.c (.tup (a :: b :: c :: l)))) = some c := rfl
theorem ext3 (a b c d : AVal) (l : List AVal) : evP .e (.ext 3 (.c (.tup (a :: b :: c :: d :: l)))) = some d := rfl
theorem ext4 (a b c d e : AVal) (l : List AVal) : evP .e (.ext 4 (.c (.tup (a :: b :: c :: d :: e :: l)))) = some e := rfl
end Go.Proofs.YtddnpchfjdgigaaDoor.T

/- What is a round, events and spans: the program's read and allows, the specification's Spans. -/
open Go.Vm
set_option linter.unusedVariables false
namespace Go.Proofs.YtddnpchfjdgigaaDoor.T
open Go

theorem bindO_or {β : Type} {c d : Bool} {k : Bool → Option β} : bindO (cond c (some true) (some d)) k = k (c || d) := by cases c <;> rfl
theorem bindO_and {β : Type} {c d : Bool} {k : Bool → Option β} : bindO (cond c (some d) (some false)) k = k (c && d) := by cases c <;> rfl

/-- is a span valid? -/
def spOk (t n : Int) (s : Sp) : Prop := s.f ≠ s.t ∧ 0 ≤ s.f ∧ s.f < n ∧ 0 ≤ s.t ∧ s.t < n ∧ -600 ≤ s.lo ∧ s.lo ≤ 600 ∧ s.lo ≤ s.hi ∧ s.hi ≤ s.lo + t - 1
instance (t n : Int) (s : Sp) : Decidable (spOk t n s) := inferInstanceAs (Decidable (_ ∧ _))
def rOk (t n : Int) : Prop := 1 ≤ t ∧ t ≤ 24 ∧ 1 ≤ n ∧ n ≤ 6
instance (t n : Int) : Decidable (rOk t n) := inferInstanceAs (Decidable (_ ∧ _))
/-- the error of a round, events and spans -/
def rdE (t n : Int) (l : List Sp) : Int := if rOk t n then if l.length ≤ 20 then if (∀ i, i < l.length → spOk t n (l.getD i Sp.z)) then 0 else 2 else 3 else 2

theorem allows60 {ro : List ABlk} {h : Heap} {t n : Int} {v : AVal} {s : Sp} (hr : rOk t n) : callX F1 ro 60 [demV t n v, s.v] h = some (.b (decide (spOk t n s)), h, h.length, h.length) := by
  refine g60_ok (meansX_ok F1 ro) rfl ?_
  unfold g60
  have hb1 : stepM ro ⟨h, h.length, h.length⟩ (.bx 55 3 (.c (demV t n v))) = _ := bx_ok (vs := [.i .i64 t, .i .i64 n, v]) 55 rfl
  have hb2 : stepM ro ⟨h ++ [some (blkOf 55 [.i .i64 t, .i .i64 n, v])], h.length, h.length⟩ (.bx 31 4 (.c s.v)) = _ := bx_ok (vs := s.vs) 31 rfl
  have d1 := (Holds.new h 55 [.i .i64 t, .i .i64 n, v]).ext [some (blkOf 31 s.vs)]
  have d2 := Holds.new (h ++ [some (blkOf 55 [.i .i64 t, .i .i64 n, v])]) 31 s.vs
  have a0 := d1.one (ro := ro) (l := h.length) (p := h.length) (k := 0) (by simp)
  have a1 := d1.one (ro := ro) (l := h.length) (p := h.length) (k := 1) (by simp)
  have b0 := d2.one (ro := ro) (l := h.length) (p := h.length) (k := 0) (by simp)
  have b1 := d2.one (ro := ro) (l := h.length) (p := h.length) (k := 1) (by simp)
  have b2 := d2.one (ro := ro) (l := h.length) (p := h.length) (k := 2) (by simp)
  have b3 := d2.one (ro := ro) (l := h.length) (p := h.length) (k := 3) (by simp)
  rw [hb1]
  simp only [bindP_some]
  rw [hb2]
  simp only [List.getD_cons_zero, List.getD_cons_succ] at a0 a1 b0 b1 b2 b3
  obtain ⟨r1, r2, r3, r4⟩ := hr
  have fin : ∀ c : Bool, finM h.length (tupA [AVal.b c]) ⟨h ++ [some (blkOf 55 [.i .i64 t, .i .i64 n, v])] ++ [some (blkOf 31 s.vs)], h.length, h.length⟩ = some (.b c, h, h.length, h.length) := fun c => by
    rw [List.append_assoc]; exact fin_drop rfl
  simp only [bindP_some, p_faddr, bindO_some, a0, a1, b0, b1, b2, b3, asI_i, forceB_eq, forceI_eq, eqI_eq, ltI_eq, bindO_or, mxV, Bool.false_eq_true, if_false, if_true, fin]
  have hA : (s.f == s.t || decide ((if s.t < s.f then s.t else s.f) < 0) || !decide ((if s.t > s.f then s.t else s.f) < n)) = decide (¬ (s.f ≠ s.t ∧ 0 ≤ s.f ∧ s.f < n ∧ 0 ≤ s.t ∧ s.t < n)) := by
    rw [Bool.eq_iff_iff]
    simp only [Bool.or_eq_true, beq_iff_eq, decide_eq_true_eq, Bool.not_eq_true', decide_eq_false_iff_not]
    split <;> split <;> omega
  have hB : (decide (s.lo < -600) || decide (600 < s.lo)) = decide (¬ (-600 ≤ s.lo ∧ s.lo ≤ 600)) := by
    rw [Bool.eq_iff_iff]
    simp only [Bool.or_eq_true, decide_eq_true_eq]
    omega
  rw [hA, hB]
  by_cases h1 : s.f ≠ s.t ∧ 0 ≤ s.f ∧ s.f < n ∧ 0 ≤ s.t ∧ s.t < n
  · by_cases h2 : -600 ≤ s.lo ∧ s.lo ≤ 600
    · have e1 : decide (¬ (s.f ≠ s.t ∧ 0 ≤ s.f ∧ s.f < n ∧ 0 ≤ s.t ∧ s.t < n)) = false := by simp only [decide_eq_false_iff_not]; exact fun k => k h1
      have e2 : decide (¬ (-600 ≤ s.lo ∧ s.lo ≤ 600)) = false := by simp only [decide_eq_false_iff_not]; exact fun k => k h2
      rw [e1, e2, wr_id' (x := s.lo + t) (by omega) (by omega), wr_id' (by omega) (by omega)]
      simp only [cond_false, bindO_and]
      have e3 : (!decide (s.hi < s.lo) && !decide (s.lo + t - 1 < s.hi)) = decide (spOk t n s) := by
        rw [Bool.eq_iff_iff]
        simp only [Bool.and_eq_true, Bool.not_eq_true', decide_eq_false_iff_not, decide_eq_true_eq]
        unfold spOk
        omega
      rw [e3]
    · have e2 : decide (¬ (-600 ≤ s.lo ∧ s.lo ≤ 600)) = true := by simp only [decide_eq_true_eq]; exact h2
      have e3 : decide (spOk t n s) = false := by simp only [decide_eq_false_iff_not]; unfold spOk; omega
      rw [e2, e3]
      cases decide (¬ (s.f ≠ s.t ∧ 0 ≤ s.f ∧ s.f < n ∧ 0 ≤ s.t ∧ s.t < n)) <;> rfl
  · have e2 : decide (¬ (s.f ≠ s.t ∧ 0 ≤ s.f ∧ s.f < n ∧ 0 ≤ s.t ∧ s.t < n)) = true := by simp only [decide_eq_true_eq]; exact h1
    have e3 : decide (spOk t n s) = false := by simp only [decide_eq_false_iff_not]; unfold spOk; omega
    rw [e2, e3]
    rfl

theorem rg1 (t n : Int) {β : Type} {k : Bool → Option β} : (bindO (cond (decide (t < 1)) (some true) (some (decide (24 < t)))) fun c16 => bindO (cond c16 (some true) (some (decide (n < 1)))) fun c20 => bindO (cond c20 (some true) (some (decide (6 < n)))) k) = k (decide (¬ rOk t n)) := by
  simp only [bindO_or]
  have : (decide (t < 1) || decide (24 < t) || decide (n < 1) || decide (6 < n)) = decide (¬ rOk t n) := by
    rw [Bool.eq_iff_iff]
    simp only [Bool.or_eq_true, decide_eq_true_eq]
    unfold rOk
    omega
  rw [this]
theorem lt20 {l : List Sp} : decide ((20 : Int) < (l.length : Int)) = decide (¬ l.length ≤ 20) := decide_eq_decide.2 (by omega)

/-- the specification's Spans -/
theorem spans20 {ro : List ABlk} {h : Heap} {t n : Int} {v : AVal} {l : List Sp} (a : IsSpans ro h v l) : callX F1 ro 20 [.i .i64 t, .i .i64 n, v] h = some (.i .i64 (rdE t n l), h, h.length, h.length) := by
  refine g20_ok (meansX_ok F1 ro) rfl ?_
  unfold g20
  simp only [forceB_eq, ltI_eq, rg1, rdE]
  by_cases hr : rOk t n
  · have e : decide (¬ rOk t n) = false := by simp [hr]
    rw [e, if_pos hr]
    simp only [cond_false, len_spans a, bindO_some, asI_i, lt20]
    by_cases h20 : l.length ≤ 20
    · have e : decide (¬ l.length ≤ 20) = false := by simp [h20]
      rw [e, if_pos h20]
      simp only [cond_false, meansX_loop]
      have hloop := loop_upto (b := fun s => g20_b3 (meansX F1 ro) ro t n v s.1 s.2) l.length (fun i m => m.lw = h.length ∧ m.lp = h.length ∧ Keep h m.h ∧ ∀ j, j < i → spOk t n (l.getD j Sp.z)) (fun r => r.1 = 2 ∧ r.2.lw = h.length ∧ r.2.lp = h.length ∧ Keep h r.2.h ∧ ¬ ∀ j, j < l.length → spOk t n (l.getD j Sp.z)) ?_ ?_ l.length 0 ⟨h, h.length, h.length⟩ (by omega) ⟨rfl, rfl, Keep.refl h, fun j hj => by omega⟩
      · obtain ⟨o, h1, h2⟩ := hloop
        have e0 : ((0 : Nat) : Int) = 0 := rfl
        rw [e0] at h1
        rw [h1]
        rcases h2 with ⟨m', rfl, g1, g2, g3, g4⟩ | ⟨⟨x, m'⟩, rfl, g0, g1, g2, g3, g4⟩
        · rw [if_pos g4]
          obtain ⟨hp, lw, lp⟩ := m'
          simp only at g1 g2 g3
          subst g1 g2
          exact fin_keep g3 rfl
        · rw [if_neg g4]
          obtain ⟨hp, lw, lp⟩ := m'
          simp only at g0 g1 g2 g3
          subst g0 g1 g2
          exact fin_keep g3 rfl
      · rintro i ⟨hp, lw, lp⟩ hi ⟨g1, g2, g3, g4⟩
        simp only at g1 g2 g3
        subst g1 g2
        have am := a.by g3
        obtain ⟨q, q1, q2, q3, q4⟩ := at_span am hi
        generalize hs : l.getD i Sp.z = s at *
        have hal := al_ok (ro := ro) (hp := hp) (l := h.length) (p := h.length) 31 [(AVal.i IntKind.i64 0), (AVal.i IntKind.i64 0), (AVal.i IntKind.i64 0), (AVal.i IntKind.i64 0)]
        obtain ⟨hp', st1, st2, st3, st4, st5⟩ := (Holds.new hp 31 [(AVal.i IntKind.i64 0), (AVal.i IntKind.i64 0), (AVal.i IntKind.i64 0), (AVal.i IntKind.i64 0)]).st (ro := ro) (h := h) (n := 4) (v := s.v) (vs' := s.vs) rfl rfl rfl rfl g3.1 (g3.trans (Keep.app _))
        have b0 := st2.one (ro := ro) (l := h.length) (p := h.length) (k := 0) (by simp)
        have b1 := st2.one (ro := ro) (l := h.length) (p := h.length) (k := 1) (by simp)
        have b2 := st2.one (ro := ro) (l := h.length) (p := h.length) (k := 2) (by simp)
        have b3 := st2.one (ro := ro) (l := h.length) (p := h.length) (k := 3) (by simp)
        simp only [List.getD_cons_zero, List.getD_cons_succ] at b0 b1 b2 b3
        obtain ⟨r1, r2, r3, r4⟩ := hr
        simp only [g20_b3, len_spans am, bindO_some, asI_i, forceB_eq, ltI_eq, lt_yes hi, cond_true, q1, q2, hal, bindP_some, st1, p_faddr, b0, b1, b2, b3, forceI_eq, eqI_eq, bindO_or]
        have hA : (decide (s.f < 0) || !decide (s.f < n) || decide (s.t < 0) || !decide (s.t < n) || s.f == s.t || decide (s.lo < -600) || decide (600 < s.lo) || decide (s.hi < s.lo) || decide (wr .i64 (wr .i64 (s.lo + t) - 1) < s.hi)) = decide (¬ spOk t n s) := by
          rw [Bool.eq_iff_iff]
          by_cases h2 : -600 ≤ s.lo ∧ s.lo ≤ 600
          · rw [wr_id' (x := s.lo + t) (by omega) (by omega), wr_id' (by omega) (by omega)]
            simp only [Bool.or_eq_true, beq_iff_eq, decide_eq_true_eq, Bool.not_eq_true', decide_eq_false_iff_not]
            unfold spOk
            omega
          · have h3 : ¬ spOk t n s := by unfold spOk; omega
            simp only [Bool.or_eq_true, beq_iff_eq, decide_eq_true_eq, Bool.not_eq_true', decide_eq_false_iff_not, h3, not_false_eq_true, iff_true]
            omega
        rw [hA]
        by_cases hok : spOk t n s
        · have e : decide (¬ spOk t n s) = false := by simp [hok]
          rw [e]
          refine .inl ⟨⟨hp', h.length, h.length⟩, ?_, rfl, rfl, st5, fun j hj => ?_⟩
          · simp only [cond_false]
            rw [wr_next (by omega)]
          · rcases Nat.lt_or_ge j i with h3 | h3
            · exact g4 j h3
            · obtain rfl : j = i := by omega
              rw [hs]; exact hok
        · have e : decide (¬ spOk t n s) = true := by simp [hok]
          rw [e]
          exact .inr ⟨_, rfl, rfl, rfl, rfl, st5, fun k => hok (hs ▸ k i hi)⟩
      · rintro ⟨hp, lw, lp⟩ ⟨g1, g2, g3, g4⟩
        simp only at g1 g2 g3
        subst g1 g2
        simp only [g20_b3, len_spans (a.by g3), bindO_some, asI_i, forceB_eq, ltI_eq, lt_no, cond_false]
    · have e : decide (¬ l.length ≤ 20) = true := by simp [h20]
      rw [e, if_neg h20]
      exact fin_pure rfl
  · have e : decide (¬ rOk t n) = true := by simp [hr]
    rw [e, if_neg hr]
    exact fin_pure rfl
end Go.Proofs.YtddnpchfjdgigaaDoor.T

/- The program's read. -/
open Go.Vm
set_option linter.unusedVariables false
namespace Go.Proofs.YtddnpchfjdgigaaDoor.T
open Go

abbrev z3 : List AVal := [(AVal.i IntKind.i64 0), (AVal.i IntKind.i64 0), AVal.nsl]
abbrev z4 : List AVal := [(AVal.i IntKind.i64 0), (AVal.i IntKind.i64 0), (AVal.i IntKind.i64 0), (AVal.i IntKind.i64 0)]
/-- what read answers beside the error -/
def demR (t n : Int) (v : AVal) (l : List Sp) : AVal := if rdE t n l = 0 then demV t n v else .agg z3
theorem fillz : (fillA z3 []).map AVal.agg = some (.agg z3) := rfl
theorem filld (t n : Int) (v : AVal) (hv : v.one = true) : (fillA z3 [((0, 1), (.i .i64 t)), ((1, 1), (.i .i64 n)), ((2, 1), v)]).map AVal.agg = some (demV t n v) := by
  cases v <;> first | rfl | cases hv
theorem IsSpans.one {ro : List ABlk} {h : Heap} {v : AVal} {l : List Sp} (a : IsSpans ro h v l) : v.one = true := by
  rcases a with ⟨rfl, rfl⟩ | ⟨q, cap, blk, rfl, -⟩ <;> rfl
theorem ones3 {t n : Int} {v : AVal} (hv : v.one = true) : ones [.i .i64 t, .i .i64 n, v] = true := by simp [ones, AVal.one]; exact hv

theorem read43 {ro : List ABlk} {h : Heap} {t n : Int} {v : AVal} {l : List Sp} (a : IsSpans ro h v l) : callX F1 ro 43 [.i .i64 t, .i .i64 n, v] h = some (.tup [demR t n v l, .i .i64 (rdE t n l)], h, h.length, h.length) := by
  refine g43_ok (meansX_ok F1 ro) rfl ?_
  unfold g43
  have d6 := Holds.new h 55 z3
  have k6 : Keep h (h ++ [some (blkOf 55 z3)]) := Keep.app _
  have hv1 := a.one
  have fin : ∀ (e : Int) (w : AVal) (hp : Heap), Keep h hp → w.bel h.length = true → finM h.length (tupA [w, .i .i64 e]) ⟨hp, h.length, h.length⟩ = some (.tup [w, .i .i64 e], h, h.length, h.length) := fun e w hp k hw => by
    refine fin_keep k ?_
    simp [tupA, AVal.bel, bels, hw]
  simp only [al_ok, bindP_some, forceB_eq, ltI_eq, rg1]
  have early : ∀ e : Int, rdE t n l = e → e ≠ 0 → (bindO ((fillA z3 []).map AVal.agg) fun v25 => bindP (stepM ro ⟨h ++ [some (blkOf 55 z3)], h.length, h.length⟩ (.st 3 (.c (.p (some ⟨false, h.length, 0⟩))) (.c v25))) fun vn m_2 => bindO (ldM ro m_2 false 3 (.p (some ⟨false, h.length, 0⟩))) fun vr => finM h.length (tupA [vr, (.i .i64 e)]) m_2) = some (.tup [demR t n v l, .i .i64 (rdE t n l)], h, h.length, h.length) := by
    intro e he hne
    obtain ⟨hp', st1, st2, st3, st4, st5⟩ := d6.st (ro := ro) (h := h) (n := 3) (v := .agg z3) (vs' := z3) rfl rfl rfl rfl (Nat.le_refl _) k6
    rw [fillz]
    simp only [bindO_some, st1, bindP_some, st2.all (ro := ro) (l := h.length) (p := h.length) (n := 3) rfl]
    rw [fin e _ hp' st5 rfl, he]
    simp only [demR, he, hne, if_false]
  by_cases hr : rOk t n
  · have e : decide (¬ rOk t n) = false := by simp [hr]
    rw [e]
    simp only [cond_false, len_spans a, bindO_some, asI_i, lt20]
    by_cases h20 : l.length ≤ 20
    · have e : decide (¬ l.length ≤ 20) = false := by simp [h20]
      rw [e]
      obtain ⟨hp5, st1, st2, st3, st4, st5⟩ := (Holds.new (h ++ [some (blkOf 55 z3)]) 55 z3).st (ro := ro) (h := h) (n := 3) (v := demV t n v) (vs' := [.i .i64 t, .i .i64 n, v]) rfl rfl rfl (ones3 hv1) k6.1 (k6.trans (Keep.app _))
      have d6' : Holds hp5 h.length z3 := (d6.ext [some (blkOf 55 z3)]).keep (st4 h.length (by simp))
      simp only [cond_false, filld t n v hv1, al_ok, bindO_some, bindP_some, st1, meansX_loop]
      have hloop := loop_upto (b := fun s => g43_b3 (meansX F1 ro) ro (.p (some ⟨false, h.length, 0⟩)) (.p (some ⟨false, (h ++ [some (blkOf 55 z3)]).length, 0⟩)) v l.length s.1 s.2) l.length (fun i m => m.lw = h.length ∧ m.lp = h.length ∧ Keep hp5 m.h ∧ ∀ j, j < i → spOk t n (l.getD j Sp.z)) (fun r => r.1 = 2 ∧ r.2.lw = h.length ∧ r.2.lp = h.length ∧ Keep h r.2.h ∧ Holds r.2.h h.length z3 ∧ ¬ ∀ j, j < l.length → spOk t n (l.getD j Sp.z)) ?_ ?_ l.length 0 ⟨hp5, h.length, h.length⟩ (by omega) ⟨rfl, rfl, Keep.refl hp5, fun j hj => by omega⟩
      · obtain ⟨o, h1, h2⟩ := hloop
        have e0 : ((0 : Nat) : Int) = 0 := rfl
        rw [e0] at h1
        rw [h1]
        rcases h2 with ⟨m', rfl, g1, g2, g3, g4⟩ | ⟨⟨x, m'⟩, rfl, g0, g1, g2, g3, g5, g4⟩
        · have he : rdE t n l = 0 := by simp only [rdE, hr, h20, if_true]; rw [if_pos g4]
          obtain ⟨hp, lw, lp⟩ := m'
          simp only at g1 g2 g3
          subst g1 g2
          have d8 := st2.by g3
          have d6'' := d6'.by g3
          obtain ⟨hpe, s1, s2, s3, s4, s5⟩ := d6''.st (ro := ro) (h := h) (n := 3) (v := demV t n v) (vs' := [.i .i64 t, .i .i64 n, v]) rfl rfl rfl (ones3 hv1) (Nat.le_refl _) (st5.trans g3)
          simp only [bindO_some, d8.all (ro := ro) (l := h.length) (p := h.length) (n := 3) rfl, s1, bindP_some, s2.all (ro := ro) (l := h.length) (p := h.length) (n := 3) rfl]
          rw [fin 0 _ hpe s5 (by simpa [AVal.bel, bels] using a.bel), he]
          simp only [demR, he, if_true]
        · have he : rdE t n l = 2 := by simp only [rdE, hr, h20, if_true]; rw [if_neg g4]
          obtain ⟨hp, lw, lp⟩ := m'
          simp only at g0 g1 g2 g3 g5
          subst g0 g1 g2
          simp only [bindO_some, g5.all (ro := ro) (l := h.length) (p := h.length) (n := 3) rfl]
          rw [fin 2 _ hp g3 rfl, he]
          simp [demR, he]
      · rintro i ⟨hp, lw, lp⟩ hi ⟨g1, g2, g3, g4⟩
        simp only at g1 g2 g3
        subst g1 g2
        have kh : Keep h hp := st5.trans g3
        have am := a.by kh
        obtain ⟨q, q1, q2, q3, q4⟩ := at_span am hi
        generalize hs : l.getD i Sp.z = s at *
        have hal := al_ok (ro := ro) (hp := hp) (l := h.length) (p := h.length) 31 z4
        obtain ⟨hp', s1, s2, s3, s4, s5⟩ := (Holds.new hp 31 z4).st (ro := ro) (h := h) (n := 4) (v := s.v) (vs' := s.vs) rfl rfl rfl rfl kh.1 (kh.trans (Keep.app _))
        have kp : Keep hp hp' := ⟨by rw [s3]; simp, fun i hi => by rw [s4 i (by omega)]; exact List.getElem?_append_left hi⟩
        have d8 := (st2.by g3).by kp
        have d6'' := (d6'.by g3).by kp
        simp only [g43_b3, bindO_some, asI_i, forceB_eq, ltI_eq, lt_yes hi, cond_true, q1, q2, hal, bindP_some, s1, d8.all (ro := ro) (l := h.length) (p := h.length) (n := 3) rfl, s2.all (ro := ro) (l := h.length) (p := h.length) (n := 4) rfl, meansX_call,
          callM_pure (allows60 (ro := ro) (h := hp') (v := v) (s := s) hr) (Nat.le_trans kh.1 kp.1) (Nat.le_trans kh.1 kp.1), asB_b]
        by_cases hok : spOk t n s
        · have e : (!decide (spOk t n s)) = false := by simp [hok]
          rw [e]
          refine .inl ⟨⟨hp', h.length, h.length⟩, ?_, rfl, rfl, g3.trans kp, fun j hj => ?_⟩
          · simp only [cond_false, forceI_eq]
            rw [wr_next (by omega)]
          · rcases Nat.lt_or_ge j i with h3 | h3
            · exact g4 j h3
            · obtain rfl : j = i := by omega
              rw [hs]; exact hok
        · have e : (!decide (spOk t n s)) = true := by simp [hok]
          rw [e]
          obtain ⟨hpe, w1, w2, w3, w4, w5⟩ := d6''.st (ro := ro) (h := h) (n := 3) (v := .agg z3) (vs' := z3) rfl rfl rfl rfl (Nat.le_refl _) (kh.trans kp)
          refine .inr ⟨(2, ⟨hpe, h.length, h.length⟩), ?_, rfl, rfl, rfl, w5, w2, fun k => hok (hs ▸ k i hi)⟩
          simp only [cond_true]
          rw [fillz]
          simp only [bindO_some, w1, bindP_some]
      · rintro ⟨hp, lw, lp⟩ ⟨g1, g2, g3, g4⟩
        simp only at g1 g2 g3
        subst g1 g2
        simp only [g43_b3, forceB_eq, ltI_eq, lt_no, cond_false]
    · have e : decide (¬ l.length ≤ 20) = true := by simp [h20]
      rw [e]
      exact early 3 (by simp only [rdE, hr, h20, if_true, if_false]) (by decide)
  · have e : decide (¬ rOk t n) = true := by simp [hr]
    rw [e]
    exact early 2 (by simp only [rdE, hr, if_false]) (by decide)
end Go.Proofs.YtddnpchfjdgigaaDoor.T

/- Lists that a function makes by append, of elements of several cells. -/
open Go.Vm
set_option linter.unusedVariables false
namespace Go.Proofs.YtddnpchfjdgigaaDoor.T
open Go

/-- a list made by append, in a block from L on -/
def GV (hp : Heap) (L e es : Nat) (v : AVal) (k : Nat) (cs : List AVal) : Prop :=
  (v = .nsl ∧ k = 0 ∧ cs = []) ∨ ∃ b blk, v = .sl ⟨false, b, 0⟩ k .grow ∧ 0 < k ∧ L ≤ b ∧ lget hp b = some (some blk) ∧ blk.e = e ∧ cs.length = k * es ∧ k * es ≤ blk.n ∧ ∀ j, j < k * es → blk.c.get j = cs.getD j und
theorem GV.nil (hp : Heap) (L e es : Nat) : GV hp L e es .nsl 0 [] := .inl ⟨rfl, rfl, rfl⟩
/-- blocks below L, and those above that are kept, hold the list as before -/
theorem GV.by {hp hp' : Heap} {L e es k : Nat} {v : AVal} {cs : List AVal} (g : GV hp L e es v k cs) (kp : Keep hp hp') : GV hp' L e es v k cs := by
  rcases g with h | ⟨b, blk, h1, h2, h3, h4, h5⟩
  · exact .inl h
  · exact .inr ⟨b, blk, h1, h2, h3, by rw [lget_of (kp.2 b (lget_lt h4))]; exact h4, h5⟩
theorem row_row {t : Tr} : ∀ (n i : Nat) (cs : List AVal), cs.length = n → (∀ j, j < n → t.get (i + j) = cs.getD j und) → t.row i n = cs := by
  intro n i cs hl h
  subst hl
  exact row_list cs i h
theorem GV.push {ro : List ABlk} {hp : Heap} {L0 L e es bytes k : Nat} {z : List AVal} {v w : AVal} {cs ws : List AVal} (g : GV hp L e es v k cs) (hL0 : L0 ≤ L) (hL : L ≤ hp.length) (hk : k ≤ 1000) (hb : bytes ≤ 1000) (hes : 0 < es) (hz : z.length = es) (hw : w.cells = ws) (hwl : ws.length = es) (ho : ones ws = true) (hsp : splice z 0 ws = ws) :
    ∃ v2 hp2 v3 hp3, stepM ro ⟨hp, L0, L0⟩ (.bsl e es z 1 [((0, es), .c w)]) = some (v2, ⟨hp2, L0, L0⟩) ∧ stepM ro ⟨hp2, L0, L0⟩ (.app e es bytes z (.c v) (.c v2)) = some (v3, ⟨hp3, L0, L0⟩) ∧
      GV hp3 L e es v3 (k + 1) (cs ++ ws) ∧ hp.length ≤ hp3.length ∧ ∀ i, i < L → hp3[i]? = hp[i]? := by
  have s1 : stepM ro ⟨hp, L0, L0⟩ (.bsl e es z 1 [((0, es), .c w)]) = some (.sl ⟨false, hp.length, 0⟩ 1 (.known 1), ⟨hp ++ [some (blkOf e ws)], L0, L0⟩) := by
    simp [stepM, stepK, st_bsl, rep, fillA, opd, hw, hwl, hz, hsp, newB, St.mm]
  have src : app_src ro (hp ++ [some (blkOf e ws)]) es (.sl ⟨false, hp.length, 0⟩ 1 (.known 1)) = some (ws, 1) := by
    have hbq : rdB ro (hp ++ [some (blkOf e ws)]) ⟨false, hp.length, 0⟩ = some (blkOf e ws) := by simp [rdB, lget_eq]
    have hg : (blkOf e ws).c.row 0 es = ws := row_row es 0 ws hwl fun j hj => by rw [Nat.zero_add, get_blk]
    have hble : Nat.ble (0 + 1 * es) (blkOf e ws).n = true := by rw [Nat.ble_eq]; show 0 + 1 * es ≤ ws.length; omega
    simp only [app_src, hbq, hble, cond_true]
    rw [show 1 * es = es by omega, hg]
  rcases g with ⟨rfl, rfl, rfl⟩ | ⟨b, blk, rfl, hpos, hLb, hbk, hbe, hcl, hbn, hrows⟩
  · refine ⟨_, _, .sl ⟨false, hp.length + 1, 0⟩ 1 .grow, hp ++ [some (blkOf e ws)] ++ [some (blkOf e ws)], s1, ?_, .inr ⟨hp.length + 1, blkOf e ws, rfl, by omega, by omega, ?_, rfl, by simp; omega, by show 1 * es ≤ ws.length; omega, fun j hj => ?_⟩, by simp, fun i hi => ?_⟩
    · have hb1 : Nat.beq 1 0 = false := rfl
      simp only [stepM, stepK, opd, st_app, src, hb1, cond_false, fits_small (by omega : 1 ≤ 1000000) hb, cond_true, newB, St.mm, List.length_append, List.length_cons, List.length_nil, Nat.zero_add]
    · have := lget_last (hp ++ [some (blkOf e ws)]) (some (blkOf e ws))
      rwa [List.length_append, List.length_singleton] at this
    · rw [get_blk]; simp
    · rw [List.append_assoc, List.getElem?_append_left (by omega)]
  · obtain ⟨hp2, e2⟩ : ∃ hp2, hp2 = hp ++ [some (blkOf e ws)] := ⟨_, rfl⟩
    rw [← e2] at src s1
    have hlt : b < hp.length := lget_lt hbk
    have hb2 : lget hp2 b = some (some blk) := by rw [e2]; exact lget_ext hbk _
    have hlen2 : hp2.length = hp.length + 1 := by rw [e2]; simp
    have hrow : blk.c.row 0 (k * es) = cs := row_row (k * es) 0 cs hcl fun j hj => by rw [Nat.zero_add]; exact hrows j hj
    have hke : 0 < k * es := Nat.mul_pos hpos hes
    refine ⟨_, _, .sl ⟨false, hp2.length, 0⟩ (k + 1) .grow, lset none hp2 b ++ [some (blkOf e (cs ++ ws))], s1, ?_, .inr ⟨hp2.length, blkOf e (cs ++ ws), rfl, by omega, by omega, ?_, rfl, ?_, ?_, fun j hj => ?_⟩, ?_, fun i hi => ?_⟩
    · have h1 : (Nat.beq blk.e e && Nat.ble (k * es) blk.n && fits (k + 1) bytes && ones ws) = true := by
        rw [hbe, fits_small (by omega : k + 1 ≤ 1000000) hb]
        simp [ho, Nat.ble_eq]; omega
      have h2 : (false || !Nat.beq 0 0 || Nat.beq 1 0) = false := rfl
      have h3 : Nat.blt 0 blk.n = true := by rw [Nat.blt_eq]; omega
      simp only [stepM, stepK, opd, st_app, src, app_grow, h2, cond_false, hb2, h1, h3, Bool.and_self, cond_true, St.mm, hrow, Nat.min_eq_left (Nat.le_trans hL0 hLb)]
    · rw [lget_eq, lset_eq, List.getElem?_append_right (by simp)]
      simp
    · rw [List.length_append, hcl, hwl, Nat.add_mul]; omega
    · show (k + 1) * es ≤ (cs ++ ws).length
      rw [List.length_append, hcl, hwl, Nat.add_mul]; omega
    · rw [get_blk]
    · simp [lset_eq]; omega
    · rw [lset_eq, List.getElem?_append_left (by simp; omega), List.getElem?_set_ne (by omega), e2, List.getElem?_append_left (by omega)]
/-- what it is as spans -/
theorem GV.spans {ro : List ABlk} {hp : Heap} {L e : Nat} {v : AVal} {k : Nat} {ss : List Sp} (g : GV hp L e 4 v k (ss.flatMap Sp.vs)) (hk : ss.length = k) : IsSpans ro hp v ss := by
  subst hk
  rcases g with ⟨rfl, h2, -⟩ | ⟨b, blk, rfl, hpos, hLb, hbk, hbe, hcl, hbn, hrows⟩
  · exact .inl ⟨rfl, List.length_eq_zero_iff.1 h2⟩
  · refine .inr ⟨_, _, blk, rfl, rdB_heap hbk 0, by simpa using hbn, fun j hj i hi => ?_⟩
    rw [Nat.zero_add, hrows (j * 4 + i) (by omega)]
    clear hrows hbn hcl hbe hbk hpos
    induction ss generalizing j with
    | nil => simp at hj
    | cons s ss ih =>
      cases j with
      | zero =>
        simp only [List.flatMap_cons, Nat.zero_mul, Nat.zero_add]
        rw [List.getD_eq_getElem?_getD, List.getElem?_append_left (by simpa using hi), ← List.getD_eq_getElem?_getD]
        rfl
      | succ j =>
        simp only [List.flatMap_cons]
        rw [List.getD_eq_getElem?_getD, List.getElem?_append_right (by simp; omega), ← List.getD_eq_getElem?_getD]
        have := ih j (by simpa using hj)
        rw [show (j + 1) * 4 + i - s.vs.length = j * 4 + i by simp; omega, this]
        simp
theorem GV.row {ro : List ABlk} {hp : Heap} {L e : Nat} {v : AVal} {k : Nat} {z : List Int} (g : GV hp L e 1 v k (z.map (AVal.i .i64))) (hk : z.length = k) : IsRow ro hp v z := by
  subst hk
  rcases g with ⟨rfl, h2, -⟩ | ⟨b, blk, rfl, hpos, hLb, hbk, hbe, hcl, hbn, hrows⟩
  · exact .inl ⟨rfl, List.length_eq_zero_iff.1 h2⟩
  · refine .inr ⟨_, _, blk, rfl, rdB_heap hbk 0, by simpa using hbn, fun j hj => ?_⟩
    rw [Nat.zero_add, hrows j (by omega), map_getD hj]
end Go.Proofs.YtddnpchfjdgigaaDoor.T

/- Steps of a ring. -/
open Go.Vm
set_option linter.unusedVariables false
namespace Go.Proofs.YtddnpchfjdgigaaDoor.T
open Go

/-- a span told the other way round -/
def Sp.turn (s : Sp) : Sp := ⟨s.t, s.f, -s.hi, -s.lo⟩
/-- a step of a ring by its number -/
def stepP (l : List Sp) (x : Int) : Option Sp := if 1 ≤ x ∧ x ≤ l.length then some (l.getD (x.toNat - 1) Sp.z) else if x ≤ -1 ∧ -(l.length : Int) ≤ x then some (l.getD ((-x).toNat - 1) Sp.z).turn else none
/-- round, events and spans are valid -/
structure Ok (t n : Int) (l : List Sp) : Prop where
  r : rOk t n
  len : l.length ≤ 20
  sp : ∀ i, i < l.length → spOk t n (l.getD i Sp.z)
theorem rdE_ok {t n : Int} {l : List Sp} : rdE t n l = 0 ↔ Ok t n l := by
  unfold rdE
  by_cases h1 : rOk t n
  · by_cases h2 : l.length ≤ 20
    · by_cases h3 : ∀ i, i < l.length → spOk t n (l.getD i Sp.z)
      · simp only [h1, h2, if_true]; rw [if_pos h3]; exact ⟨fun _ => ⟨h1, h2, h3⟩, fun _ => rfl⟩
      · simp only [h1, h2, if_true]; rw [if_neg h3]; exact ⟨fun h => (by cases h), fun h => absurd h.sp h3⟩
    · simp only [h1, h2, if_true, if_false]; exact ⟨fun h => (by cases h), fun h => absurd h.len h2⟩
  · simp only [h1, if_false]; exact ⟨fun h => (by cases h), fun h => absurd h.r h1⟩
theorem stepP_rng {t n : Int} {l : List Sp} (ok : Ok t n l) {x : Int} {s : Sp} (h : stepP l x = some s) : 0 ≤ s.f ∧ s.f < n ∧ 0 ≤ s.t ∧ s.t < n ∧ -700 ≤ s.lo ∧ s.lo ≤ 700 ∧ -700 ≤ s.hi ∧ s.hi ≤ 700 ∧ s.lo ≤ s.hi ∧ s.hi ≤ s.lo + t - 1 ∧ s.f ≠ s.t := by
  obtain ⟨r1, r2, r3, r4⟩ := ok.r
  unfold stepP at h
  split at h
  · rename_i hx
    cases h
    have := ok.sp (x.toNat - 1) (by omega)
    unfold spOk at this
    generalize l.getD (x.toNat - 1) Sp.z = s at *
    omega
  · split at h
    · rename_i hx
      cases h
      have := ok.sp ((-x).toNat - 1) (by omega)
      unfold spOk at this
      generalize l.getD ((-x).toNat - 1) Sp.z = s at *
      simp only [Sp.turn]
      omega
    · cases h

/-- the specification's step -/
def step59V (o : Option Sp) : AVal := match o with
  | some s => .tup [.i .i64 s.f, .i .i64 s.t, .i .i64 s.lo, .i .i64 s.hi, .b true]
  | none => .tup [.i .i64 0, .i .i64 0, .i .i64 0, .i .i64 0, .b false]
theorem step59 {ro : List ABlk} {h : Heap} {t n : Int} {v : AVal} {l : List Sp} (a : IsSpans ro h v l) (ok : Ok t n l) {x : Int} (hx : inI64 x) : callX F1 ro 59 [v, .i .i64 x] h = some (step59V (stepP l x), h, h.length, h.length) := by
  refine g59_ok (meansX_ok F1 ro) rfl ?_
  unfold g59
  have hlen := ok.len
  obtain ⟨hx1, hx2⟩ := hx
  simp only [forceI_eq, forceB_eq, ltI_eq, eqI_eq, len_spans a, bindO_some, asI_i, bindO_or, wr_id' (x := 0 - (l.length : Int)) (by omega) (by omega)]
  have hc : ((x == 0) || decide ((l.length : Int) < x) || decide (x < 0 - (l.length : Int))) = decide (stepP l x = none) := by
    rw [Bool.eq_iff_iff]
    simp only [Bool.or_eq_true, beq_iff_eq, decide_eq_true_eq]
    unfold stepP
    split
    · simp; omega
    · split
      · simp; omega
      · simp; omega
  by_cases hneg : x < 0
  · simp only [hneg, decide_true, cond_true, bindO_some]
    rw [hc]
    by_cases hn : stepP l x = none
    · simp only [hn, decide_true, cond_true, step59V, tupA]
      exact fin_pure rfl
    · have hin : x ≤ -1 ∧ -(l.length : Int) ≤ x := by
        unfold stepP at hn
        split at hn
        · omega
        · split at hn
          · assumption
          · exact absurd rfl hn
      have hs : stepP l x = some (l.getD ((-x).toNat - 1) Sp.z).turn := by unfold stepP; rw [if_neg (by omega), if_pos hin]
      have hi : (-x).toNat - 1 < l.length := by omega
      have hsp := ok.sp _ hi
      have hw : wr .i64 (wr .i64 (0 - x) - 1) = (((-x).toNat - 1 : Nat) : Int) := by
        rw [wr_id' (x := 0 - x) (by omega) (by omega), wr_id' (by omega) (by omega)]; omega
      obtain ⟨q, q1, q2, q3, q4⟩ := at_span a hi
      generalize l.getD ((-x).toNat - 1) Sp.z = s at *
      obtain ⟨hp', s1, s2, s3, s4, s5⟩ := (Holds.new h 31 z4).st (ro := ro) (h := h) (n := 4) (v := s.v) (vs' := s.vs) rfl rfl rfl rfl (Nat.le_refl _) (Keep.app _)
      have b0 := s2.oneA (ro := ro) (k := 0) (by simp)
      have b1 := s2.oneA (ro := ro) (k := 1) (by simp)
      have b2 := s2.oneA (ro := ro) (k := 2) (by simp)
      have b3 := s2.oneA (ro := ro) (k := 3) (by simp)
      simp only [List.getD_cons_zero, List.getD_cons_succ] at b0 b1 b2 b3
      have e : decide (stepP l x = none) = false := by simp [hs]
      unfold spOk at hsp
      obtain ⟨r1, r2, r3, r4⟩ := ok.r
      rw [e]
      simp only [cond_false, hw, q1, q2, bindO_some, al_ok, bindP_some, s1, p_faddr, b0, b1, b2, b3, asI_i, tupA, wr_id' (x := 0 - s.hi) (by omega) (by omega), wr_id' (x := 0 - s.lo) (by omega) (by omega)]
      rw [fin_keep s5 rfl, hs]
      simp [step59V, Sp.turn]
  · simp only [hneg, decide_false, cond_false, bindO_some]
    rw [hc]
    by_cases hn : stepP l x = none
    · simp only [hn, decide_true, cond_true, step59V, tupA]
      exact fin_pure rfl
    · have hin : 1 ≤ x ∧ x ≤ l.length := by
        unfold stepP at hn
        split at hn
        · assumption
        · split at hn
          · omega
          · exact absurd rfl hn
      have hs : stepP l x = some (l.getD (x.toNat - 1) Sp.z) := by unfold stepP; rw [if_pos hin]
      have hi : x.toNat - 1 < l.length := by omega
      have hw : wr .i64 (x - 1) = ((x.toNat - 1 : Nat) : Int) := by
        rw [wr_id' (by omega) (by omega)]; omega
      obtain ⟨q, q1, q2, q3, q4⟩ := at_span a hi
      generalize l.getD (x.toNat - 1) Sp.z = s at *
      obtain ⟨hp', s1, s2, s3, s4, s5⟩ := (Holds.new h 31 z4).st (ro := ro) (h := h) (n := 4) (v := s.v) (vs' := s.vs) rfl rfl rfl rfl (Nat.le_refl _) (Keep.app _)
      have b0 := s2.oneA (ro := ro) (k := 0) (by simp)
      have b1 := s2.oneA (ro := ro) (k := 1) (by simp)
      have b2 := s2.oneA (ro := ro) (k := 2) (by simp)
      have b3 := s2.oneA (ro := ro) (k := 3) (by simp)
      simp only [List.getD_cons_zero, List.getD_cons_succ] at b0 b1 b2 b3
      have e : decide (stepP l x = none) = false := by simp [hs]
      rw [e]
      simp only [cond_false, hw, q1, q2, bindO_some, al_ok, bindP_some, s1, p_faddr, b0, b1, b2, b3, asI_i, tupA]
      rw [fin_keep s5 rfl, hs]
      rfl

/-- the program's turned -/
theorem turned77 {ro : List ABlk} {h : Heap} {s : Sp} (h1 : -1000 ≤ s.lo ∧ s.lo ≤ 1000) (h2 : -1000 ≤ s.hi ∧ s.hi ≤ 1000) : callX F1 ro 77 [s.v] h = some (s.turn.v, h, h.length, h.length) := by
  refine g77_ok (meansX_ok F1 ro) rfl ?_
  unfold g77
  have hb : stepM ro ⟨h, h.length, h.length⟩ (.bx 31 4 (.c s.v)) = _ := bx_ok (vs := s.vs) 31 rfl
  rw [hb]
  have d1 := (Holds.new h 31 s.vs).ext [some (blkOf 31 z4)]
  have b0 := d1.one (ro := ro) (l := h.length) (p := h.length) (k := 0) (by simp)
  have b1 := d1.one (ro := ro) (l := h.length) (p := h.length) (k := 1) (by simp)
  have b2 := d1.one (ro := ro) (l := h.length) (p := h.length) (k := 2) (by simp)
  have b3 := d1.one (ro := ro) (l := h.length) (p := h.length) (k := 3) (by simp)
  simp only [List.getD_cons_zero, List.getD_cons_succ] at b0 b1 b2 b3
  obtain ⟨hp', s1, s2, s3, s4, s5⟩ := (Holds.new (h ++ [some (blkOf 31 s.vs)]) 31 z4).st (ro := ro) (h := h) (n := 4) (v := s.turn.v) (vs' := s.turn.vs) rfl rfl rfl rfl (by simp) ((Keep.app _).trans (Keep.app _))
  have hf : (fillA z4 [((0, 1), (.i .i64 s.t)), ((1, 1), (.i .i64 s.f)), ((2, 1), (.i .i64 (0 - s.hi))), ((3, 1), (.i .i64 (0 - s.lo)))]).map AVal.agg = some s.turn.v := by
    have e1 : (0 : Int) - s.hi = -s.hi := by omega
    have e2 : (0 : Int) - s.lo = -s.lo := by omega
    rw [e1, e2]; rfl
  simp only [bindP_some, al_ok, p_faddr, bindO_some, b0, b1, b2, b3, asI_i, forceI_eq, wr_id' (x := 0 - s.hi) (by omega) (by omega), wr_id' (x := 0 - s.lo) (by omega) (by omega), hf, s1, s2.all (ro := ro) (l := h.length) (p := h.length) (n := 4) rfl, tupA]
  exact fin_keep s5 rfl

/-- the program's step -/
def step74V (o : Option Sp) : AVal := match o with
  | some s => .tup [s.v, .b true]
  | none => .tup [.agg z4, .b false]
theorem step74 {ro : List ABlk} {h : Heap} {t n : Int} {v : AVal} {l : List Sp} (a : IsSpans ro h v l) (ok : Ok t n l) {x : Int} (hx : inI64 x) : callX F1 ro 74 [demV t n v, .i .i64 x] h = some (step74V (stepP l x), h, h.length, h.length) := by
  refine g74_ok (meansX_ok F1 ro) rfl ?_
  unfold g74
  have hlen := ok.len
  obtain ⟨hx1, hx2⟩ := hx
  have hb : stepM ro ⟨h, h.length, h.length⟩ (.bx 55 3 (.c (demV t n v))) = _ := bx_ok (vs := [.i .i64 t, .i .i64 n, v]) 55 rfl
  rw [hb]
  have kp : Keep h (h ++ [some (blkOf 55 [.i .i64 t, .i .i64 n, v])] ++ [some (blkOf 31 z4)]) := (Keep.app _).trans (Keep.app _)
  have am := a.by kp
  have d1 := (Holds.new h 55 [.i .i64 t, .i .i64 n, v]).ext [some (blkOf 31 z4)]
  have b2 := d1.one (ro := ro) (l := h.length) (p := h.length) (k := 2) (by simp)
  simp only [List.getD_cons_zero, List.getD_cons_succ] at b2
  have d4 := Holds.new (h ++ [some (blkOf 55 [.i .i64 t, .i .i64 n, v])]) 31 z4
  simp only [bindP_some, al_ok, p_faddr, bindO_some, b2, len_spans am, asI_i, forceB_eq, forceI_eq, ltI_eq, bindO_and, wr_id' (x := 0 - (l.length : Int)) (by omega) (by omega)]
  have hc1 : (!decide (x < 1) && !decide ((l.length : Int) < x)) = decide (1 ≤ x ∧ x ≤ l.length) := by
    rw [Bool.eq_iff_iff]
    simp only [Bool.and_eq_true, Bool.not_eq_true', decide_eq_false_iff_not, decide_eq_true_eq]
    omega
  have hc2 : (!decide (-1 < x) && !decide (x < 0 - (l.length : Int))) = decide (x ≤ -1 ∧ -(l.length : Int) ≤ x) := by
    rw [Bool.eq_iff_iff]
    simp only [Bool.and_eq_true, Bool.not_eq_true', decide_eq_false_iff_not, decide_eq_true_eq]
    omega
  rw [hc1]
  have fin : ∀ (hp : Heap) (w : AVal) (c : Bool), Keep h hp → w.bel h.length = true → finM h.length (tupA [w, .b c]) ⟨hp, h.length, h.length⟩ = some (.tup [w, .b c], h, h.length, h.length) := fun hp w c k hw => by
    refine fin_keep k ?_
    simp [tupA, AVal.bel, bels, hw]
  by_cases h1 : 1 ≤ x ∧ x ≤ l.length
  · have hs : stepP l x = some (l.getD (x.toNat - 1) Sp.z) := by unfold stepP; rw [if_pos h1]
    have hi : x.toNat - 1 < l.length := by omega
    have hw : wr .i64 (x - 1) = ((x.toNat - 1 : Nat) : Int) := by
      rw [wr_id' (by omega) (by omega)]; omega
    obtain ⟨q, q1, q2, q3, q4⟩ := at_span am hi
    generalize l.getD (x.toNat - 1) Sp.z = s at *
    obtain ⟨hp', s1, s2, s3, s4, s5⟩ := d4.st (ro := ro) (h := h) (n := 4) (v := s.v) (vs' := s.vs) rfl rfl rfl rfl (by simp) kp
    simp only [h1, decide_true, cond_true, and_self, hw, q1, q2, bindO_some, s1, bindP_some, s2.all (ro := ro) (l := h.length) (p := h.length) (n := 4) rfl]
    rw [fin hp' s.v true s5 rfl, hs]
    rfl
  · have e1 : decide (1 ≤ x ∧ x ≤ (l.length : Int)) = false := decide_eq_false h1
    rw [e1]
    simp only [cond_false]
    rw [hc2]
    by_cases h2 : x ≤ -1 ∧ -(l.length : Int) ≤ x
    · have hs : stepP l x = some (l.getD ((-x).toNat - 1) Sp.z).turn := by unfold stepP; rw [if_neg h1, if_pos h2]
      have hi : (-x).toNat - 1 < l.length := by omega
      have hsp := ok.sp _ hi
      have hw : wr .i64 (wr .i64 (0 - x) - 1) = (((-x).toNat - 1 : Nat) : Int) := by
        rw [wr_id' (x := 0 - x) (by omega) (by omega), wr_id' (by omega) (by omega)]; omega
      obtain ⟨q, q1, q2, q3, q4⟩ := at_span am hi
      generalize l.getD ((-x).toNat - 1) Sp.z = s at *
      unfold spOk at hsp
      obtain ⟨r1, r2, r3, r4⟩ := ok.r
      obtain ⟨hp', s1, s2, s3, s4, s5⟩ := d4.st (ro := ro) (h := h) (n := 4) (v := s.turn.v) (vs' := s.turn.vs) rfl rfl rfl rfl (by simp) kp
      have e2 : decide (x ≤ -1 ∧ -(l.length : Int) ≤ x) = true := decide_eq_true h2
      rw [e2]
      simp only [cond_true, hw, q1, q2, bindO_some, meansX_call, callM_pure (turned77 (ro := ro) (s := s) (by omega) (by omega)) kp.1 kp.1, s1, bindP_some, s2.all (ro := ro) (l := h.length) (p := h.length) (n := 4) rfl]
      rw [fin hp' s.turn.v true s5 rfl, hs]
      rfl
    · have hs : stepP l x = none := by unfold stepP; rw [if_neg h1, if_neg h2]
      have e2 : decide (x ≤ -1 ∧ -(l.length : Int) ≤ x) = false := decide_eq_false h2
      obtain ⟨hp', s1, s2, s3, s4, s5⟩ := d4.st (ro := ro) (h := h) (n := 4) (v := .agg z4) (vs' := z4) rfl rfl rfl rfl (by simp) kp
      have hf : (fillA z4 []).map AVal.agg = some (.agg z4) := rfl
      rw [e2]
      simp only [cond_false, hf, bindO_some, s1, bindP_some, s2.all (ro := ro) (l := h.length) (p := h.length) (n := 4) rfl]
      rw [fin hp' (.agg z4) false s5 rfl, hs]
      rfl

end Go.Proofs.YtddnpchfjdgigaaDoor.T

/- The program's ring. -/
open Go.Vm
set_option linter.unusedVariables false
namespace Go.Proofs.YtddnpchfjdgigaaDoor.T
open Go

/-- the first k steps of a ring -/
structure Pre (l : List Sp) (xs : List Int) (k : Nat) (ss : List Sp) : Prop where
  len : ss.length = k
  le : k ≤ xs.length
  st : ∀ i, i < k → stepP l (xs.getD i 0) = some (ss.getD i Sp.z)
  nx : ∀ i, i + 1 < k → (ss.getD i Sp.z).t = (ss.getD (i + 1) Sp.z).f
/-- no event is met twice, by where steps end -/
def Pre.ends (k : Nat) (ss : List Sp) : Prop := ∀ i j, i < j → j < k → (ss.getD i Sp.z).t ≠ (ss.getD j Sp.z).t
/-- a ring -/
structure RingC (l : List Sp) (xs : List Int) (ss : List Sp) : Prop where
  pre : Pre l xs xs.length ss
  ends : Pre.ends xs.length ss
  two : 2 ≤ xs.length
  cl : (ss.getD (xs.length - 1) Sp.z).t = (ss.getD 0 Sp.z).f
theorem getD_snoc {ss : List Sp} {s : Sp} {i : Nat} (hi : i < ss.length) : (ss ++ [s]).getD i Sp.z = ss.getD i Sp.z := by
  simp [List.getD, List.getElem?_append_left hi]
theorem getD_snoc' {ss : List Sp} {s : Sp} : (ss ++ [s]).getD ss.length Sp.z = s := by simp [List.getD]
theorem Pre.uniq {l : List Sp} {xs : List Int} {k k' : Nat} {ss ss' : List Sp} (p : Pre l xs k ss) (p' : Pre l xs k' ss') {i : Nat} (h : i < k) (h' : i < k') : ss.getD i Sp.z = ss'.getD i Sp.z := by
  have := p.st i h
  rw [p'.st i h'] at this
  exact (Option.some.inj this).symm

theorem loop_upto3 {R : Type} {b : AVal × Int × Mm → Option ((AVal × Int × Mm) ⊕ ((AVal × Mm) ⊕ R))} (n : Nat) (I : Nat → AVal → Mm → Prop) (Q : R → Prop)
    (hin : ∀ i v m, i < n → I i v m → (∃ v' m', b (v, (i : Int), m) = some (.inl (v', ((i + 1 : Nat) : Int), m')) ∧ I (i + 1) v' m') ∨ (∃ r, b (v, (i : Int), m) = some (.inr (.inr r)) ∧ Q r))
    (hout : ∀ v m, I n v m → b (v, (n : Int), m) = some (.inr (.inl (v, m)))) :
    ∀ (k i : Nat) (v : AVal) (m : Mm), i + k = n → I i v m → ∃ o, loopX b (v, (i : Int), m) = some o ∧ ((∃ v' m', o = .inl (v', m') ∧ I n v' m') ∨ ∃ r, o = .inr r ∧ Q r)
  | 0, i, v, m, hk, hi => by
    obtain rfl : i = n := by omega
    exact ⟨_, loopX_out (hout v m hi), .inl ⟨v, m, rfl, hi⟩⟩
  | k + 1, i, v, m, hk, hi => by
    rcases hin i v m (by omega) hi with ⟨v', m', h1, h2⟩ | ⟨r, h1, h2⟩
    · obtain ⟨o, h3, h4⟩ := loop_upto3 n I Q hin hout k (i + 1) v' m' (by omega) h2
      exact ⟨o, loopX_on h1 h3, h4⟩
    · exact ⟨_, loopX_out h1, .inr ⟨r, rfl, h2⟩⟩

/-- one cell of a block is written -/
theorem Holds.set {ro : List ABlk} {h hp : Heap} {b k : Nat} {vs : List AVal} {v : AVal} (a : Holds hp b vs) (hk : k < vs.length) (hv : v.one = true) (hc : v.cells = [v]) (hn : nonp [v] = true) (hL : h.length ≤ b) (kp : Keep h hp) :
    ∃ hp', stepM ro ⟨hp, h.length, h.length⟩ (.st 1 (.c (.p (some ⟨false, b, 0 + k * 1⟩))) (.c v)) = some (und, ⟨hp', h.length, h.length⟩) ∧ Holds hp' b (vs.set k v) ∧ hp'.length = hp.length ∧ (∀ i, i ≠ b → hp'[i]? = hp[i]?) ∧ Keep h hp' := by
  obtain ⟨blk, h1, h2, h3⟩ := a
  have e : 0 + k * 1 = k := by omega
  refine ⟨hp.set b (some { blk with c := blk.c.set k v }), ?_, ⟨_, lget_set h1 _, by simpa using h2, fun j hj => ?_⟩, by simp, fun i hi => List.getElem?_set_ne (Ne.symm hi), kp.set hL _⟩
  · rw [e, st_heap h1 (by omega) hv hc hn, Nat.min_eq_left hL]
  · show (blk.c.set k v).get j = _
    rw [get_set]
    simp only [List.length_set] at hj
    by_cases e : k = j
    · subst e; simp [List.getD, hj]
    · rw [if_neg e, h3 j hj]
      simp [List.getD, List.getElem?_set_ne e]

/-- which events have been met -/
def metV (ss : List Sp) : List AVal := (List.range 6).map fun e : Nat => .b (decide (∃ j, j < ss.length ∧ (ss.getD j Sp.z).t = (e : Int)))
theorem metV_get {ss : List Sp} {e : Nat} (he : e < 6) : (metV ss).getD e und = .b (decide (∃ j, j < ss.length ∧ (ss.getD j Sp.z).t = (e : Int))) := by
  unfold metV
  rw [List.getD_eq_getElem?_getD, List.getElem?_map, List.getElem?_range he]
  rfl
theorem metV_set {ss : List Sp} {s : Sp} {e : Nat} (hs : s.t = (e : Int)) (he : e < 6) : (metV ss).set e (.b true) = metV (ss ++ [s]) := by
  refine List.ext_getElem (by simp [metV]) fun i h1 h2 => ?_
  simp only [List.length_set, metV, List.length_map, List.length_range] at h1
  rw [List.getElem_set]
  simp only [metV, List.getElem_map, List.getElem_range]
  by_cases hei : e = i
  · subst hei
    rw [if_pos rfl]
    congr 1
    refine (decide_eq_true ⟨ss.length, by simp, ?_⟩).symm
    rw [getD_snoc']; exact hs
  · rw [if_neg hei]
    congr 1
    refine decide_eq_decide.2 ⟨fun ⟨j, h3, h4⟩ => ⟨j, by simp; omega, by rw [getD_snoc h3]; exact h4⟩, fun ⟨j, h3, h4⟩ => ?_⟩
    simp only [List.length_append, List.length_singleton] at h3
    rcases Nat.lt_or_ge j ss.length with h5 | h5
    · exact ⟨j, h5, by rw [getD_snoc h5] at h4; exact h4⟩
    · obtain rfl : j = ss.length := by omega
      rw [getD_snoc', hs] at h4
      omega

def RI (l : List Sp) (xs : List Int) (t n : Int) (v : AVal) (h : Heap) (i : Nat) (v7 : AVal) (m : Mm) : Prop := m.lw = h.length ∧ m.lp = h.length ∧ Keep h m.h ∧ Holds m.h h.length [.i .i64 t, .i .i64 n, v] ∧ ∃ ss, Pre l xs i ss ∧ Pre.ends i ss ∧ Holds m.h (h.length + 1) (metV ss) ∧ GV m.h (h.length + 2) 31 4 v7 i (ss.flatMap Sp.vs)
def RQ (l : List Sp) (xs : List Int) (h : Heap) (r : AVal × Bool × Mm) : Prop := r.1 = .nsl ∧ r.2.1 = false ∧ r.2.2.lw = h.length ∧ r.2.2.lp = h.length ∧ Keep h r.2.2.h ∧ ¬ ∃ ss, RingC l xs ss
theorem ring54_step {ro : List ABlk} {h : Heap} {t n : Int} {v w : AVal} {l : List Sp} {xs : List Int} (a : IsSpans ro h v l) (ok : Ok t n l) (r : IsRow ro h w xs) (hx : ∀ x ∈ xs, inI64 x) (h40 : xs.length ≤ 40) (i : Nat) (v7 : AVal) (m : Mm) (hi : i < xs.length) (hI : RI l xs t n v h i v7 m) :
    (∃ v' m', g54_b0 (meansX F1 ro) ro (.p (some ⟨false, h.length, 0⟩)) (.p (some ⟨false, h.length + 1, 0⟩)) w xs.length v7 (i : Int) m = some (.inl (v', ((i + 1 : Nat) : Int), m')) ∧ RI l xs t n v h (i + 1) v' m') ∨ (∃ r, g54_b0 (meansX F1 ro) ro (.p (some ⟨false, h.length, 0⟩)) (.p (some ⟨false, h.length + 1, 0⟩)) w xs.length v7 (i : Int) m = some (.inr (.inr r)) ∧ RQ l xs h r) := by
  obtain ⟨r1, r2, r3, r4⟩ := ok.r
  have hv1 := a.one
  obtain ⟨hp, lw, lp⟩ := m
  obtain ⟨g1, g2, g3, g4, ss, pre, ends, gm, gv⟩ := hI
  simp only at g1 g2 g3 g4 gm gv
  subst g1 g2
  obtain ⟨p, p1, p2, p3⟩ := at_row (m := ⟨hp, h.length, h.length⟩) rfl (row_by r g3) hi
  have hxi : inI64 (xs.getD i 0) := by
    have : xs.getD i 0 = xs[i] := by simp [List.getD, hi]
    rw [this]; exact hx _ (List.getElem_mem hi)
  generalize hxe : xs.getD i 0 = x at *
  have am := a.by g3
  have hst := step74 (ro := ro) (h := hp) (t := t) (n := n) am ok hxi
  have hl := pre.len
  have hhp : h.length + 2 ≤ hp.length := by have := gm.lt; omega
  cases hs : stepP l x with
  | none =>
    rw [hs] at hst
    obtain ⟨hp', s1, s2, s3, s4, s5⟩ := (Holds.new hp 31 z4).st (ro := ro) (h := h) (n := 4) (v := .agg z4) (vs' := z4) rfl rfl rfl rfl g3.1 (g3.trans (Keep.app _))
    refine .inr ⟨(.nsl, false, ⟨hp', h.length, h.length⟩), ?_, rfl, rfl, rfl, rfl, s5, fun ⟨ss', rc⟩ => ?_⟩
    · have hal := al_ok (ro := ro) (hp := hp) (l := h.length) (p := h.length) 31 z4
      simp only [g54_b0, forceB_eq, ltI_eq, lt_yes hi, cond_true, p1, p2, bindO_some, asI_i, g4.all (ro := ro) (l := h.length) (p := h.length) (n := 3) rfl, meansX_call, callM_pure hst g3.1 g3.1, bindP_some, step74V, ext0, ext1, asB_b, hal, s1, Bool.not_false]
    · have := rc.pre.st i hi
      rw [hxe, hs] at this; cases this
  | some s =>
    rw [hs] at hst
    have hrng := stepP_rng ok hs
    obtain ⟨e, he⟩ : ∃ e : Nat, s.t = (e : Int) := ⟨s.t.toNat, by omega⟩
    have he6 : e < 6 := by omega
    obtain ⟨hp', s1, s2, s3, s4, s5⟩ := (Holds.new hp 31 z4).st (ro := ro) (h := h) (n := 4) (v := s.v) (vs' := s.vs) rfl rfl rfl rfl g3.1 (g3.trans (Keep.app _))
    have kp : Keep hp hp' := ⟨by rw [s3]; simp, fun i hi => by rw [s4 i (by omega)]; exact List.getElem?_append_left hi⟩
    have b0 := s2.oneA (ro := ro) (k := 0) (by simp)
    have b1 := s2.oneA (ro := ro) (k := 1) (by simp)
    have c1 := s2.one (ro := ro) (l := h.length) (p := h.length) (k := 1) (by simp)
    simp only [List.getD_cons_zero, List.getD_cons_succ] at b0 b1 c1
    have gm' := gm.by kp
    have gv' := gv.by kp
    have hml : (metV ss).length = 6 := by simp [metV]
    have bm := gm'.oneA (ro := ro) (k := e) (by omega)
    rw [metV_get he6] at bm
    have sp := gv'.spans (ro := ro) hl
    have hix : evP .e (.ixA 6 1 (.c (.p (some ⟨false, h.length + 1, 0⟩))) (.c (.i .i64 s.t))) = some (.p (some ⟨false, h.length + 1, 0 + e * 1⟩)) := p_ixA he he6
    have bm' : ldA ro hp' true 1 (.p (some ⟨false, h.length + 1, 0 + e * 1⟩)) = some (.b (decide (∃ j, j < ss.length ∧ (ss.getD j Sp.z).t = (e : Int)))) := by rw [Nat.mul_one]; exact bm
    have hal := al_ok (ro := ro) (hp := hp) (l := h.length) (p := h.length) 31 z4
    have hd := g4.all (ro := ro) (l := h.length) (p := h.length) (n := 3) rfl
    have other : ∀ ss', RingC l xs ss' → (∀ j, j < i → ss'.getD j Sp.z = ss.getD j Sp.z) ∧ ss'.getD i Sp.z = s := fun ss' rc => ⟨fun j hj => rc.pre.uniq pre (by omega) hj, by
      have := rc.pre.st i hi
      rw [hxe, hs] at this
      exact (Option.some.inj this).symm⟩
    by_cases hm : ∃ j, j < ss.length ∧ (ss.getD j Sp.z).t = (e : Int)
    · have em : decide (∃ j, j < ss.length ∧ (ss.getD j Sp.z).t = (e : Int)) = true := decide_eq_true hm
      rw [em] at bm'
      refine .inr ⟨(.nsl, false, ⟨hp', h.length, h.length⟩), ?_, rfl, rfl, rfl, rfl, s5, fun ⟨ss', rc⟩ => ?_⟩
      · simp only [g54_b0, forceB_eq, ltI_eq, lt_yes hi, cond_true, p1, p2, bindO_some, asI_i, hd, meansX_call, callM_pure hst g3.1 g3.1, bindP_some, step74V, ext0, ext1, asB_b, hal, s1, Bool.not_true, cond_false, p_faddr, b1, hix, bm']
      · obtain ⟨o1, o2⟩ := other ss' rc
        obtain ⟨j, hj, hje⟩ := hm
        refine rc.ends j i (by omega) hi ?_
        rw [o1 j (by omega), o2, hje, he]
    · have em : decide (∃ j, j < ss.length ∧ (ss.getD j Sp.z).t = (e : Int)) = false := decide_eq_false hm
      rw [em] at bm'
      -- is it next to the one before?
      have hq : ∃ c47, (bindO (cond (decide (0 < (i : Int))) (bindO (evP .e (.ixS 4 (.c v7) (.c (.i .i64 (wr .i64 ((i : Int) - 1)))))) fun v42 => bindO (evP .e (.faddr 1 (.c v42))) fun v43 => bindO (ldA ro hp' true 1 v43) fun v44 => asI .i64 v44 fun x44 => some (!(s.f == x44))) (some false)) fun c => some c) = some c47 ∧ (c47 = false ↔ (0 < i → (ss.getD (i - 1) Sp.z).t = s.f)) := by
        by_cases h0 : 0 < i
        · obtain ⟨⟨qr, qb, qo⟩, q1, q2, q3, q4⟩ := at_span sp (i := i - 1) (by omega)
          have c1 := (q4 1 (by omega)).1
          simp only [List.getD_cons_zero, List.getD_cons_succ] at c1
          have e1 : decide (0 < (i : Int)) = true := decide_eq_true (by omega)
          have hw : wr .i64 ((i : Int) - 1) = ((i - 1 : Nat) : Int) := by rw [wr_id' (by omega) (by omega)]; omega
          refine ⟨!(s.f == (ss.getD (i - 1) Sp.z).t), ?_, ?_⟩
          · simp only [e1, cond_true, p_faddr, bindO_some, asI_i, hw, q1, c1]
          · simp only [Bool.not_eq_false', beq_iff_eq]
            exact ⟨fun h _ => h.symm, fun h => (h h0).symm⟩
        · have e1 : decide (0 < (i : Int)) = false := decide_eq_false (by omega)
          exact ⟨false, by simp only [e1, cond_false, bindO_some], ⟨fun _ h => absurd h h0, fun _ => rfl⟩⟩
      obtain ⟨c47, hq1, hq2⟩ := hq
      by_cases hnx : 0 < i → (ss.getD (i - 1) Sp.z).t = s.f
      · have hc : c47 = false := hq2.2 hnx
        subst hc
        obtain ⟨hp2, w1, w2, w3, w4, w5⟩ := gm'.set (ro := ro) (h := h) (k := e) (v := .b true) (by omega) rfl rfl rfl (by omega) s5
        rw [metV_set he he6] at w2
        have c52 := (s2.keep (hp' := hp2) (w4 hp.length (by omega))).all (ro := ro) (l := h.length) (p := h.length) (n := 4) rfl
        have gv2 : GV hp2 (h.length + 2) 31 4 v7 i (ss.flatMap Sp.vs) := by
          rcases gv' with h5 | ⟨b, blk, h5, h6, h7, h8, h9⟩
          · exact .inl h5
          · exact .inr ⟨b, blk, h5, h6, h7, by rw [lget_of (w4 b (by omega))]; exact h8, h9⟩
        obtain ⟨v2, hp3, v3, hp4, u1, u2, u3, u4, u5⟩ := gv2.push (ro := ro) (L0 := h.length) (bytes := 32) (z := z4) (w := s.v) (ws := s.vs) (by omega) (by have := w2.lt; omega) (by omega) (by omega) (by omega) rfl rfl rfl rfl rfl
        have hw1 : wr .i64 ((i : Int) + 1) = ((i + 1 : Nat) : Int) := wr_next (by omega)
        refine .inl ⟨v3, ⟨hp4, h.length, h.length⟩, ?_, rfl, rfl, ⟨by have := w5.1; have := w2.lt; show h.length ≤ hp4.length; omega, fun k hk => by show hp4[k]? = _; rw [u5 k (by omega)]; exact w5.2 k hk⟩, ?_, ss ++ [s], ⟨by simp [hl], by omega, fun k hk => ?_, fun k hk => ?_⟩, fun a b hab hb => ?_, ?_, ?_⟩
        · simp only [g54_b0, forceB_eq, ltI_eq, lt_yes hi, cond_true, p1, p2, bindO_some, asI_i, hd, meansX_call, callM_pure hst g3.1 g3.1, bindP_some, step74V, ext0, ext1, asB_b, hal, s1, Bool.not_true, cond_false, p_faddr, b1, b0, hix, bm', forceI_eq, eqI_eq]
          rw [hq1]
          simp only [bindO_some, cond_false, c1, asI_i, hix, w1, bindP_some, c52, u1, u2, hw1]
        · exact (((g4.by kp).keep (w4 h.length (by omega))).keep (u5 h.length (by omega)))
        · rcases Nat.lt_or_ge k i with h3 | h3
          · rw [getD_snoc (by omega)]; exact pre.st k h3
          · obtain rfl : k = i := by omega
            rw [← hl, getD_snoc', hl, hxe, hs]
        · rcases Nat.lt_or_ge (k + 1) i with h3 | h3
          · rw [getD_snoc (by omega), getD_snoc (by omega)]; exact pre.nx k h3
          · obtain rfl : i = k + 1 := by omega
            rw [getD_snoc (by omega)]
            have e1 : (ss ++ [s]).getD (k + 1) Sp.z = s := by rw [← hl]; exact getD_snoc'
            rw [e1]
            exact hnx (by omega)
        · rcases Nat.lt_or_ge b i with h3 | h3
          · rw [getD_snoc (by omega), getD_snoc (by omega)]; exact ends a b hab h3
          · obtain rfl : b = i := by omega
            have e1 : (ss ++ [s]).getD b Sp.z = s := by rw [← hl]; exact getD_snoc'
            rw [getD_snoc (by omega), e1]
            exact fun k => hm ⟨a, by omega, by rw [k, he]⟩
        · exact w2.keep (u5 (h.length + 1) (by omega))
        · rw [List.flatMap_append]
          simpa using u3
      · have hc : c47 = true := by
          cases c47
          · exact absurd (hq2.1 rfl) hnx
          · rfl
        subst hc
        refine .inr ⟨(.nsl, false, ⟨hp', h.length, h.length⟩), ?_, rfl, rfl, rfl, rfl, s5, fun ⟨ss', rc⟩ => ?_⟩
        · simp only [g54_b0, forceB_eq, ltI_eq, lt_yes hi, cond_true, p1, p2, bindO_some, asI_i, hd, meansX_call, callM_pure hst g3.1 g3.1, bindP_some, step74V, ext0, ext1, asB_b, hal, s1, Bool.not_true, cond_false, p_faddr, b1, b0, hix, bm', forceI_eq, eqI_eq]
          rw [hq1]
          simp only [bindO_some, cond_true]
        · obtain ⟨o1, o2⟩ := other ss' rc
          refine hnx fun h0 => ?_
          have := rc.pre.nx (i - 1) (by omega)
          rw [show i - 1 + 1 = i by omega, o2, o1 (i - 1) (by omega)] at this
          exact this

theorem metV_nil : metV [] = [(AVal.b false), (AVal.b false), (AVal.b false), (AVal.b false), (AVal.b false), (AVal.b false)] := by
  unfold metV
  simp [List.range_succ]
def m54 (h : Heap) (t n : Int) (v : AVal) : Mm := ⟨h ++ [some (blkOf 55 [.i .i64 t, .i .i64 n, v])] ++ [some (blkOf 96 (metV []))], h.length, h.length⟩
def after54 (ro : List ABlk) (L : Nat) (o : (AVal × Mm) ⊕ (AVal × Bool × Mm)) : Option (AVal × Heap × Nat × Nat) := match o with
  | (.inl (v7_1, m_10)) =>
    bindO (evP .e (.len false (.c v7_1))) fun v57 =>
    asI .i64 v57 fun x57 =>
    forceB (ltI x57 2) fun c58 =>
    bindO (cond c58 (
      some true) (
      bindO (evP .e (.len false (.c v7_1))) fun v62 =>
      asI .i64 v62 fun x62 =>
      forceI (wr .i64 (x62 - 1)) fun x63 =>
      bindO (evP .e (.ixS 4 (.c v7_1) (.c (.i .i64 x63)))) fun v64 =>
      bindO (evP .e (.faddr 1 (.c v64))) fun v65 =>
      bindO (ldA ro m_10.h true 1 v65) fun v66 =>
      asI .i64 v66 fun x66 =>
      bindO (evP .e (.ixS 4 (.c v7_1) (.c (.i .i64 0)))) fun v68 =>
      bindO (evP .e (.faddr 0 (.c v68))) fun v69 =>
      bindO (ldA ro m_10.h true 1 v69) fun v70 =>
      asI .i64 v70 fun x70 =>
      forceB (!eqI x66 x70) fun c71 =>
      some c71)) fun c72 =>
    cond c72 (
      finM L (tupA [AVal.nsl, (.b false)]) m_10) (
      finM L (tupA [v7_1, (.b true)]) m_10)
  | (.inr (v4, c5, m_11)) =>
    finM L (tupA [v4, (.b c5)]) m_11
end Go.Proofs.YtddnpchfjdgigaaDoor.T

/- The program's ring: its end. -/
open Go.Vm
set_option linter.unusedVariables false
namespace Go.Proofs.YtddnpchfjdgigaaDoor.T
open Go
theorem g54_eq {ro : List ABlk} {h : Heap} {t n : Int} {v w : AVal} {xs : List Int} (r : IsRow ro h w xs) {o : (AVal × Mm) ⊕ (AVal × Bool × Mm)} (h1 : loopX (fun s : AVal × Int × Mm => g54_b0 (meansX F1 ro) ro (.p (some ⟨false, h.length, 0⟩)) (.p (some ⟨false, h.length + 1, 0⟩)) w xs.length s.1 s.2.1 s.2.2) (.nsl, 0, m54 h t n v) = some o) :
    g54 (meansX F1 ro) ro (demV t n v) w ⟨h, h.length, h.length⟩ = after54 ro h.length o := by
  have hbx : stepM ro ⟨h, h.length, h.length⟩ (.bx 55 3 (.c (demV t n v))) = _ := bx_ok (vs := [.i .i64 t, .i .i64 n, v]) 55 rfl
  have elen : (h ++ [some (blkOf 55 [.i .i64 t, .i .i64 n, v])]).length = h.length + 1 := by simp
  unfold m54 at h1
  rw [metV_nil] at h1
  unfold g54
  rw [hbx, bindP_some, al_ok, bindP_some, len_row r, bindO_some, asI_i, meansX_loop, elen, h1, bindO_some]
  rcases o with ⟨v7, m⟩ | ⟨v4, c5, m⟩
  · rfl
  · rfl
theorem fin_new {hp : Heap} {v : AVal} {L l p : Nat} (hb : v.bel L = false) : finM L v ⟨hp, l, p⟩ = some (v, hp, l, p) := by
  simp only [finM, gc, hb, Bool.and_false, Bool.false_eq_true, if_false]

theorem ring54 {ro : List ABlk} {h : Heap} {t n : Int} {v w : AVal} {l : List Sp} {xs : List Int} (a : IsSpans ro h v l) (ok : Ok t n l) (r : IsRow ro h w xs) (hx : ∀ x ∈ xs, inI64 x) (h40 : xs.length ≤ 40) :
    (∃ u hp ss, callX F1 ro 54 [demV t n v, w] h = some (.tup [u, .b true], hp, h.length, h.length) ∧ Keep h hp ∧ IsSpans ro hp u ss ∧ RingC l xs ss) ∨
    (callX F1 ro 54 [demV t n v, w] h = some (.tup [.nsl, .b false], h, h.length, h.length) ∧ ¬ ∃ ss, RingC l xs ss) := by
  have d2 := (Holds.new h 55 [.i .i64 t, .i .i64 n, v]).ext [some (blkOf 96 (metV []))]
  have d6 := Holds.new (h ++ [some (blkOf 55 [.i .i64 t, .i .i64 n, v])]) 96 (metV [])
  have elen : (h ++ [some (blkOf 55 [.i .i64 t, .i .i64 n, v])]).length = h.length + 1 := by simp
  rw [elen] at d6
  obtain ⟨o, h1, h2⟩ := loop_upto3 (b := fun s => g54_b0 (meansX F1 ro) ro (.p (some ⟨false, h.length, 0⟩)) (.p (some ⟨false, h.length + 1, 0⟩)) w xs.length s.1 s.2.1 s.2.2) xs.length (RI l xs t n v h) (RQ l xs h) (ring54_step a ok r hx h40) (fun v7 m _ => by simp only [g54_b0, forceB_eq, ltI_eq, lt_no, cond_false]) xs.length 0 .nsl (m54 h t n v) (by omega)
    ⟨rfl, rfl, (Keep.app _).trans (Keep.app _), d2, [], ⟨rfl, Nat.zero_le _, fun i hi => by omega, fun i hi => by omega⟩, fun i j _ hj => by omega, d6, GV.nil _ _ _ _⟩
  have e0 : ((0 : Nat) : Int) = 0 := rfl
  rw [e0] at h1
  have hg := g54_eq r h1
  have no : ∀ hp : Heap, Keep h hp → finM h.length (tupA [AVal.nsl, .b false]) ⟨hp, h.length, h.length⟩ = some (.tup [.nsl, .b false], h, h.length, h.length) := fun hp k => fin_keep k rfl
  rcases h2 with ⟨v', ⟨hp, lw, lp⟩, rfl, g1, g2, g3, g4, ss, pre, ends, gm, gv⟩ | ⟨⟨x, c, hp, lw, lp⟩, rfl, k1, k2, g1, g2, g3, g4⟩
  · simp only at g1 g2 g3 g4 gm gv
    subst g1 g2
    have sp := gv.spans (ro := ro) pre.len
    have hl := pre.len
    simp only [after54, len_spans sp, bindO_some, asI_i, hl, forceB_eq, ltI_eq] at hg
    by_cases h2l : 2 ≤ xs.length
    · obtain ⟨⟨qr, qb, qo⟩, q1, q2, q3, q4⟩ := at_span sp (i := xs.length - 1) (by omega)
      obtain ⟨⟨qr', qb', qo'⟩, q1', q2', q3', q4'⟩ := at_span sp (i := 0) (by omega)
      rw [e0] at q1'
      have b1 := (q4 1 (by omega)).1
      have b0 := (q4' 0 (by omega)).1
      simp only [List.getD_cons_zero, List.getD_cons_succ] at b0 b1
      have e1 : decide ((xs.length : Int) < 2) = false := decide_eq_false (by omega)
      have hw : wr .i64 ((xs.length : Int) - 1) = ((xs.length - 1 : Nat) : Int) := by rw [wr_id' (by omega) (by omega)]; omega
      simp only [e1, cond_false, forceI_eq, hw, q1, q1', bindO_some, p_faddr, b1, b0, asI_i, eqI_eq] at hg
      by_cases hcl : (ss.getD (xs.length - 1) Sp.z).t = (ss.getD 0 Sp.z).f
      · have e2 : ((ss.getD (xs.length - 1) Sp.z).t == (ss.getD 0 Sp.z).f) = true := by simpa using hcl
        have hbel : (tupA [v', .b true]).bel h.length = false := by
          rcases gv with ⟨-, h5, -⟩ | ⟨b, blk, rfl, h5, h6, -⟩
          · omega
          · have := not_bel (L := h.length) (b := b) (off := 0) (len := xs.length) (cap := .grow) (by omega)
            simp only [tupA, AVal.bel, bels] at this ⊢
            rw [this]; rfl
        rw [e2] at hg
        simp only [Bool.not_true, cond_false, fin_new hbel] at hg
        exact .inl ⟨v', hp, ss, g54_ok (meansX_ok F1 ro) rfl hg, g3, sp, ⟨pre, ends, h2l, hcl⟩⟩
      · have e2 : ((ss.getD (xs.length - 1) Sp.z).t == (ss.getD 0 Sp.z).f) = false := by simpa using hcl
        rw [e2] at hg
        simp only [Bool.not_false, cond_true, no hp g3] at hg
        refine .inr ⟨g54_ok (meansX_ok F1 ro) rfl hg, fun ⟨ss', rc⟩ => hcl ?_⟩
        rw [pre.uniq rc.pre (i := xs.length - 1) (by omega) (by omega), pre.uniq rc.pre (i := 0) (by omega) (by omega)]
        exact rc.cl
    · have e1 : decide ((xs.length : Int) < 2) = true := decide_eq_true (by omega)
      simp only [e1, cond_true, bindO_some, no hp g3] at hg
      exact .inr ⟨g54_ok (meansX_ok F1 ro) rfl hg, fun ⟨ss', rc⟩ => h2l rc.two⟩
  · simp only at k1 k2 g1 g2 g3
    subst k1 k2 g1 g2
    simp only [after54, no hp g3] at hg
    exact .inr ⟨g54_ok (meansX_ok F1 ro) rfl hg, g4⟩
end Go.Proofs.YtddnpchfjdgigaaDoor.T

/- The specification's IsRing. -/
open Go.Vm
set_option linter.unusedVariables false
namespace Go.Proofs.YtddnpchfjdgigaaDoor.T
open Go

/-- no event is met twice, by where steps begin -/
def Pre.begs (k : Nat) (ss : List Sp) : Prop := ∀ i j, i < j → j < k → (ss.getD i Sp.z).f ≠ (ss.getD j Sp.z).f
theorem ring_begs {l : List Sp} {xs : List Int} {ss : List Sp} (rc : RingC l xs ss) : Pre.begs xs.length ss := by
  have hnx : ∀ i, 0 < i → i < xs.length → (ss.getD i Sp.z).f = (ss.getD (i - 1) Sp.z).t := fun i h0 hi => by
    have := rc.pre.nx (i - 1) (by omega)
    rw [show i - 1 + 1 = i by omega] at this
    exact this.symm
  intro i j hij hj
  rw [hnx j (by omega) hj]
  rcases Nat.eq_zero_or_pos i with rfl | h0
  · rw [← rc.cl]
    exact fun h => rc.ends (j - 1) (xs.length - 1) (by omega) (by omega) h.symm
  · rw [hnx i h0 (by omega)]
    exact rc.ends (i - 1) (j - 1) (by omega) (by omega)
theorem ring_ends {l : List Sp} {xs : List Int} {ss : List Sp} (pre : Pre l xs xs.length ss) (hb : Pre.begs xs.length ss) (cl : (ss.getD (xs.length - 1) Sp.z).t = (ss.getD 0 Sp.z).f) : Pre.ends xs.length ss := by
  intro i j hij hj
  rw [pre.nx i (by omega)]
  by_cases h : j + 1 < xs.length
  · rw [pre.nx j h]
    exact hb (i + 1) (j + 1) (by omega) h
  · obtain rfl : j = xs.length - 1 := by omega
    rw [cl]
    exact fun h => hb 0 (i + 1) (by omega) (by omega) h.symm
theorem ring_six {t n : Int} {l : List Sp} {xs : List Int} {ss : List Sp} (ok : Ok t n l) (rc : RingC l xs ss) : xs.length ≤ 6 := by
  obtain ⟨r1, r2, r3, r4⟩ := ok.r
  have hg : ∀ i, i < xs.length → 0 ≤ (ss.getD i Sp.z).t ∧ (ss.getD i Sp.z).t < 6 := fun i hi => by
    have := stepP_rng ok (rc.pre.st i hi)
    omega
  have h := nodup_len (l := (List.range xs.length).map fun i => (ss.getD i Sp.z).t.toNat) (l' := List.range 6) ?_ ?_
  · simpa using h
  · rw [List.nodup_iff_pairwise_ne, List.pairwise_map]
    refine List.Pairwise.imp_of_mem ?_ (List.pairwise_lt_range)
    intro a b ha hb hab hc
    have hb' := List.mem_range.1 hb
    have ha' := List.mem_range.1 ha
    have h1 := hg a ha'
    have h2 := hg b hb'
    exact rc.ends a b hab hb' (by omega)
  · intro a ha
    obtain ⟨i, hi, rfl⟩ := List.mem_map.1 ha
    have := hg i (List.mem_range.1 hi)
    exact List.mem_range.2 (by omega)
def loSum (ss : List Sp) : Int := (ss.map Sp.lo).foldl (· + ·) 0
def hiSum (ss : List Sp) : Int := (ss.map Sp.hi).foldl (· + ·) 0
theorem loSum_snoc (ss : List Sp) (s : Sp) : loSum (ss ++ [s]) = loSum ss + s.lo := by simp [loSum]
theorem hiSum_snoc (ss : List Sp) (s : Sp) : hiSum (ss ++ [s]) = hiSum ss + s.hi := by simp [hiSum]

def RI39 (l : List Sp) (xs : List Int) (h : Heap) (i : Nat) (x7 x8 : Int) (v9 : AVal) (x10 x11 : Int) (m : Mm) : Prop :=
  i ≤ xs.length ∧ m.lw = h.length ∧ m.lp = h.length ∧ Keep h m.h ∧ ∃ ss, Pre l xs i ss ∧ Pre.begs i ss ∧ x7 = loSum ss ∧ x8 = hiSum ss ∧ (-1000 * (i : Int) ≤ x7 ∧ x7 ≤ 1000 * (i : Int)) ∧ (-1000 * (i : Int) ≤ x8 ∧ x8 ≤ 1000 * (i : Int)) ∧
    GV m.h h.length 3 1 v9 i ((ss.map Sp.f).map (AVal.i .i64)) ∧ (0 < i → x10 = (ss.getD (i - 1) Sp.z).t ∧ x11 = (ss.getD 0 Sp.z).f)
def RQ39 (l : List Sp) (xs : List Int) (h : Heap) (r : (Int × Int × Int × Int × Mm) ⊕ (Int × Int × Bool × Mm)) : Prop :=
  (∃ x7 x8 v9 x10 x11 m, r = .inl (x7, x8, x10, x11, m) ∧ RI39 l xs h xs.length x7 x8 v9 x10 x11 m) ∨ (∃ m : Mm, r = .inr (0, 0, false, m) ∧ m.lw = h.length ∧ m.lp = h.length ∧ Keep h m.h ∧ ¬ ∃ ss, RingC l xs ss)

theorem inner39 {ro : List ABlk} {v0 v1 v9 : AVal} {x7 x8 x11 x12 a b c d : Int} {m : Mm} {z : List Int} (r : IsRow ro m.h v9 z) (hz : z.length ≤ 1000) :
    loopX (fun s => g39_b4 (meansX F1 ro) ro v0 v1 x7 x8 v9 x11 x12 a b c d m s) 0 = some (if (∃ k, k < z.length ∧ z.getD k 0 = a) then .inr (0, 0, false) else .inl ()) := by
  have hloop := loop_first (b := fun s => g39_b4 (meansX F1 ro) ro v0 v1 x7 x8 v9 x11 x12 a b c d m s) z.length (fun k => if z.getD k 0 = a then some ((0 : Int), (0 : Int), false) else none) ?_ ?_ z.length 0 (by omega)
  · have e0 : ((0 : Nat) : Int) = 0 := rfl
    rw [e0] at hloop
    rw [hloop, first_ex]
    by_cases h : ∃ k, k < z.length ∧ z.getD k 0 = a
    · rw [if_pos h, if_pos h]; rfl
    · rw [if_neg h, if_neg h]; rfl
  · simp only [g39_b4, len_row r, bindO_some, asI_i, forceB_eq, ltI_eq, lt_no, cond_false]
  · intro i hi
    obtain ⟨p, p1, p2, p3⟩ := at_row (m := m) rfl r hi
    simp only [g39_b4, len_row r, bindO_some, asI_i, forceB_eq, ltI_eq, lt_yes hi, cond_true, p1, p2, eqI_eq, forceI_eq]
    by_cases h : z.getD i 0 = a
    · have e : (z.getD i 0 == a) = true := by simpa using h
      rw [e, if_pos h]
      rfl
    · have e : (z.getD i 0 == a) = false := by simpa using h
      rw [e, if_neg h]
      simp only [cond_false]
      rw [wr_id' (by omega) (by omega)]

theorem step39 {ro : List ABlk} {h : Heap} {t n : Int} {v w : AVal} {l : List Sp} {xs : List Int} (a : IsSpans ro h v l) (ok : Ok t n l) (r : IsRow ro h w xs) (hx : ∀ x ∈ xs, inI64 x) (h6 : xs.length ≤ 6) (i : Nat) (x7 x8 : Int) (v9 : AVal) (x10 x11 : Int) (m : Mm) (hi : i < xs.length) (hI : RI39 l xs h i x7 x8 v9 x10 x11 m) :
    (∃ y7 y8 w9 y10 y11 m', g39_b1 (meansX F1 ro) ro v w x7 x8 v9 x10 x11 (i : Int) m = some (.inl (y7, y8, w9, y10, y11, ((i + 1 : Nat) : Int), m')) ∧ RI39 l xs h (i + 1) y7 y8 w9 y10 y11 m') ∨
    (∃ m' : Mm, g39_b1 (meansX F1 ro) ro v w x7 x8 v9 x10 x11 (i : Int) m = some (.inr (.inr (0, 0, false, m'))) ∧ m'.lw = h.length ∧ m'.lp = h.length ∧ Keep h m'.h ∧ ¬ ∃ ss, RingC l xs ss) := by
  obtain ⟨hp, lw, lp⟩ := m
  obtain ⟨hle, g1, g2, g3, ss, pre, begs, rfl, rfl, bl, bh, gv, gl⟩ := hI
  simp only at g1 g2 g3 gv
  subst g1 g2
  obtain ⟨p, p1, p2, p3⟩ := at_row (m := ⟨hp, h.length, h.length⟩) rfl (row_by r g3) hi
  have hxi : inI64 (xs.getD i 0) := by
    have : xs.getD i 0 = xs[i] := by simp [List.getD, hi]
    rw [this]; exact hx _ (List.getElem_mem hi)
  generalize hxe : xs.getD i 0 = x at *
  have am := a.by g3
  have hst := step59 (ro := ro) (h := hp) am ok hxi
  have hl := pre.len
  have hrow := gv.row (ro := ro) (by simp [hl])
  have hlw := len_row (row_by r g3)
  cases hs : stepP l x with
  | none =>
    rw [hs] at hst
    refine .inr ⟨⟨hp, h.length, h.length⟩, ?_, rfl, rfl, g3, fun ⟨ss', rc⟩ => ?_⟩
    · simp only [g39_b1, hlw, bindO_some, asI_i, forceB_eq, ltI_eq, lt_yes hi, cond_true, p1, p2, meansX_call, callM_pure hst g3.1 g3.1, bindP_some, step59V, ext0, ext1, ext2, ext3, ext4, asB_b, Bool.not_false]
    · have := rc.pre.st i hi
      rw [hxe, hs] at this; cases this
  | some s =>
    rw [hs] at hst
    have hrng := stepP_rng ok hs
    have other : ∀ ss', RingC l xs ss' → (∀ j, j < i → ss'.getD j Sp.z = ss.getD j Sp.z) ∧ ss'.getD i Sp.z = s := fun ss' rc => ⟨fun j hj => rc.pre.uniq pre (by omega) hj, by
      have := rc.pre.st i hi
      rw [hxe, hs] at this
      exact (Option.some.inj this).symm⟩
    have hfail : (bindO (cond (decide (0 < (i : Int))) (some (!(s.f == x10))) (some false)) fun c => some c) = some (decide (¬ (0 < i → (ss.getD (i - 1) Sp.z).t = s.f))) := by
      by_cases h0 : 0 < i
      · have e1 : decide (0 < (i : Int)) = true := decide_eq_true (by omega)
        rw [e1, (gl h0).1]
        simp only [cond_true, bindO_some]
        congr 1
        rw [Bool.eq_iff_iff]
        simp only [Bool.not_eq_true', beq_eq_false_iff_ne, ne_eq, decide_eq_true_eq]
        exact ⟨fun h k => h (k h0).symm, fun h k => h fun _ => k.symm⟩
      · have e1 : decide (0 < (i : Int)) = false := decide_eq_false (by omega)
        rw [e1]
        simp only [cond_false, bindO_some]
        congr 1
        refine (decide_eq_false ?_).symm
        exact fun k => k fun h => absurd h h0
    by_cases hnx : 0 < i → (ss.getD (i - 1) Sp.z).t = s.f
    · rw [show decide (¬ (0 < i → (ss.getD (i - 1) Sp.z).t = s.f)) = false from decide_eq_false (fun k => k hnx)] at hfail
      have hin := inner39 (ro := ro) (v0 := v) (v1 := w) (x7 := loSum ss) (x8 := hiSum ss) (x11 := x11) (x12 := (i : Int)) (a := s.f) (b := s.t) (c := s.lo) (d := s.hi) (m := ⟨hp, h.length, h.length⟩) hrow (by simp; omega)
      by_cases hm : ∃ k, k < (ss.map Sp.f).length ∧ (ss.map Sp.f).getD k 0 = s.f
      · rw [if_pos hm] at hin
        refine .inr ⟨⟨hp, h.length, h.length⟩, ?_, rfl, rfl, g3, fun ⟨ss', rc⟩ => ?_⟩
        · simp only [g39_b1, hlw, bindO_some, asI_i, forceB_eq, ltI_eq, lt_yes hi, cond_true, p1, p2, meansX_call, callM_pure hst g3.1 g3.1, bindP_some, step59V, ext0, ext1, ext2, ext3, ext4, asB_b, Bool.not_true, cond_false, eqI_eq]
          rw [hfail]
          simp only [bindO_some, cond_false, meansX_loop, hin]
        · obtain ⟨o1, o2⟩ := other ss' rc
          obtain ⟨k, hk, hke⟩ := hm
          have hk' : k < ss.length := by simpa using hk
          have e1 : (ss.map Sp.f).getD k 0 = (ss.getD k Sp.z).f := by simp [List.getD, hk']
          refine ring_begs rc k i (by omega) hi ?_
          rw [o1 k (by omega), o2, ← e1]; exact hke
      · rw [if_neg hm] at hin
        obtain ⟨v2, hp3, v3, hp4, u1, u2, u3, u4, u5⟩ := gv.push (ro := ro) (L0 := h.length) (bytes := 8) (z := [(AVal.i IntKind.i64 0)]) (w := .i .i64 s.f) (ws := [.i .i64 s.f]) (by omega) g3.1 (by omega) (by omega) (by omega) rfl rfl rfl rfl rfl
        have hw1 : wr .i64 ((i : Int) + 1) = ((i + 1 : Nat) : Int) := wr_next (by omega)
        have hw2 : wr .i64 (loSum ss + s.lo) = loSum (ss ++ [s]) := by rw [loSum_snoc, wr_id' (by omega) (by omega)]
        have hw3 : wr .i64 (hiSum ss + s.hi) = hiSum (ss ++ [s]) := by rw [hiSum_snoc, wr_id' (by omega) (by omega)]
        have hbeg : (bindO (α := Int) (cond ((i : Int) == 0) (some s.f) (some x11)) fun y => (some y : Option Int)) = some (((ss ++ [s]).getD 0 Sp.z).f) := by
          by_cases h0 : 0 < i
          · have e1 : ((i : Int) == 0) = false := by simp; omega
            rw [e1, getD_snoc (by omega), (gl h0).2]; rfl
          · have e1 : ((i : Int) == 0) = true := by simp; omega
            have e2 : (ss ++ [s]).getD 0 Sp.z = s := by
              have : ss = [] := List.length_eq_zero_iff.1 (by omega)
              subst this; rfl
            rw [e1, e2]; rfl
        obtain ⟨yb, hyb⟩ : ∃ yb, cond ((i : Int) == 0) (some s.f) (some x11) = some yb := by cases ((i : Int) == 0) <;> exact ⟨_, rfl⟩
        have hyb2 : yb = ((ss ++ [s]).getD 0 Sp.z).f := by rw [hyb] at hbeg; exact Option.some.inj hbeg
        refine .inl ⟨loSum (ss ++ [s]), hiSum (ss ++ [s]), v3, s.t, yb, ⟨hp4, h.length, h.length⟩, ?_, by omega, rfl, rfl, ⟨Nat.le_trans g3.1 u4, fun k hk => by show hp4[k]? = _; rw [u5 k hk]; exact g3.2 k hk⟩, ss ++ [s], ⟨by simp [hl], by omega, fun k hk => ?_, fun k hk => ?_⟩, fun a b hab hb => ?_, rfl, rfl, ?_, ?_, ?_, fun _ => ⟨?_, hyb2⟩⟩
        · simp only [g39_b1, hlw, bindO_some, asI_i, forceB_eq, ltI_eq, lt_yes hi, cond_true, p1, p2, meansX_call, callM_pure hst g3.1 g3.1, bindP_some, step59V, ext0, ext1, ext2, ext3, ext4, asB_b, Bool.not_true, cond_false, eqI_eq]
          rw [hfail]
          simp only [bindO_some, cond_false, meansX_loop, hin, hyb, u1, u2, bindP_some, forceI_eq, hw1, hw2, hw3]
        · rcases Nat.lt_or_ge k i with h3 | h3
          · rw [getD_snoc (by omega)]; exact pre.st k h3
          · obtain rfl : k = i := by omega
            rw [← hl, getD_snoc', hl, hxe, hs]
        · rcases Nat.lt_or_ge (k + 1) i with h3 | h3
          · rw [getD_snoc (by omega), getD_snoc (by omega)]; exact pre.nx k h3
          · obtain rfl : i = k + 1 := by omega
            rw [getD_snoc (by omega)]
            have e1 : (ss ++ [s]).getD (k + 1) Sp.z = s := by rw [← hl]; exact getD_snoc'
            rw [e1]
            exact hnx (by omega)
        · rcases Nat.lt_or_ge b i with h3 | h3
          · rw [getD_snoc (by omega), getD_snoc (by omega)]; exact begs a b hab h3
          · obtain rfl : b = i := by omega
            have e1 : (ss ++ [s]).getD b Sp.z = s := by rw [← hl]; exact getD_snoc'
            rw [getD_snoc (by omega), e1]
            exact fun k => hm ⟨a, by simp; omega, by rw [← k]; simp [List.getD, show a < ss.length by omega]⟩
        · rw [loSum_snoc]; omega
        · rw [hiSum_snoc]; omega
        · simpa using u3
        · have e1 : (ss ++ [s]).getD i Sp.z = s := by rw [← hl]; exact getD_snoc'
          rw [show i + 1 - 1 = i by omega, e1]
    · rw [show decide (¬ (0 < i → (ss.getD (i - 1) Sp.z).t = s.f)) = true from decide_eq_true hnx] at hfail
      refine .inr ⟨⟨hp, h.length, h.length⟩, ?_, rfl, rfl, g3, fun ⟨ss', rc⟩ => ?_⟩
      · simp only [g39_b1, hlw, bindO_some, asI_i, forceB_eq, ltI_eq, lt_yes hi, cond_true, p1, p2, meansX_call, callM_pure hst g3.1 g3.1, bindP_some, step59V, ext0, ext1, ext2, ext3, ext4, asB_b, Bool.not_true, cond_false, eqI_eq]
        rw [hfail]
        simp only [bindO_some, cond_true]
      · obtain ⟨o1, o2⟩ := other ss' rc
        refine hnx fun h0 => ?_
        have := rc.pre.nx (i - 1) (by omega)
        rw [show i - 1 + 1 = i by omega, o2, o1 (i - 1) (by omega)] at this
        exact this

def after39 (L : Nat) (o : (Int × Int × Int × Int × Mm) ⊕ (Int × Int × Bool × Mm)) : Option (AVal × Heap × Nat × Nat) := match o with
  | (.inl (x7_1, x8_1, x10_1, x11_2, m_5)) => forceB (eqI x10_1 x11_2) fun c86 => finM L (tupA [(.i .i64 x7_1), (.i .i64 x8_1), (.b c86)]) m_5
  | (.inr (x4_1, x5_1, c6_1, m_6)) => finM L (tupA [(.i .i64 x4_1), (.i .i64 x5_1), (.b c6_1)]) m_6
theorem g39_eq {ro : List ABlk} {h : Heap} {v w : AVal} {xs : List Int} (r : IsRow ro h w xs) (h26 : 2 ≤ xs.length ∧ xs.length ≤ 6) {o : (Int × Int × Int × Int × Mm) ⊕ (Int × Int × Bool × Mm)} (h1 : loopX (fun s : Int × Int × AVal × Int × Int × Int × Mm => g39_b1 (meansX F1 ro) ro v w s.1 s.2.1 s.2.2.1 s.2.2.2.1 s.2.2.2.2.1 s.2.2.2.2.2.1 s.2.2.2.2.2.2) (0, 0, .nsl, 0, 0, 0, ⟨h, h.length, h.length⟩) = some o) :
    g39 (meansX F1 ro) ro v w ⟨h, h.length, h.length⟩ = after39 h.length o := by
  have hc : (decide ((xs.length : Int) < 2) || decide (6 < (xs.length : Int))) = false := by
    simp only [Bool.or_eq_false_iff, decide_eq_false_iff_not]; omega
  unfold g39
  simp only [len_row r, bindO_some, asI_i, forceB_eq, ltI_eq, bindO_or]
  rw [hc]
  simp only [cond_false, meansX_loop]
  rw [h1, bindO_some]
  rcases o with ⟨a, b, c, d, m⟩ | ⟨a, b, c, m⟩
  · simp only [after39, forceB_eq]
  · rfl
theorem isRing39 {ro : List ABlk} {h : Heap} {t n : Int} {v w : AVal} {l : List Sp} {xs : List Int} (a : IsSpans ro h v l) (ok : Ok t n l) (r : IsRow ro h w xs) (hx : ∀ x ∈ xs, inI64 x) :
    (∃ ss, callX F1 ro 39 [v, w] h = some (.tup [.i .i64 (loSum ss), .i .i64 (hiSum ss), .b true], h, h.length, h.length) ∧ RingC l xs ss ∧ (-6000 ≤ loSum ss ∧ loSum ss ≤ 6000) ∧ (-6000 ≤ hiSum ss ∧ hiSum ss ≤ 6000)) ∨
    ((∃ y z : Int, callX F1 ro 39 [v, w] h = some (.tup [.i .i64 y, .i .i64 z, .b false], h, h.length, h.length)) ∧ ¬ ∃ ss, RingC l xs ss) := by
  have fin : ∀ (y z : Int) (c : Bool) (hp : Heap), Keep h hp → finM h.length (tupA [.i .i64 y, .i .i64 z, .b c]) ⟨hp, h.length, h.length⟩ = some (.tup [.i .i64 y, .i .i64 z, .b c], h, h.length, h.length) := fun y z c hp k => fin_keep k rfl
  have hc : (decide ((xs.length : Int) < 2) || decide (6 < (xs.length : Int))) = decide (¬ (2 ≤ xs.length ∧ xs.length ≤ 6)) := by
    rw [Bool.eq_iff_iff]
    simp only [Bool.or_eq_true, decide_eq_true_eq]
    omega
  by_cases h26 : 2 ≤ xs.length ∧ xs.length ≤ 6
  · have hlp := loopX_rule (b := fun s : Int × Int × AVal × Int × Int × Int × Mm => g39_b1 (meansX F1 ro) ro v w s.1 s.2.1 s.2.2.1 s.2.2.2.1 s.2.2.2.2.1 s.2.2.2.2.2.1 s.2.2.2.2.2.2)
      (fun s => ∃ i : Nat, s.2.2.2.2.2.1 = (i : Int) ∧ RI39 l xs h i s.1 s.2.1 s.2.2.1 s.2.2.2.1 s.2.2.2.2.1 s.2.2.2.2.2.2) (RQ39 l xs h) (fun s => xs.length - s.2.2.2.2.2.1.toNat) ?_ (0, 0, .nsl, 0, 0, 0, ⟨h, h.length, h.length⟩)
      ⟨0, rfl, Nat.zero_le _, rfl, rfl, Keep.refl h, [], ⟨rfl, Nat.zero_le _, fun i hi => by omega, fun i hi => by omega⟩, fun i j _ hj => by omega, rfl, rfl, by simp, by simp, GV.nil _ _ _ _, fun h0 => by omega⟩
    · obtain ⟨o, h1, h2⟩ := hlp
      have hg := g39_eq r h26 h1
      rcases h2 with ⟨x7, x8, v9, x10, x11, ⟨hp, lw, lp⟩, rfl, hle, g1, g2, g3, ss, pre, begs, rfl, rfl, bl, bh, gv, gl⟩ | ⟨⟨hp, lw, lp⟩, rfl, g1, g2, g3, g4⟩
      · simp only at g1 g2 g3
        subst g1 g2
        obtain ⟨e1, e2⟩ := gl (by omega)
        simp only [after39, forceB_eq, eqI_eq, e1, e2, fin _ _ _ hp g3] at hg
        by_cases hcl : (ss.getD (xs.length - 1) Sp.z).t = (ss.getD 0 Sp.z).f
        · have e3 : ((ss.getD (xs.length - 1) Sp.z).t == (ss.getD 0 Sp.z).f) = true := by simpa using hcl
          rw [e3] at hg
          exact .inl ⟨ss, g39_ok (meansX_ok F1 ro) rfl hg, ⟨pre, ring_ends pre begs hcl, h26.1, hcl⟩, by omega, by omega⟩
        · have e3 : ((ss.getD (xs.length - 1) Sp.z).t == (ss.getD 0 Sp.z).f) = false := by simpa using hcl
          rw [e3] at hg
          refine .inr ⟨⟨_, _, g39_ok (meansX_ok F1 ro) rfl hg⟩, fun ⟨ss', rc⟩ => hcl ?_⟩
          rw [pre.uniq rc.pre (i := xs.length - 1) (by omega) (by omega), pre.uniq rc.pre (i := 0) (by omega) (by omega)]
          exact rc.cl
      · simp only at g1 g2 g3
        subst g1 g2
        simp only [after39, fin _ _ _ hp g3] at hg
        exact .inr ⟨⟨0, 0, g39_ok (meansX_ok F1 ro) rfl hg⟩, g4⟩
    · rintro ⟨x7, x8, v9, x10, x11, x12, m⟩ ⟨i, hi, hI⟩
      simp only at hi hI ⊢
      subst hi
      by_cases hlt : i < xs.length
      · rcases step39 a ok r hx h26.2 i x7 x8 v9 x10 x11 m hlt hI with ⟨y7, y8, w9, y10, y11, m', h3, h4⟩ | ⟨m', h3, h4⟩
        · exact .inl ⟨_, h3, ⟨i + 1, rfl, h4⟩, by simp; omega⟩
        · exact .inr ⟨_, h3, .inr ⟨m', rfl, h4⟩⟩
      · obtain rfl : i = xs.length := by have := hI.1; omega
        refine .inr ⟨.inl (x7, x8, x10, x11, m), ?_, .inl ⟨x7, x8, v9, x10, x11, m, rfl, hI⟩⟩
        have hk : Keep h m.h := hI.2.2.2.1
        simp only [g39_b1, len_row (row_by r hk), bindO_some, asI_i, forceB_eq, ltI_eq, lt_no, cond_false]
  · refine .inr ⟨⟨0, 0, g39_ok (meansX_ok F1 ro) rfl ?_⟩, fun ⟨ss, rc⟩ => h26 ⟨rc.two, ring_six ok rc⟩⟩
    unfold g39
    simp only [len_row r, bindO_some, asI_i, forceB_eq, ltI_eq, bindO_or]
    rw [hc, decide_eq_true h26]
    first
      | done
      | exact fin _ _ _ h (Keep.refl h)
end Go.Proofs.YtddnpchfjdgigaaDoor.T

/- Refuses, the program's and the specification's. -/
open Go.Vm
set_option linter.unusedVariables false
namespace Go.Proofs.YtddnpchfjdgigaaDoor.T
open Go

theorem ring_uniq {l : List Sp} {xs : List Int} {ss ss' : List Sp} (a : RingC l xs ss) (b : RingC l xs ss') : ss = ss' := by
  refine List.ext_getElem (by rw [a.pre.len, b.pre.len]) fun i h1 h2 => ?_
  have := a.pre.uniq b.pre (i := i) (by have := a.pre.len; omega) (by have := b.pre.len; omega)
  simpa [List.getD, h1, h2] using this
theorem take_next {ss : List Sp} {i : Nat} (hi : i < ss.length) : ss.take (i + 1) = ss.take i ++ [ss.getD i Sp.z] := by
  rw [List.take_add_one]; simp [List.getD, hi]

theorem alive_pure {ro : List ABlk} {h : Heap} : callX F1 ro 16 [] h = some (.b true, h, h.length, h.length) := callX_ov rfl

end Go.Proofs.YtddnpchfjdgigaaDoor.T

/- Hours, slacks and plans, by numbers alone. -/
open Go.Vm
set_option linter.unusedVariables false
namespace Go.Proofs.YtddnpchfjdgigaaDoor.T
open Go

/-- the hour of an event -/
def hourP (z : List Int) (e : Int) : Int := z.getD e.toNat 0
def slackP (t : Int) (s : Sp) (z : List Int) : Int := (hourP z s.t - hourP z s.f - s.lo) % t
/-- n hours -/
def HoursP (t n : Int) (z : List Int) : Prop := (z.length : Int) = n ∧ ∀ i, i < z.length → 0 ≤ z.getD i 0 ∧ z.getD i 0 < t
instance (t n : Int) (z : List Int) : Decidable (HoursP t n z) := inferInstanceAs (Decidable (_ ∧ _))
def keeps (t : Int) (s : Sp) (z : List Int) : Prop := slackP t s z ≤ s.hi - s.lo
instance (t : Int) (s : Sp) (z : List Int) : Decidable (keeps t s z) := inferInstanceAs (Decidable (_ ≤ _))
def KeptP (t : Int) (l : List Sp) (z : List Int) : Prop := ∀ i, i < l.length → keeps t (l.getD i Sp.z) z
instance (t : Int) (l : List Sp) (z : List Int) : Decidable (KeptP t l z) := inferInstanceAs (Decidable (∀ i, i < l.length → keeps t (l.getD i Sp.z) z))
def PlanP (t n : Int) (l : List Sp) (z : List Int) : Prop := HoursP t n z ∧ z.getD 0 0 = 0 ∧ KeptP t l z
instance (t n : Int) (l : List Sp) (z : List Int) : Decidable (PlanP t n l z) := inferInstanceAs (Decidable (_ ∧ _))

theorem slackP_rng {t : Int} (ht : 1 ≤ t) (s : Sp) (z : List Int) : 0 ≤ slackP t s z ∧ slackP t s z < t :=
  ⟨Int.emod_nonneg _ (by omega), Int.emod_lt_of_pos _ (by omega)⟩
theorem emod_uniq {t a b : Int} (ht : 1 ≤ t) (hd : (a - b) % t = 0) (hb : 0 ≤ b ∧ b < t) : a % t = b := by
  have h1 : a % t = b % t := Int.emod_eq_emod_iff_emod_sub_eq_zero.2 hd
  rw [h1, Int.emod_eq_of_lt hb.1 hb.2]
/-- gone against, a span that is kept takes the same time with a minus sign -/
theorem slack_turn {t : Int} (ht : 1 ≤ t) {s : Sp} (hs : s.lo ≤ s.hi ∧ s.hi ≤ s.lo + t - 1) {z : List Int} (hk : keeps t s z) : slackP t s.turn z = s.hi - s.lo - slackP t s z := by
  have h0 := slackP_rng ht s z
  unfold keeps at hk
  refine emod_uniq ht ?_ (by omega)
  have e : hourP z s.turn.t - hourP z s.turn.f - s.turn.lo - (s.hi - s.lo - slackP t s z) = slackP t s z - (hourP z s.t - hourP z s.f - s.lo) := by
    simp only [Sp.turn]; omega
  rw [e]
  unfold slackP
  exact Int.emod_eq_zero_of_dvd (by
    have := Int.emod_add_mul_ediv (hourP z s.t - hourP z s.f - s.lo) t
    exact ⟨-((hourP z s.t - hourP z s.f - s.lo) / t), by rw [Int.mul_neg]; omega⟩)
theorem turn_turn (s : Sp) : s.turn.turn = s := by simp [Sp.turn]
theorem keeps_turn {t : Int} (ht : 1 ≤ t) {s : Sp} (hs : s.lo ≤ s.hi ∧ s.hi ≤ s.lo + t - 1) {z : List Int} : keeps t s.turn z ↔ keeps t s z := by
  constructor
  · intro h
    have h1 := slack_turn ht (s := s.turn) (by simp only [Sp.turn]; omega) h
    rw [turn_turn] at h1
    have h2 := slackP_rng ht s.turn z
    unfold keeps
    rw [h1]
    simp only [Sp.turn] at h2 ⊢; omega
  · intro h
    have h1 := slack_turn ht hs h
    have h2 := slackP_rng ht s z
    unfold keeps
    rw [h1]
    simp only [Sp.turn]; omega
end Go.Proofs.YtddnpchfjdgigaaDoor.T

/- Sets of hours as numbers. -/
open Go.Vm
set_option linter.unusedVariables false
namespace Go.Proofs.YtddnpchfjdgigaaDoor.T
open Go

end Go.Proofs.YtddnpchfjdgigaaDoor.T

/- All plans in order, by a search and by a filter. -/
open Go.Vm
set_option linter.unusedVariables false
namespace Go.Proofs.YtddnpchfjdgigaaDoor.T
open Go

/-- all hours in order -/
def hoursL (t : Nat) : List Int := (List.range t).map fun n : Nat => (n : Int)
/-- those that go on step by step -/
def ext (ok : List Int → Int → Bool) (t : Nat) : Nat → List Int → List (List Int)
  | 0, now => [now]
  | k + 1, now => ((hoursL t).filter (ok now)).flatMap fun h => ext ok t k (now ++ [h])
/-- may an hour be the one of the next event? -/
def stepOk (t : Int) (l : List Sp) (now : List Int) (h : Int) : Prop := ∀ i, i < l.length → max (l.getD i Sp.z).f (l.getD i Sp.z).t = (now.length : Int) → keeps t (l.getD i Sp.z) (now ++ [h])
instance (t : Int) (l : List Sp) (now : List Int) (h : Int) : Decidable (stepOk t l now h) := inferInstanceAs (Decidable (∀ i, i < l.length → _ → _))
end Go.Proofs.YtddnpchfjdgigaaDoor.T

/- Sums along a ring, with a plan. -/
open Go.Vm
set_option linter.unusedVariables false
namespace Go.Proofs.YtddnpchfjdgigaaDoor.T
open Go

def sumTo (f : Nat → Int) : Nat → Int
  | 0 => 0
  | k + 1 => sumTo f k + f k
theorem sumTo_le {f g : Nat → Int} : ∀ {k : Nat}, (∀ i, i < k → f i ≤ g i) → sumTo f k ≤ sumTo g k
  | 0, _ => Int.le_refl _
  | k + 1, h => by
    have := h k (by omega)
    have := sumTo_le (k := k) fun i hi => h i (by omega)
    simp only [sumTo]; omega
theorem sumTo_bd {f : Nat → Int} {B : Int} : ∀ {k : Nat}, (∀ i, i < k → -B ≤ f i ∧ f i ≤ B) → -(B * k) ≤ sumTo f k ∧ sumTo f k ≤ B * k
  | 0, _ => by simp [sumTo]
  | k + 1, h => by
    have h1 := h k (by omega)
    have h2 := sumTo_bd (k := k) fun i hi => h i (by omega)
    have : B * ((k + 1 : Nat) : Int) = B * k + B := by rw [Int.natCast_add, Int.mul_add]; simp
    simp only [sumTo]; omega
theorem sum_take (f : Sp → Int) (ss : List Sp) : ∀ {k : Nat}, k ≤ ss.length → ((ss.take k).map f).foldl (· + ·) 0 = sumTo (fun i => f (ss.getD i Sp.z)) k
  | 0, _ => by simp [sumTo]
  | k + 1, h => by
    rw [take_next (by omega), List.map_append, List.foldl_append]
    simp only [List.map_cons, List.map_nil, List.foldl_cons, List.foldl_nil, sumTo]
    rw [sum_take f ss (by omega)]
theorem loSum_to (ss : List Sp) : loSum ss = sumTo (fun i => (ss.getD i Sp.z).lo) ss.length := by
  have := sum_take Sp.lo ss (Nat.le_refl _)
  rw [List.take_length] at this
  exact this
theorem hiSum_to (ss : List Sp) : hiSum ss = sumTo (fun i => (ss.getD i Sp.z).hi) ss.length := by
  have := sum_take Sp.hi ss (Nat.le_refl _)
  rw [List.take_length] at this
  exact this

/-- the time that a step takes -/
def sigP (t : Int) (z : List Int) (s : Sp) : Int := s.lo + slackP t s z
def sigSum (t : Int) (z : List Int) (ss : List Sp) : Int := sumTo (fun i => sigP t z (ss.getD i Sp.z)) ss.length
/-- what a number of a ring adds -/
def addP (t : Int) (l : List Sp) (z : List Int) (x : Int) : Int := if 0 < x then sigP t z (l.getD (x.toNat - 1) Sp.z) else -(sigP t z (l.getD ((-x).toNat - 1) Sp.z))

theorem stepP_cases {l : List Sp} {x : Int} {s : Sp} (h : stepP l x = some s) : (1 ≤ x ∧ x ≤ l.length ∧ s = l.getD (x.toNat - 1) Sp.z) ∨ (x ≤ -1 ∧ -(l.length : Int) ≤ x ∧ s = (l.getD ((-x).toNat - 1) Sp.z).turn) := by
  unfold stepP at h
  split at h
  · rename_i hx; cases h; exact .inl ⟨hx.1, hx.2, rfl⟩
  · split at h
    · rename_i hx; cases h; exact .inr ⟨hx.1, hx.2, rfl⟩
    · cases h
theorem stepP_keeps {t n : Int} {l : List Sp} (ok : Ok t n l) {z : List Int} (hk : KeptP t l z) {x : Int} {s : Sp} (h : stepP l x = some s) : keeps t s z ∧ sigP t z s = addP t l z x := by
  obtain ⟨r1, r2, r3, r4⟩ := ok.r
  rcases stepP_cases h with ⟨h1, h2, rfl⟩ | ⟨h1, h2, rfl⟩
  · exact ⟨hk _ (by omega), by unfold addP; rw [if_pos (by omega)]⟩
  · have hi : (-x).toNat - 1 < l.length := by omega
    have hs := ok.sp _ hi
    have hk1 := hk _ hi
    unfold addP
    rw [if_neg (by omega)]
    generalize l.getD ((-x).toNat - 1) Sp.z = s at *
    unfold spOk at hs
    refine ⟨(keeps_turn r1 (by omega)).2 hk1, ?_⟩
    unfold sigP
    rw [slack_turn r1 (by omega) hk1]
    simp only [Sp.turn]; omega
theorem sig_rng {t : Int} (ht : 1 ≤ t) {z : List Int} {s : Sp} (hk : keeps t s z) : s.lo ≤ sigP t z s ∧ sigP t z s ≤ s.hi := by
  have := slackP_rng ht s z
  unfold keeps at hk
  unfold sigP; omega
theorem sig_mod {t : Int} (z : List Int) (s : Sp) : ∃ q, sigP t z s = hourP z s.t - hourP z s.f + t * q := by
  refine ⟨-((hourP z s.t - hourP z s.f - s.lo) / t), ?_⟩
  have := Int.emod_add_mul_ediv (hourP z s.t - hourP z s.f - s.lo) t
  unfold sigP slackP
  rw [Int.mul_neg]; omega
/-- along a ring whole rounds go by -/
theorem ring_whole {t n : Int} {l : List Sp} {xs : List Int} {ss : List Sp} (rc : RingC l xs ss) (z : List Int) : ∃ q, sigSum t z ss = t * q := by
  have hl := rc.pre.len
  have two := rc.two
  have key : ∀ k, 1 ≤ k → k ≤ ss.length → ∃ q, sumTo (fun i => sigP t z (ss.getD i Sp.z)) k = hourP z (ss.getD (k - 1) Sp.z).t - hourP z (ss.getD 0 Sp.z).f + t * q := by
    intro k
    induction k with
    | zero => intro h; omega
    | succ k ih =>
      intro _ h2
      obtain ⟨q1, hq1⟩ := sig_mod (t := t) z (ss.getD k Sp.z)
      by_cases h0 : k = 0
      · subst h0
        exact ⟨q1, by simp only [sumTo, hq1]; simp⟩
      · obtain ⟨q2, hq2⟩ := ih (by omega) (by omega)
        refine ⟨q1 + q2, ?_⟩
        have hn := rc.pre.nx (k - 1) (by omega)
        rw [show k - 1 + 1 = k by omega] at hn
        simp only [sumTo, hq1, hq2, hn, Nat.add_sub_cancel, Int.mul_add]
        omega
  obtain ⟨q, hq⟩ := key ss.length (by omega) (Nat.le_refl _)
  refine ⟨q, ?_⟩
  unfold sigSum
  rw [hq, hl, rc.cl]; omega
theorem ring_rng {t n : Int} {l : List Sp} (ok : Ok t n l) {xs : List Int} {ss : List Sp} (rc : RingC l xs ss) {z : List Int} (hk : KeptP t l z) : loSum ss ≤ sigSum t z ss ∧ sigSum t z ss ≤ hiSum ss := by
  obtain ⟨r1, r2, r3, r4⟩ := ok.r
  have hl := rc.pre.len
  rw [loSum_to, hiSum_to]
  have h : ∀ i, i < ss.length → (ss.getD i Sp.z).lo ≤ sigP t z (ss.getD i Sp.z) ∧ sigP t z (ss.getD i Sp.z) ≤ (ss.getD i Sp.z).hi := fun i hi => sig_rng r1 (stepP_keeps ok hk (rc.pre.st i (by omega))).1
  exact ⟨sumTo_le fun i hi => (h i hi).1, sumTo_le fun i hi => (h i hi).2⟩
end Go.Proofs.YtddnpchfjdgigaaDoor.T

/- Loops whose state is known; steps through a function. -/
open Go.Vm
set_option linter.unusedVariables false
namespace Go.Proofs.YtddnpchfjdgigaaDoor.T
open Go

/-- a loop whose state is known for each round -/
theorem loop_st {S R : Type} {b : S → Option (S ⊕ R)} (st : Nat → S) (n : Nat) (step : Nat → Option R) (r0 : R) (hout : b (st n) = some (.inr r0)) (hin : ∀ i, i < n → b (st i) = some (match step i with | some r => .inr r | none => .inl (st (i + 1)))) :
    ∀ (k i : Nat), i + k = n → loopX b (st i) = some ((firstS step k i).getD r0)
  | 0, i, hi => by
    simp only [Nat.add_zero] at hi
    subst hi
    exact loopX_out hout
  | k + 1, i, hi => by
    have h1 := hin i (by omega)
    unfold firstS
    cases hs : step i with
    | some r => rw [hs] at h1; exact loopX_out h1
    | none =>
      rw [hs] at h1
      exact loopX_on h1 (loop_st st n step r0 hout hin k (i + 1) (by omega))
/-- one that runs to its end -/
theorem loop_run {S R : Type} {b : S → Option (S ⊕ R)} (st : Nat → S) (n : Nat) {r0 : R} (hout : b (st n) = some (.inr r0)) (hin : ∀ i, i < n → b (st i) = some (.inl (st (i + 1)))) : loopX b (st 0) = some r0 := by
  have := loop_st st n (fun _ => none) r0 hout hin n 0 (by omega)
  rw [firstS_none.2 fun _ _ _ => rfl] at this
  exact this
theorem row_bel {ro : List ABlk} {h : Heap} {v : AVal} {z : List Int} (a : IsRow ro h v z) : v.bel h.length = true := by
  rcases a with ⟨rfl, -⟩ | ⟨q, cap, blk, rfl, hb, -⟩
  · rfl
  · simpa [AVal.bel] using rdB_lt hb
theorem at_rowK {ro : List ABlk} {h : Heap} {v : AVal} {z : List Int} (hr : IsRow ro h v z) {i : Nat} (hi : i < z.length) : ∃ p, evP .e (.ixS 1 (.c v) (.c (.i .i64 (i : Int)))) = some p ∧ ∀ {hp : Heap} {l q : Nat}, Keep h hp → ldM ro ⟨hp, l, q⟩ true 1 p = some (.i .i64 (z.getD i 0)) ∧ ldA ro hp true 1 p = some (.i .i64 (z.getD i 0)) := by
  obtain ⟨p, h1, -⟩ := at_row (m := ⟨h, 0, 0⟩) rfl hr hi
  refine ⟨p, h1, fun {hp l q} k => ?_⟩
  obtain ⟨p', g1, g2, g3⟩ := at_row (m := ⟨hp, l, q⟩) rfl (row_by hr k) hi
  rw [h1] at g1; cases g1
  exact ⟨g2, g3⟩
theorem cp0 {F : Tab} {ro : List ABlk} {h : Heap} {f : Nat} {a : List AVal} {v : AVal} (e : callX F ro f a h = some (v, h, h.length, h.length)) : callM (callX F ro) ⟨h, h.length, h.length⟩ f a = some (v, ⟨h, h.length, h.length⟩) :=
  callM_pure e (Nat.le_refl _) (Nat.le_refl _)

/-- a place of a row by an event -/
theorem row_ix {ro : List ABlk} {h : Heap} {w : AVal} {z : List Int} (r : IsRow ro h w z) {e : Int} (he : 0 ≤ e ∧ e < z.length) : ∃ p, evP .e (.ixS 1 (.c w) (.c (.i .i64 e))) = some p ∧ ∀ {hp : Heap} {l q : Nat}, Keep h hp → ldM ro ⟨hp, l, q⟩ true 1 p = some (.i .i64 (hourP z e)) ∧ ldA ro hp true 1 p = some (.i .i64 (hourP z e)) := by
  obtain ⟨p, h1, h2⟩ := at_rowK r (i := e.toNat) (by omega)
  rw [show ((e.toNat : Nat) : Int) = e by omega] at h1
  exact ⟨p, h1, h2⟩
theorem hour_rng {t : Int} {z : List Int} (hz : ∀ i, i < z.length → 0 ≤ z.getD i 0 ∧ z.getD i 0 < t) {e : Int} (he : 0 ≤ e ∧ e < z.length) : 0 ≤ hourP z e ∧ hourP z e < t := hz _ (by omega)
end Go.Proofs.YtddnpchfjdgigaaDoor.T

/- Slack, hours, kept spans, plans: the program's and the specification's. -/
open Go.Vm
set_option linter.unusedVariables false
namespace Go.Proofs.YtddnpchfjdgigaaDoor.T
open Go

abbrev Hz (t : Int) (z : List Int) : Prop := ∀ i, i < z.length → 0 ≤ z.getD i 0 ∧ z.getD i 0 < t
theorem slack48 {ro : List ABlk} {h : Heap} {t n : Int} {v w : AVal} {l : List Sp} {s : Sp} {z : List Int} (hr : rOk t n) (a : IsSpans ro h v l) (r : IsRow ro h w z) (hz : Hz t z) (hf : 0 ≤ s.f ∧ s.f < z.length) (ht : 0 ≤ s.t ∧ s.t < z.length) (hlo : -2000 ≤ s.lo ∧ s.lo ≤ 2000) :
    callX F1 ro 48 [demV t n v, s.v, w] h = some (.i .i64 (slackP t s z), h, h.length, h.length) := by
  refine g48_ok (meansX_ok F1 ro) rfl ?_
  unfold g48
  obtain ⟨r1, r2, r3, r4⟩ := hr
  have hb1 : stepM ro ⟨h, h.length, h.length⟩ (.bx 55 3 (.c (demV t n v))) = _ := bx_ok (vs := [.i .i64 t, .i .i64 n, v]) 55 rfl
  have hb2 : stepM ro ⟨h ++ [some (blkOf 55 [.i .i64 t, .i .i64 n, v])], h.length, h.length⟩ (.bx 31 4 (.c s.v)) = _ := bx_ok (vs := s.vs) 31 rfl
  have d1 := (Holds.new h 55 [.i .i64 t, .i .i64 n, v]).ext [some (blkOf 31 s.vs)]
  have d2 := Holds.new (h ++ [some (blkOf 55 [.i .i64 t, .i .i64 n, v])]) 31 s.vs
  have kp : Keep h (h ++ [some (blkOf 55 [.i .i64 t, .i .i64 n, v])] ++ [some (blkOf 31 s.vs)]) := (Keep.app _).trans (Keep.app _)
  rw [hb1]
  simp only [bindP_some]
  rw [hb2]
  generalize hhp : h ++ [some (blkOf 55 [.i .i64 t, .i .i64 n, v])] ++ [some (blkOf 31 s.vs)] = hp at *
  have b0 := d2.oneA (ro := ro) (k := 0) (by simp)
  have b1 := d2.oneA (ro := ro) (k := 1) (by simp)
  have b2 := d2.oneA (ro := ro) (k := 2) (by simp)
  simp only [List.getD_cons_zero, List.getD_cons_succ] at b0 b1 b2
  obtain ⟨p1, e1, g1⟩ := row_ix r ht
  obtain ⟨p2, e2, g2⟩ := row_ix r hf
  have l1 := (g1 (l := 0) (q := 0) kp).2
  have l2 := (g2 (l := 0) (q := 0) kp).2
  have h1 := hour_rng hz ht
  have h2 := hour_rng hz hf
  have am := a.by kp
  have hc := callN_pure (mod70 (ro := ro) (h := hp) (x := hourP z s.t - hourP z s.f - s.lo) (n := n) (v := v) r1 r2) (by simp [demV, AVal.bel, bels, am.bel]) rfl
  simp only [bindP_some, d1.allA (ro := ro) (n := 3) rfl, bindO_some, p_faddr, b0, b1, b2, asI_i, e1, e2, l1, l2, forceI_eq, wr_id' (x := hourP z s.t - hourP z s.f) (by omega) (by omega), wr_id' (x := hourP z s.t - hourP z s.f - s.lo) (by omega) (by omega), meansX_call, hc, tupA]
  exact fin_keep kp rfl

/- least and greatest -/
def minL : List Int → Int → Int
  | [], m => m
  | x :: l, m => minL l (mxV false m x)
def maxL : List Int → Int → Int
  | [], m => m
  | x :: l, m => maxL l (mxV true m x)
theorem minL_ge : ∀ (l : List Int) (m b : Int), b ≤ minL l m ↔ b ≤ m ∧ ∀ x ∈ l, b ≤ x
  | [], m, b => by simp [minL]
  | x :: l, m, b => by
    rw [minL, minL_ge l]
    simp only [mxV, Bool.false_eq_true, if_false, List.mem_cons, forall_eq_or_imp]
    split <;> constructor <;> intro h <;> refine ⟨by omega, ?_⟩
    · exact ⟨by omega, h.2⟩
    · exact h.2.2
    · exact ⟨by omega, h.2⟩
    · exact h.2.2
theorem maxL_lt : ∀ (l : List Int) (m b : Int), maxL l m < b ↔ m < b ∧ ∀ x ∈ l, x < b
  | [], m, b => by simp [maxL]
  | x :: l, m, b => by
    rw [maxL, maxL_lt l]
    simp only [mxV, if_true, List.mem_cons, forall_eq_or_imp]
    split <;> constructor <;> intro h <;> refine ⟨by omega, ?_⟩
    · exact ⟨by omega, h.2⟩
    · exact h.2.2
    · exact ⟨by omega, h.2⟩
    · exact h.2.2
theorem minL_take {z : List Int} {i : Nat} (m : Int) (hi : i < z.length) : minL (z.take (i + 1)) m = mxV false (minL (z.take i) m) (z.getD i 0) := by
  induction z generalizing i m with
  | nil => simp at hi
  | cons x z ih =>
    cases i with
    | zero => simp [minL]
    | succ i => simp only [List.take_succ_cons, minL, List.getD_cons_succ]; exact ih _ (by simpa using hi)
theorem maxL_take {z : List Int} {i : Nat} (m : Int) (hi : i < z.length) : maxL (z.take (i + 1)) m = mxV true (maxL (z.take i) m) (z.getD i 0) := by
  induction z generalizing i m with
  | nil => simp at hi
  | cons x z ih =>
    cases i with
    | zero => simp [maxL]
    | succ i => simp only [List.take_succ_cons, maxL, List.getD_cons_succ]; exact ih _ (by simpa using hi)
theorem min72 {ro : List ABlk} {h : Heap} {w : AVal} {z : List Int} (r : IsRow ro h w z) (h0 : 0 < z.length) (h40 : z.length ≤ 1000) : callX F1 ro 72 [w] h = some (.i .i64 (minL z (z.getD 0 0)), h, h.length, h.length) := by
  refine g72_ok (meansX_ok F1 ro) rfl ?_
  unfold g72
  obtain ⟨p, e1, g1⟩ := at_rowK r h0
  have l1 := (g1 (l := h.length) (q := h.length) (Keep.refl h)).1
  have e0 : ((0 : Nat) : Int) = 0 := rfl
  rw [e0] at e1
  have hl : decide ((z.length : Int) < 1) = false := decide_eq_false (by omega)
  have hloop := loop_run (b := fun s : Int × Int => g72_b0 (meansX F1 ro) ro w ⟨h, h.length, h.length⟩ s.1 s.2) (fun i => (minL (z.take (i + 1)) (z.getD 0 0), ((i + 1 : Nat) : Int))) (z.length - 1) (r0 := minL z (z.getD 0 0)) ?_ ?_
  · have e2 : minL (z.take (0 + 1)) (z.getD 0 0) = z.getD 0 0 := by rw [minL_take _ h0]; simp [minL, mxV]
    rw [e2] at hloop
    simp only [len_row r, bindO_some, asI_i, forceB_eq, ltI_eq, hl, cond_false, e1, l1, meansX_loop]
    rw [show ((0 + 1 : Nat) : Int) = 1 from rfl] at hloop
    rw [hloop]
    exact fin_pure rfl
  · have e2 : z.length - 1 + 1 = z.length := by omega
    simp only [g72_b0, len_row r, bindO_some, asI_i, forceB_eq, ltI_eq, e2, lt_no, cond_false, List.take_length]
  · intro i hi
    obtain ⟨p, e1, g1⟩ := at_rowK r (i := i + 1) (by omega)
    have l1 := (g1 (l := h.length) (q := h.length) (Keep.refl h)).1
    simp only [g72_b0, len_row r, bindO_some, asI_i, forceB_eq, ltI_eq, lt_yes (show i + 1 < z.length by omega), cond_true, e1, l1, forceI_eq]
    rw [wr_next (by omega), minL_take (i := i + 1) _ (by omega)]
theorem max73 {ro : List ABlk} {h : Heap} {w : AVal} {z : List Int} (r : IsRow ro h w z) (h0 : 0 < z.length) (h40 : z.length ≤ 1000) : callX F1 ro 73 [w] h = some (.i .i64 (maxL z (z.getD 0 0)), h, h.length, h.length) := by
  refine g73_ok (meansX_ok F1 ro) rfl ?_
  unfold g73
  obtain ⟨p, e1, g1⟩ := at_rowK r h0
  have l1 := (g1 (l := h.length) (q := h.length) (Keep.refl h)).1
  have e0 : ((0 : Nat) : Int) = 0 := rfl
  rw [e0] at e1
  have hl : decide ((z.length : Int) < 1) = false := decide_eq_false (by omega)
  have hloop := loop_run (b := fun s : Int × Int => g73_b0 (meansX F1 ro) ro w ⟨h, h.length, h.length⟩ s.1 s.2) (fun i => (maxL (z.take (i + 1)) (z.getD 0 0), ((i + 1 : Nat) : Int))) (z.length - 1) (r0 := maxL z (z.getD 0 0)) ?_ ?_
  · have e2 : maxL (z.take (0 + 1)) (z.getD 0 0) = z.getD 0 0 := by rw [maxL_take _ h0]; simp [maxL, mxV]
    rw [e2] at hloop
    simp only [len_row r, bindO_some, asI_i, forceB_eq, ltI_eq, hl, cond_false, e1, l1, meansX_loop]
    rw [show ((0 + 1 : Nat) : Int) = 1 from rfl] at hloop
    rw [hloop]
    exact fin_pure rfl
  · have e2 : z.length - 1 + 1 = z.length := by omega
    simp only [g73_b0, len_row r, bindO_some, asI_i, forceB_eq, ltI_eq, e2, lt_no, cond_false, List.take_length]
  · intro i hi
    obtain ⟨p, e1, g1⟩ := at_rowK r (i := i + 1) (by omega)
    have l1 := (g1 (l := h.length) (q := h.length) (Keep.refl h)).1
    simp only [g73_b0, len_row r, bindO_some, asI_i, forceB_eq, ltI_eq, lt_yes (show i + 1 < z.length by omega), cond_true, e1, l1, forceI_eq]
    rw [wr_next (by omega), maxL_take (i := i + 1) _ (by omega)]
theorem hours_mm {t n : Int} {z : List Int} (h0 : 0 < z.length) : HoursP t n z ↔ (z.length : Int) = n ∧ 0 ≤ minL z (z.getD 0 0) ∧ maxL z (z.getD 0 0) < t := by
  have hm : ∀ i, i < z.length → z.getD i 0 ∈ z := fun i hi => by
    have : z.getD i 0 = z[i] := by simp [List.getD, hi]
    rw [this]; exact List.getElem_mem hi
  unfold HoursP
  rw [minL_ge, maxL_lt]
  constructor
  · intro ⟨h1, h2⟩
    have hx : ∀ x ∈ z, 0 ≤ x ∧ x < t := fun x hx => by
      obtain ⟨i, hi, rfl⟩ := List.getElem_of_mem hx
      have := h2 i hi
      simpa [List.getD, hi] using this
    exact ⟨h1, ⟨(h2 0 h0).1, fun x h => (hx x h).1⟩, (h2 0 h0).2, fun x h => (hx x h).2⟩
  · intro ⟨h1, ⟨h2, h3⟩, h4, h5⟩
    exact ⟨h1, fun i hi => ⟨h3 _ (hm i hi), h5 _ (hm i hi)⟩⟩
theorem hasHours52 {ro : List ABlk} {h : Heap} {t n : Int} {v w : AVal} {z : List Int} (hr : rOk t n) (r : IsRow ro h w z) (h40 : z.length ≤ 1000) : callX F1 ro 52 [demV t n v, w] h = some (.b (decide (HoursP t n z)), h, h.length, h.length) := by
  refine g52_ok (meansX_ok F1 ro) rfl ?_
  unfold g52
  obtain ⟨r1, r2, r3, r4⟩ := hr
  have hb1 : stepM ro ⟨h, h.length, h.length⟩ (.bx 55 3 (.c (demV t n v))) = _ := bx_ok (vs := [.i .i64 t, .i .i64 n, v]) 55 rfl
  have d1 := Holds.new h 55 [.i .i64 t, .i .i64 n, v]
  have kp : Keep h (h ++ [some (blkOf 55 [.i .i64 t, .i .i64 n, v])]) := Keep.app _
  rw [hb1]
  generalize hhp : h ++ [some (blkOf 55 [.i .i64 t, .i .i64 n, v])] = hp at *
  have b1 := d1.one (ro := ro) (l := hp.length) (p := hp.length) (k := 1) (by simp)
  have b0 := d1.oneA (ro := ro) (k := 0) (by simp)
  simp only [List.getD_cons_zero, List.getD_cons_succ] at b0 b1
  have rp := row_by r kp
  have hbase : Mm.base ⟨hp, h.length, h.length⟩ = (⟨hp, hp.length, hp.length⟩ : Mm) := rfl
  have hjoin : Mm.join ⟨hp, h.length, h.length⟩ ⟨hp, hp.length, hp.length⟩ = (⟨hp, h.length, h.length⟩ : Mm) := by simp [Mm.join, Nat.min_eq_left kp.1]
  have hlw : (!Nat.blt hp.length hp.length) = true := by
    have : Nat.blt hp.length hp.length = false := by rw [← Bool.not_eq_true, Nat.blt_eq]; omega
    rw [this]; rfl
  have fin : ∀ c : Bool, finM h.length (tupA [.b c]) ⟨hp, h.length, h.length⟩ = some (.b c, h, h.length, h.length) := fun c => fin_keep kp rfl
  simp only [bindP_some, bindO_some, hbase, len_row r, asI_i, p_faddr, b1, b0, forceB_eq, eqI_eq, meansX_call]
  by_cases hl : (z.length : Int) = n
  · have h0 : 0 < z.length := by omega
    have e1 : ((z.length : Int) == n) = true := by simpa using hl
    simp only [e1, cond_true, cp0 (min72 rp h0 h40), bindP_some, asI_i, hlw, chk_true, ltI_eq, bindO_some]
    by_cases hm : minL z (z.getD 0 0) < 0
    · have e2 : decide (HoursP t n z) = false := decide_eq_false fun hh => by have := ((hours_mm h0).1 hh).2.1; omega
      simp only [hm, decide_true, Bool.not_true, cond_false, bindO_some, hjoin, fin, e2]
    · have e2 : decide (HoursP t n z) = decide (maxL z (z.getD 0 0) < t) := decide_eq_decide.2 ((hours_mm h0).trans ⟨fun hh => hh.2.2, fun hh => ⟨hl, by omega, hh⟩⟩)
      simp only [hm, decide_false, Bool.not_false, cond_true, cp0 (max73 rp h0 h40), bindP_some, asI_i, hlw, chk_true, bindO_some, hjoin, fin, e2]
  · have e1 : ((z.length : Int) == n) = false := by simpa using hl
    have e2 : decide (HoursP t n z) = false := decide_eq_false fun hh => hl hh.1
    simp only [e1, cond_false, bindO_some, hjoin, fin, e2]

end Go.Proofs.YtddnpchfjdgigaaDoor.T

/- Is and Slack, the program's and the specification's. -/
open Go.Vm
set_option linter.unusedVariables false
namespace Go.Proofs.YtddnpchfjdgigaaDoor.T
open Go

/-- a span in a block of its own -/
theorem tmp_span {ro : List ABlk} {h hp : Heap} (kh : Keep h hp) (s : Sp) : ∃ hp', stepM ro ⟨hp ++ [some (blkOf 31 z4)], h.length, h.length⟩ (.st 4 (.c (.p (some ⟨false, hp.length, 0⟩))) (.c s.v)) = some (und, ⟨hp', h.length, h.length⟩) ∧ Holds hp' hp.length s.vs ∧ Keep hp hp' ∧ hp'.length = hp.length + 1 := by
  obtain ⟨hp', s1, s2, s3, s4, s5⟩ := (Holds.new hp 31 z4).st (ro := ro) (h := h) (n := 4) (v := s.v) (vs' := s.vs) rfl rfl rfl rfl kh.1 (kh.trans (Keep.app _))
  refine ⟨hp', s1, s2, ⟨by rw [s3]; simp, fun i hi => by rw [s4 i (by omega)]; exact List.getElem?_append_left hi⟩, by rw [s3]; simp⟩
theorem spOk_in {t n : Int} {s : Sp} {z : List Int} (hs : spOk t n s) (hz : (z.length : Int) = n) (r2 : t ≤ 24) : (0 ≤ s.f ∧ s.f < z.length) ∧ (0 ≤ s.t ∧ s.t < z.length) ∧ (-2000 ≤ s.lo ∧ s.lo ≤ 2000) ∧ (-2000 ≤ s.hi ∧ s.hi ≤ 2000) := by
  unfold spOk at hs; omega

theorem isPlan50 {ro : List ABlk} {h : Heap} {t n : Int} {v w : AVal} {l : List Sp} {z : List Int} (a : IsSpans ro h v l) (ok : Ok t n l) (r : IsRow ro h w z) (h40 : z.length ≤ 1000) : callX F1 ro 50 [demV t n v, w] h = some (.b (decide (PlanP t n l z)), h, h.length, h.length) := by
  refine g50_ok (meansX_ok F1 ro) rfl ?_
  unfold g50
  obtain ⟨r1, r2, r3, r4⟩ := ok.r
  have hlen := ok.len
  have hb1 : stepM ro ⟨h, h.length, h.length⟩ (.bx 55 3 (.c (demV t n v))) = _ := bx_ok (vs := [.i .i64 t, .i .i64 n, v]) 55 rfl
  have d1 := Holds.new h 55 [.i .i64 t, .i .i64 n, v]
  have kp : Keep h (h ++ [some (blkOf 55 [.i .i64 t, .i .i64 n, v])]) := Keep.app _
  rw [hb1]
  generalize hhp : h ++ [some (blkOf 55 [.i .i64 t, .i .i64 n, v])] = hp at *
  have fin : ∀ (c : Bool) (hq : Heap), Keep h hq → finM h.length (tupA [.b c]) ⟨hq, h.length, h.length⟩ = some (.b c, h, h.length, h.length) := fun c hq k => fin_keep k rfl
  have rp := row_by r kp
  have ap := a.by kp
  simp only [bindP_some, d1.all (ro := ro) (n := 3) rfl, bindO_some, meansX_call, callM_pure (hasHours52 (ro := ro) (v := v) ok.r rp h40) kp.1 kp.1, asB_b, forceB_eq]
  by_cases hh : HoursP t n z
  · have h0 : 0 < z.length := by have := hh.1; omega
    obtain ⟨p, e1, g1⟩ := at_rowK r h0
    have l1 := (g1 (l := h.length) (q := h.length) kp).1
    have e0 : ((0 : Nat) : Int) = 0 := rfl
    rw [e0] at e1
    rw [decide_eq_true hh]
    simp only [Bool.not_true, cond_false, e1, l1, bindO_some, asI_i, eqI_eq]
    by_cases hz0 : z.getD 0 0 = 0
    · have e : (!(z.getD 0 0 == 0)) = false := by simpa using hz0
      have b2 := d1.one (ro := ro) (l := h.length) (p := h.length) (k := 2) (by simp)
      simp only [List.getD_cons_zero, List.getD_cons_succ] at b2
      rw [e]
      simp only [cond_false, p_faddr, b2, bindO_some, len_spans ap, asI_i, meansX_loop]
      have hloop := loop_upto (b := fun s : Int × Mm => g50_b1 (meansX F1 ro) ro w (.p (some ⟨false, h.length, 0⟩)) v l.length s.1 s.2) l.length (fun i m => m.lw = h.length ∧ m.lp = h.length ∧ Keep hp m.h ∧ ∀ j, j < i → keeps t (l.getD j Sp.z) z) (fun x => x.1 = false ∧ x.2.lw = h.length ∧ x.2.lp = h.length ∧ Keep hp x.2.h ∧ ¬ KeptP t l z) ?_ ?_ l.length 0 ⟨hp, h.length, h.length⟩ (by omega) ⟨rfl, rfl, Keep.refl hp, fun j hj => by omega⟩
      · obtain ⟨o, h1, h2⟩ := hloop
        rw [e0] at h1
        rw [h1]
        rcases h2 with ⟨⟨hq, lw, lp⟩, rfl, g1, g2, g3, g4⟩ | ⟨⟨c, hq, lw, lp⟩, rfl, g0, g1, g2, g3, g4⟩
        · simp only at g1 g2 g3
          subst g1 g2
          rw [show decide (PlanP t n l z) = true from decide_eq_true ⟨hh, hz0, g4⟩]
          exact fin _ _ (kp.trans g3)
        · simp only at g0 g1 g2 g3
          subst g0 g1 g2
          rw [show decide (PlanP t n l z) = false from decide_eq_false fun k => g4 k.2.2]
          exact fin _ _ (kp.trans g3)
      · rintro i ⟨hq, lw, lp⟩ hi ⟨g1, g2, g3, g4⟩
        simp only at g1 g2 g3
        subst g1 g2
        have kq := kp.trans g3
        obtain ⟨q, q1, q2, q3, q4⟩ := at_span (a.by kq) hi
        have hs := ok.sp i hi
        generalize hse : l.getD i Sp.z = s at *
        obtain ⟨i1, i2, i3, i4⟩ := spOk_in hs hh.1 r2
        obtain ⟨hq', s1, s2, s3, s4⟩ := tmp_span (ro := ro) kq s
        have hal := al_ok (ro := ro) (hp := hq) (l := h.length) (p := h.length) 31 z4
        have b3 := s2.oneA (ro := ro) (k := 3) (by simp)
        have b2 := s2.oneA (ro := ro) (k := 2) (by simp)
        simp only [List.getD_cons_zero, List.getD_cons_succ] at b2 b3
        have dq := (d1.by g3).by s3
        have aq := (a.by kq).by s3
        have rq := row_by (row_by r kq) s3
        have hc := callN_pure (slack48 (ro := ro) (h := hq') ok.r aq rq hh.2 i1 i2 i3) (by simp [demV, AVal.bel, bels, aq.bel, row_bel rq]) rfl
        simp only [g50_b1, forceB_eq, ltI_eq, lt_yes hi, cond_true, q1, q2, bindO_some, hal, bindP_some, s1, dq.allA (ro := ro) (n := 3) rfl, s2.allA (ro := ro) (n := 4) rfl, meansX_call, hc, asI_i, p_faddr, b2, b3, forceI_eq, wr_id' (x := s.hi - s.lo) (by omega) (by omega)]
        by_cases hk : keeps t s z
        · have e : decide (s.hi - s.lo < slackP t s z) = false := decide_eq_false (by unfold keeps at hk; omega)
          rw [e]
          refine .inl ⟨⟨hq', h.length, h.length⟩, ?_, rfl, rfl, g3.trans s3, fun j hj => ?_⟩
          · simp only [cond_false]
            rw [wr_next (by omega)]
          · rcases Nat.lt_or_ge j i with h3 | h3
            · exact g4 j h3
            · obtain rfl : j = i := by omega
              rw [hse]; exact hk
        · have e : decide (s.hi - s.lo < slackP t s z) = true := decide_eq_true (by unfold keeps at hk; omega)
          rw [e]
          exact .inr ⟨_, rfl, rfl, rfl, rfl, g3.trans s3, fun k => hk (hse ▸ k i hi)⟩
      · rintro ⟨hq, lw, lp⟩ _
        simp only [g50_b1, forceB_eq, ltI_eq, lt_no, cond_false]
    · have e : (!(z.getD 0 0 == 0)) = true := by simpa using hz0
      rw [e, show decide (PlanP t n l z) = false from decide_eq_false fun k => hz0 k.2.1]
      simp only [cond_true]
      exact fin _ _ kp
  · rw [decide_eq_false hh, show decide (PlanP t n l z) = false from decide_eq_false fun k => hh k.1]
    simp only [Bool.not_false, cond_true, bindO_some]
    exact fin _ _ kp

end Go.Proofs.YtddnpchfjdgigaaDoor.T

/- Slack, the program's and the specification's; the law TurnIs. -/
open Go.Vm
set_option linter.unusedVariables false
namespace Go.Proofs.YtddnpchfjdgigaaDoor.T
open Go

/-- a list that is filled from its beginning -/
def fillV (f : Nat → Int) (len i : Nat) : List AVal := (List.range len).map fun j => AVal.i .i64 (if j < i then f j else 0)
theorem fillV_len (f : Nat → Int) (len i : Nat) : (fillV f len i).length = len := by simp [fillV]
theorem fillV_set {f : Nat → Int} {len i : Nat} (hi : i < len) : (fillV f len i).set i (.i .i64 (f i)) = fillV f len (i + 1) := by
  refine List.ext_getElem (by simp [fillV]) fun j h1 h2 => ?_
  rw [List.getElem_set]
  simp only [fillV, List.getElem_map, List.getElem_range]
  by_cases e : i = j
  · subst e; rw [if_pos rfl, if_pos (by omega)]
  · rw [if_neg e]
    by_cases h : j < i
    · rw [if_pos h, if_pos (by omega)]
    · rw [if_neg h, if_neg (by omega)]
theorem fillV_zero (f : Nat → Int) (len : Nat) : rep [AVal.i .i64 0] len = fillV f len 0 := by
  refine List.ext_getElem (by rw [rep_len, fillV_len]) fun j h1 h2 => ?_
  rw [rep_len] at h1
  have := rep_get (.i .i64 0) len j h1
  rw [List.getD_eq_getElem?_getD, List.getElem?_eq_getElem (by rw [rep_len]; exact h1)] at this
  simp only [Option.getD_some] at this
  rw [this]
  simp [fillV]
theorem holds_row {ro : List ABlk} {hp : Heap} {b n : Nat} {cap : Cap} {vs : List AVal} {z : List Int} (a : Holds hp b vs) (hv : vs = z.map (AVal.i .i64)) (hn : n = z.length) : IsRow ro hp (.sl ⟨false, b, 0⟩ n cap) z := by
  subst hn hv
  obtain ⟨blk, h1, h2, h3⟩ := a
  simp only [List.length_map] at h2 h3
  exact .inr ⟨_, cap, blk, rfl, rdB_heap h1 0, by simp [h2], fun j hj => by rw [Nat.zero_add, h3 j hj, map_getD hj]⟩
theorem fillV_full (f : Nat → Int) (len : Nat) : fillV f len len = ((List.range len).map f).map (AVal.i .i64) := by
  rw [List.map_map]
  refine List.map_congr_left fun j hj => ?_
  have := List.mem_range.1 hj
  simp [this]

/-- all slacks -/
def slackL (t : Int) (l : List Sp) (z : List Int) : List Int := (List.range l.length).map fun i => slackP t (l.getD i Sp.z) z
theorem slackL_len (t : Int) (l : List Sp) (z : List Int) : (slackL t l z).length = l.length := by simp [slackL]
theorem slackL_get {t : Int} {l : List Sp} {z : List Int} {i : Nat} (hi : i < l.length) : (slackL t l z).getD i 0 = slackP t (l.getD i Sp.z) z := by simp [slackL, List.getD, hi]
def slE (t n : Int) (l : List Sp) (z : List Int) : Int := if rdE t n l = 0 then if HoursP t n z then 0 else 2 else rdE t n l
def slR (t n : Int) (l : List Sp) (z : List Int) : List Int := if rdE t n l = 0 ∧ HoursP t n z then slackL t l z else []

theorem loop28 {ro : List ABlk} {h hp : Heap} {t n : Int} {v w : AVal} {l : List Sp} {z : List Int} {B : Nat} (a : IsSpans ro h v l) (ok : Ok t n l) (r : IsRow ro h w z) (hh : HoursP t n z) (kh : Keep h hp) (d : Holds hp h.length [.i .i64 t, .i .i64 n, v]) (hB : Holds hp B (fillV (fun i => slackP t (l.getD i Sp.z) z) l.length 0)) (hLB : h.length < B) :
    ∃ hp', loopX (fun s : Int × Mm => g28_b0 (meansX F1 ro) ro w (.p (some ⟨false, h.length, 0⟩)) (.sl ⟨false, B, 0⟩ l.length (.known l.length)) v l.length s.1 s.2) (0, ⟨hp, h.length, h.length⟩) = some ⟨hp', h.length, h.length⟩ ∧ Keep h hp' ∧ Holds hp' B ((slackL t l z).map (AVal.i .i64)) := by
  obtain ⟨r1, r2, r3, r4⟩ := ok.r
  have hlen := ok.len
  have hloop := loop_all (b := fun s : Int × Mm => g28_b0 (meansX F1 ro) ro w (.p (some ⟨false, h.length, 0⟩)) (.sl ⟨false, B, 0⟩ l.length (.known l.length)) v l.length s.1 s.2) l.length (fun i m => m.lw = h.length ∧ m.lp = h.length ∧ Keep h m.h ∧ Holds m.h h.length [.i .i64 t, .i .i64 n, v] ∧ Holds m.h B (fillV (fun i => slackP t (l.getD i Sp.z) z) l.length i)) ?_ ?_ l.length 0 ⟨hp, h.length, h.length⟩ (by omega) ⟨rfl, rfl, kh, d, hB⟩
  · obtain ⟨⟨hq, lw, lp⟩, h1, g1, g2, g3, g4, g5⟩ := hloop
    simp only at g1 g2 g3 g4 g5
    subst g1 g2
    rw [fillV_full] at g5
    exact ⟨hq, h1, g3, g5⟩
  · rintro i ⟨hq, lw, lp⟩ hi ⟨g1, g2, g3, g4, g5⟩
    simp only at g1 g2 g3 g4 g5
    subst g1 g2
    obtain ⟨q, q1, q2, q3, q4⟩ := at_span (a.by g3) hi
    have hs := ok.sp i hi
    generalize hse : l.getD i Sp.z = s at *
    obtain ⟨i1, i2, i3, i4⟩ := spOk_in hs hh.1 r2
    obtain ⟨hq', s1, s2, s3, s4⟩ := tmp_span (ro := ro) g3 s
    have hal := al_ok (ro := ro) (hp := hq) (l := h.length) (p := h.length) 31 z4
    have k2 := g3.trans s3
    have hc := callM_pure (slack48 (ro := ro) (h := hq') ok.r (a.by k2) (row_by r k2) hh.2 i1 i2 i3) (l := h.length) (p := h.length) k2.1 k2.1
    obtain ⟨hr, w1, w2, w3, w4, w5⟩ := (g5.by s3).set (ro := ro) (h := h) (k := i) (v := .i .i64 (slackP t s z)) (by rw [fillV_len]; exact hi) rfl rfl rfl (by omega) k2
    rw [Nat.mul_one] at w1
    have hset := fillV_set (f := fun i => slackP t (l.getD i Sp.z) z) hi
    simp only [hse] at hset
    rw [hset] at w2
    refine ⟨⟨hr, h.length, h.length⟩, ?_, rfl, rfl, w5, (g4.by s3).keep (w4 _ (by omega)), w2⟩
    simp only [g28_b0, forceB_eq, ltI_eq, lt_yes hi, cond_true, q1, q2, bindO_some, hal, bindP_some, s1, (g4.by s3).all (ro := ro) (l := h.length) (p := h.length) (n := 3) rfl, s2.all (ro := ro) (l := h.length) (p := h.length) (n := 4) rfl, meansX_call, hc, asI_i, ixS_eq hi, w1, forceI_eq]
    rw [wr_next (by omega)]
  · rintro ⟨hq, lw, lp⟩ _
    simp only [g28_b0, forceB_eq, ltI_eq, lt_no, cond_false]

theorem slack28 {ro : List ABlk} {h : Heap} {t n : Int} {v w : AVal} {l : List Sp} {z : List Int} (a : IsSpans ro h v l) (r : IsRow ro h w z) (h40 : z.length ≤ 1000) : ∃ u hp, callX F1 ro 28 [.i .i64 t, .i .i64 n, v, w] h = some (.tup [u, .i .i64 (slE t n l z)], hp, h.length, h.length) ∧ Keep h hp ∧ IsRow ro hp u (slR t n l z) := by
  have hs := callM_pure (read43 (ro := ro) (t := t) (n := n) a) (Nat.le_refl _) (Nat.le_refl _)
  have hal := al_ok (ro := ro) (hp := h) (l := h.length) (p := h.length) 55 z3
  have fin : ∀ (e : Int) (hp : Heap), Keep h hp → finM h.length (tupA [.nsl, .i .i64 e]) ⟨hp, h.length, h.length⟩ = some (.tup [.nsl, .i .i64 e], h, h.length, h.length) := fun e hp k => fin_keep k rfl
  by_cases he : rdE t n l = 0
  · have ok := rdE_ok.1 he
    have hlen := ok.len
    have hd : demR t n v l = demV t n v := by simp only [demR, he, if_true]
    rw [hd, he] at hs
    obtain ⟨hp1, s1, s2, s3, s4, s5⟩ := (Holds.new h 55 z3).st (ro := ro) (h := h) (n := 3) (v := demV t n v) (vs' := [.i .i64 t, .i .i64 n, v]) rfl rfl rfl (ones3 a.one) (Nat.le_refl _) (Keep.app _)
    have hld := s2.all (ro := ro) (l := h.length) (p := h.length) (n := 3) rfl
    have hh52 := callM_pure (hasHours52 (ro := ro) (v := v) ok.r (row_by r s5) h40) (l := h.length) (p := h.length) s5.1 s5.1
    by_cases hh : HoursP t n z
    · have e1 : slE t n l z = 0 := by simp only [slE, he, hh, if_true]
      have e2 : slR t n l z = slackL t l z := by simp only [slR, he, hh, and_self, if_true]
      rw [e1, e2]
      rw [decide_eq_true hh] at hh52
      have hmk := mk_ok (ro := ro) (hp := hp1) (l := h.length) (p := h.length) (e := 3) (es := 1) (bytes := 8) (v := .i .i64 0) (n := l.length) (by omega) (by omega)
      have dB := Holds.new hp1 3 (rep [AVal.i .i64 0] l.length)
      rw [fillV_zero (fun i => slackP t (l.getD i Sp.z) z)] at dB
      have hnb : newBlk 3 (.i .i64 0) l.length = blkOf 3 (fillV (fun i => slackP t (l.getD i Sp.z) z) l.length 0) := by unfold newBlk; rw [fillV_zero (fun i => slackP t (l.getD i Sp.z) z)]
      have kx : Keep hp1 (hp1 ++ [some (blkOf 3 (fillV (fun i => slackP t (l.getD i Sp.z) z) l.length 0))]) := Keep.app _
      rw [hnb] at hmk
      obtain ⟨hp3, l1, l2, l3⟩ := loop28 a ok r hh (s5.trans kx) (s2.by kx) dB (by have := s2.lt; omega)
      refine ⟨.sl ⟨false, hp1.length, 0⟩ l.length (.known l.length), hp3, g28_ok (meansX_ok F1 ro) rfl ?_, l2, holds_row l3 rfl (slackL_len t l z).symm⟩
      unfold g28
      simp only [meansX_call, hs, bindP_some, ext0, ext1, bindO_some, asI_i, hal, s1, forceB_eq, eqI_eq, beq_self_eq_true, Bool.not_true, cond_false, hld, hh52, asB_b, len_spans a, hmk, meansX_loop, l1]
      have hbel : (tupA [AVal.sl ⟨false, hp1.length, 0⟩ l.length (.known l.length), .i .i64 0]).bel h.length = false := by
        have := not_bel (L := h.length) (b := hp1.length) (off := 0) (len := l.length) (cap := .known l.length) s5.1
        simp only [tupA, AVal.bel, bels] at this ⊢
        rw [this]; rfl
      rw [fin_new hbel]
      rfl
    · have e1 : slE t n l z = 2 := by simp only [slE, he, hh, if_true, if_false]
      have e2 : slR t n l z = [] := by simp only [slR, hh, and_false, if_false]
      rw [e1, e2]
      rw [decide_eq_false hh] at hh52
      refine ⟨.nsl, h, g28_ok (meansX_ok F1 ro) rfl ?_, Keep.refl h, .inl ⟨rfl, rfl⟩⟩
      unfold g28
      simp only [meansX_call, hs, bindP_some, ext0, ext1, bindO_some, asI_i, hal, s1, forceB_eq, eqI_eq, beq_self_eq_true, Bool.not_true, cond_false, hld, hh52, asB_b, Bool.not_false, cond_true]
      exact fin _ _ s5
  · have hd : demR t n v l = .agg z3 := by simp only [demR, he, if_false]
    have e1 : slE t n l z = rdE t n l := by simp only [slE, he, if_false]
    have e2 : slR t n l z = [] := by simp only [slR, he, false_and, if_false]
    rw [hd] at hs
    rw [e1, e2]
    obtain ⟨hp1, s1, s2, s3, s4, s5⟩ := (Holds.new h 55 z3).st (ro := ro) (h := h) (n := 3) (v := .agg z3) (vs' := z3) rfl rfl rfl rfl (Nat.le_refl _) (Keep.app _)
    have e : (rdE t n l == 0) = false := by simpa using he
    refine ⟨.nsl, h, g28_ok (meansX_ok F1 ro) rfl ?_, Keep.refl h, .inl ⟨rfl, rfl⟩⟩
    unfold g28
    simp only [meansX_call, hs, bindP_some, ext0, ext1, bindO_some, asI_i, hal, s1, forceB_eq, eqI_eq, e, Bool.not_false, cond_true]
    exact fin _ _ s5

/-- a call within a law -/
theorem lawM {ro : List ABlk} {h hp : Heap} {f : Nat} {vs : List AVal} {u : AVal} (e : callX F1 ro f vs h = some (u, hp, h.length, h.length)) : callM (callX F1 ro) ⟨h, 0, 0⟩ f vs = some (u, ⟨hp, 0, 0⟩) := by
  rw [callM_eq (m := ⟨h, 0, 0⟩) e]
  simp
end Go.Proofs.YtddnpchfjdgigaaDoor.T

/- Rounds, the program's and the specification's. -/
open Go.Vm
set_option linter.unusedVariables false
namespace Go.Proofs.YtddnpchfjdgigaaDoor.T
open Go

/-- a loop that adds -/
theorem loop_sum {b : Int × Int × Mm → Option ((Int × Int × Mm) ⊕ (Int × Mm))} (n : Nat) (f : Nat → Int) (I : Nat → Mm → Prop)
    (hin : ∀ i m, i < n → I i m → ∃ m', b (sumTo f i, (i : Int), m) = some (.inl (sumTo f (i + 1), ((i + 1 : Nat) : Int), m')) ∧ I (i + 1) m')
    (hout : ∀ m, I n m → b (sumTo f n, (n : Int), m) = some (.inr (sumTo f n, m))) (m : Mm) (hm : I 0 m) : ∃ m', loopX b (0, 0, m) = some (sumTo f n, m') ∧ I n m' := by
  have key : ∀ (k i : Nat) (m : Mm), i + k = n → I i m → ∃ m', loopX b (sumTo f i, (i : Int), m) = some (sumTo f n, m') ∧ I n m' := by
    intro k
    induction k with
    | zero =>
      intro i m h1 h2
      obtain rfl : i = n := by omega
      exact ⟨m, loopX_out (hout m h2), h2⟩
    | succ k ih =>
      intro i m h1 h2
      obtain ⟨m1, h3, h4⟩ := hin i m (by omega) h2
      obtain ⟨m2, h5, h6⟩ := ih (i + 1) m1 (by omega) h4
      exact ⟨m2, loopX_on h3 h5, h6⟩
  exact key n 0 m (by omega) hm

theorem few15' {ro : List ABlk} {h : Heap} {v w u : AVal} {l : List Sp} {z y : List Int} (a : IsSpans ro h v l) (hr : IsRow ro h w z) (hy : IsRow ro h u y) : callX F1 ro 15 [v, w, u] h = some (.b (decide (l.length ≤ 40 ∧ z.length ≤ 40 ∧ y.length ≤ 40)), h, h.length, h.length) := by
  refine g15_ok (meansX_ok F1 ro) rfl ?_
  unfold g15
  simp only [len_spans a, len_row hr, len_row hy, bindO_some, asI_i, forceB_eq, ltI_eq]
  have e1 : (!decide ((40 : Int) < (l.length : Int))) = decide (l.length ≤ 40) := by simp only [← decide_not]; exact decide_eq_decide.2 (by omega)
  have e2 : (!decide ((40 : Int) < (z.length : Int))) = decide (z.length ≤ 40) := by simp only [← decide_not]; exact decide_eq_decide.2 (by omega)
  have e3 : (!decide ((40 : Int) < (y.length : Int))) = decide (y.length ≤ 40) := by simp only [← decide_not]; exact decide_eq_decide.2 (by omega)
  rw [e1, e2, e3]
  by_cases h1 : l.length ≤ 40 <;> by_cases h2 : z.length ≤ 40 <;> by_cases h3 : y.length ≤ 40 <;> simp [h1, h2, h3, bindO, tupA] <;> exact fin_pure rfl

/-- spans, a ring and a plan -/
def RdC (t n : Int) (l : List Sp) (z xs : List Int) : Prop := rdE t n l = 0 ∧ PlanP t n l z ∧ ∃ ss, RingC l xs ss
def rnE (t n : Int) (l : List Sp) : Int := if rdE t n l = 0 then 2 else rdE t n l
def roundP (t : Int) (z : List Int) (ss : List Sp) : Int := sigSum t z ss / t
theorem sig_bd {t n : Int} {l : List Sp} (ok : Ok t n l) {xs : List Int} {ss : List Sp} (rc : RingC l xs ss) {z : List Int} {i : Nat} (hi : i < ss.length) : -1000 ≤ sigP t z (ss.getD i Sp.z) ∧ sigP t z (ss.getD i Sp.z) ≤ 1000 := by
  have h1 := stepP_rng ok (rc.pre.st i (by have := rc.pre.len; omega))
  obtain ⟨r1, r2, r3, r4⟩ := ok.r
  have h2 := slackP_rng r1 (ss.getD i Sp.z) z
  unfold sigP; omega
theorem sum_bd {t n : Int} {l : List Sp} (ok : Ok t n l) {xs : List Int} {ss : List Sp} (rc : RingC l xs ss) {z : List Int} {i : Nat} (hi : i ≤ ss.length) : -6000 ≤ sumTo (fun i => sigP t z (ss.getD i Sp.z)) i ∧ sumTo (fun i => sigP t z (ss.getD i Sp.z)) i ≤ 6000 := by
  have h1 := sumTo_bd (f := fun i => sigP t z (ss.getD i Sp.z)) (B := 1000) (k := i) fun j hj => sig_bd ok rc (by omega)
  have h6 := ring_six ok rc
  have := rc.pre.len
  omega
theorem exact_div {t s : Int} (ht : 1 ≤ t ∧ t ≤ 24) (hs : -6000 ≤ s ∧ s ≤ 6000) (hq : ∃ q, s = t * q) : Go.Vm.wr .i64 (Int.tdiv s t) = s / t ∧ s / t * t = s ∧ -6000 ≤ s / t ∧ s / t ≤ 6000 := by
  obtain ⟨q, rfl⟩ := hq
  have h1 : t * q / t = q := Int.mul_ediv_cancel_left _ (by omega)
  have h2 : Int.tdiv (t * q) t = q := Int.mul_tdiv_cancel_left _ (by omega)
  have h3 : -6000 ≤ q ∧ q ≤ 6000 := by
    constructor
    · rcases (by omega : -6000 ≤ q ∨ q ≤ -6001) with h | h
      · exact h
      · have := Int.mul_le_mul_of_nonneg_left h (show 0 ≤ t by omega)
        omega
    · rcases (by omega : q ≤ 6000 ∨ 6001 ≤ q) with h | h
      · exact h
      · have := Int.mul_le_mul_of_nonneg_left h (show 0 ≤ t by omega)
        omega
  rw [h1, h2, wr_id' (by omega) (by omega)]
  exact ⟨rfl, Int.mul_comm q t, h3.1, h3.2⟩

theorem sums34 {ro : List ABlk} {h hp : Heap} {t n : Int} {v w u : AVal} {l : List Sp} {z xs : List Int} {ss : List Sp} (a : IsSpans ro h v l) (ok : Ok t n l) (r : IsRow ro h w z) (hh : HoursP t n z) (kh : Keep h hp) (d : Holds hp h.length [.i .i64 t, .i .i64 n, v]) (sp : IsSpans ro hp u ss) (rc : RingC l xs ss) :
    ∃ hp', loopX (fun s : Int × Int × Mm => g34_b1 (meansX F1 ro) ro t w (.p (some ⟨false, h.length, 0⟩)) u ss.length s.1 s.2.1 s.2.2) (0, 0, ⟨hp, h.length, h.length⟩) = some (sigSum t z ss, ⟨hp', h.length, h.length⟩) ∧ Keep h hp' := by
  obtain ⟨r1, r2, r3, r4⟩ := ok.r
  have hlp := loop_sum (b := fun s : Int × Int × Mm => g34_b1 (meansX F1 ro) ro t w (.p (some ⟨false, h.length, 0⟩)) u ss.length s.1 s.2.1 s.2.2) ss.length (fun i => sigP t z (ss.getD i Sp.z)) (fun i m => m.lw = h.length ∧ m.lp = h.length ∧ Keep hp m.h) ?_ ?_ ⟨hp, h.length, h.length⟩ ⟨rfl, rfl, Keep.refl hp⟩
  · obtain ⟨⟨hq, lw, lp⟩, h1, g1, g2, g3⟩ := hlp
    simp only at g1 g2 g3
    subst g1 g2
    exact ⟨hq, h1, kh.trans g3⟩
  · rintro i ⟨hq, lw, lp⟩ hi ⟨g1, g2, g3⟩
    simp only at g1 g2 g3
    subst g1 g2
    have kq := kh.trans g3
    obtain ⟨q, q1, q2, q3, q4⟩ := at_span (sp.by g3) hi
    have hs := stepP_rng ok (rc.pre.st i (by have := rc.pre.len; omega))
    have hb0 := sum_bd ok rc (z := z) (i := i) (by omega)
    have hb1 := sum_bd ok rc (z := z) (i := i + 1) (by omega)
    have hsg := sig_bd ok rc (z := z) hi
    simp only [sumTo] at hb1 ⊢
    generalize hse : ss.getD i Sp.z = s at *
    obtain ⟨hq', s1, s2, s3, s4⟩ := tmp_span (ro := ro) kq s
    have hal := al_ok (ro := ro) (hp := hq) (l := h.length) (p := h.length) 31 z4
    have b2 := s2.oneA (ro := ro) (k := 2) (by simp)
    simp only [List.getD_cons_zero, List.getD_cons_succ] at b2
    have k2 := kq.trans s3
    have aq := a.by k2
    have rq := row_by r k2
    have hz1 := hh.1
    have hc := callN_pure (slack48 (ro := ro) (h := hq') (s := s) ok.r aq rq hh.2 ⟨by omega, by omega⟩ ⟨by omega, by omega⟩ ⟨by omega, by omega⟩) (by simp [demV, AVal.bel, bels, aq.bel, row_bel rq]) rfl
    have hw1 : Go.Vm.wr .i64 (s.lo + slackP t s z) = sigP t z s := by unfold sigP at hsg ⊢; rw [wr_id' (by omega) (by omega)]
    refine ⟨⟨hq', h.length, h.length⟩, ?_, rfl, rfl, g3.trans s3⟩
    simp only [g34_b1, forceB_eq, ltI_eq, lt_yes hi, cond_true, q1, q2, bindO_some, hal, bindP_some, s1, p_faddr, b2, asI_i, ((d.by g3).by s3).allA (ro := ro) (n := 3) rfl, s2.allA (ro := ro) (n := 4) rfl, meansX_call, hc, forceI_eq, hw1]
    rw [wr_id' (x := _ + sigP t z s) (by omega) (by omega)]
    rw [wr_next (by have := ring_six ok rc; have := rc.pre.len; omega)]
  · rintro ⟨hq, lw, lp⟩ _
    simp only [g34_b1, forceB_eq, ltI_eq, lt_no, cond_false]

theorem rounds34 {ro : List ABlk} {h : Heap} {t n : Int} {v w y : AVal} {l : List Sp} {z xs : List Int} (a : IsSpans ro h v l) (r : IsRow ro h w z) (ry : IsRow ro h y xs) (hx : ∀ x ∈ xs, inI64 x) (h40 : xs.length ≤ 40) (hz40 : z.length ≤ 1000) :
    (∃ ss, RingC l xs ss ∧ rdE t n l = 0 ∧ PlanP t n l z ∧ callX F1 ro 34 [.i .i64 t, .i .i64 n, v, w, y] h = some (.tup [.i .i64 (roundP t z ss), .i .i64 0], h, h.length, h.length)) ∨
    (¬ RdC t n l z xs ∧ callX F1 ro 34 [.i .i64 t, .i .i64 n, v, w, y] h = some (.tup [.i .i64 0, .i .i64 (rnE t n l)], h, h.length, h.length)) := by
  have fin : ∀ (b e : Int) (hp : Heap), Keep h hp → finM h.length (tupA [.i .i64 b, .i .i64 e]) ⟨hp, h.length, h.length⟩ = some (.tup [.i .i64 b, .i .i64 e], h, h.length, h.length) := fun b e hp k => fin_keep k rfl
  have hs := callM_pure (read43 (ro := ro) (t := t) (n := n) a) (Nat.le_refl _) (Nat.le_refl _)
  have hal := al_ok (ro := ro) (hp := h) (l := h.length) (p := h.length) 55 z3
  by_cases he : rdE t n l = 0
  · have ok := rdE_ok.1 he
    obtain ⟨r1, r2, r3, r4⟩ := ok.r
    have en : rnE t n l = 2 := by simp only [rnE, he, if_true]
    have hd : demR t n v l = demV t n v := by simp only [demR, he, if_true]
    rw [he, hd] at hs
    obtain ⟨hp1, s1, s2, s3, s4, s5⟩ := (Holds.new h 55 z3).st (ro := ro) (h := h) (n := 3) (v := demV t n v) (vs' := [.i .i64 t, .i .i64 n, v]) rfl rfl rfl (ones3 a.one) (Nat.le_refl _) (Keep.app _)
    have hld := s2.all (ro := ro) (l := h.length) (p := h.length) (n := 3) rfl
    rcases ring54 (a.by s5) ok (row_by ry s5) hx h40 with ⟨u, hp2, ss, h1, k2, sp, rc⟩ | ⟨h1, hn⟩
    · have hm : callM (callX F1 ro) ⟨hp1, h.length, h.length⟩ 54 [demV t n v, y] = some (.tup [u, .b true], ⟨hp2, h.length, h.length⟩) := by
        rw [callM_eq (m := ⟨hp1, h.length, h.length⟩) h1]
        simp only [Nat.min_eq_left s5.1]
      have k3 := s5.trans k2
      have hip := callM_pure (isPlan50 (ro := ro) (a.by k3) ok (row_by r k3) hz40) (l := h.length) (p := h.length) k3.1 k3.1
      have d3 := s2.by k2
      by_cases hP : PlanP t n l z
      · obtain ⟨hp4, l1, k4⟩ := sums34 a ok r hP.1 k3 d3 sp rc
        have hsb := sum_bd ok rc (z := z) (i := ss.length) (Nat.le_refl _)
        have hdv := (exact_div ⟨r1, r2⟩ hsb (ring_whole (n := n) rc z)).1
        refine .inl ⟨ss, rc, he, hP, g34_ok (meansX_ok F1 ro) rfl ?_⟩
        rw [decide_eq_true hP] at hip
        unfold g34
        simp only [meansX_call, hs, bindP_some, ext0, ext1, bindO_some, asI_i, hal, s1, forceB_eq, eqI_eq, beq_self_eq_true, Bool.not_true, cond_false, hld, hm, asB_b, d3.all (ro := ro) (l := h.length) (p := h.length) (n := 3) rfl, hip, len_spans sp, meansX_loop, l1, forceI_eq]
        have ht0 : (!(t == Int.ofNat 0)) = true := by rw [← eqI_eq]; exact eqI_pos r1
        rw [ht0, chk_true]
        have e2 : sigSum t z ss = sumTo (fun i => sigP t z (ss.getD i Sp.z)) ss.length := rfl
        rw [e2, hdv]
        exact fin _ _ hp4 k4
      · refine .inr ⟨fun k => hP k.2.1, g34_ok (meansX_ok F1 ro) rfl ?_⟩
        rw [decide_eq_false hP] at hip
        rw [en]
        unfold g34
        simp only [meansX_call, hs, bindP_some, ext0, ext1, bindO_some, asI_i, hal, s1, forceB_eq, eqI_eq, beq_self_eq_true, Bool.not_true, cond_false, hld, hm, asB_b, d3.all (ro := ro) (l := h.length) (p := h.length) (n := 3) rfl, hip, Bool.not_false, cond_true]
        exact fin _ _ hp2 k3
    · have hm : callM (callX F1 ro) ⟨hp1, h.length, h.length⟩ 54 [demV t n v, y] = some (.tup [.nsl, .b false], ⟨hp1, h.length, h.length⟩) := callM_pure h1 s5.1 s5.1
      refine .inr ⟨fun k => hn k.2.2, g34_ok (meansX_ok F1 ro) rfl ?_⟩
      rw [en]
      unfold g34
      simp only [meansX_call, hs, bindP_some, ext0, ext1, bindO_some, asI_i, hal, s1, forceB_eq, eqI_eq, beq_self_eq_true, Bool.not_true, cond_false, hld, hm, asB_b, Bool.not_false, cond_true]
      exact fin _ _ hp1 s5
  · have hd : demR t n v l = .agg z3 := by simp only [demR, he, if_false]
    have en : rnE t n l = rdE t n l := by simp only [rnE, he, if_false]
    rw [hd] at hs
    obtain ⟨hp1, s1, s2, s3, s4, s5⟩ := (Holds.new h 55 z3).st (ro := ro) (h := h) (n := 3) (v := .agg z3) (vs' := z3) rfl rfl rfl rfl (Nat.le_refl _) (Keep.app _)
    have e : (rdE t n l == 0) = false := by simpa using he
    refine .inr ⟨fun k => he k.1, g34_ok (meansX_ok F1 ro) rfl ?_⟩
    rw [en]
    unfold g34
    simp only [meansX_call, hs, bindP_some, ext0, ext1, bindO_some, asI_i, hal, s1, forceB_eq, eqI_eq, e, Bool.not_false, cond_true]
    exact fin _ _ hp1 s5

end Go.Proofs.YtddnpchfjdgigaaDoor.T

/- Free, the program's and the specification's; the law TurnRounds. -/
open Go.Vm
set_option linter.unusedVariables false
namespace Go.Proofs.YtddnpchfjdgigaaDoor.T
open Go

end Go.Proofs.YtddnpchfjdgigaaDoor.T

/- The law TurnWhole. -/
open Go.Vm
set_option linter.unusedVariables false
namespace Go.Proofs.YtddnpchfjdgigaaDoor.T
open Go

theorem ediv_bd {a t : Int} (ht : 1 ≤ t ∧ t ≤ 24) (ha : -100000 ≤ a ∧ a ≤ 100000) : -100001 ≤ a / t ∧ a / t ≤ 100000 := by
  have h4 := Int.emod_add_mul_ediv a t
  have h5 := Int.emod_nonneg a (show t ≠ 0 by omega)
  have h6 := Int.emod_lt_of_pos a (show 0 < t by omega)
  generalize a / t = p at *
  constructor
  · rcases (by omega : -100001 ≤ p ∨ p ≤ -100002) with c | c
    · exact c
    · have := Int.mul_le_mul_of_nonneg_left c (show 0 ≤ t by omega); omega
  · rcases (by omega : p ≤ 100000 ∨ 100001 ≤ p) with c | c
    · exact c
    · have := Int.mul_le_mul_of_nonneg_left c (show 0 ≤ t by omega); omega
theorem floor40 {ro : List ABlk} {h : Heap} {a t : Int} (ht : 1 ≤ t ∧ t ≤ 24) (ha : -100000 ≤ a ∧ a ≤ 100000) : callX F1 ro 40 [.i .i64 a, .i .i64 t] h = some (.i .i64 (a / t), h, h.length, h.length) := by
  refine g40_ok (meansX_ok F1 ro) rfl ?_
  unfold g40
  have h1 := Int.mul_tdiv_add_tmod a t
  have h2 := Int.lt_tmod_of_pos a (show 0 < t by omega)
  have h3 := Int.tmod_lt_of_pos a (show 0 < t by omega)
  have h4 := Int.emod_add_mul_ediv a t
  have h5 := Int.emod_nonneg a (show t ≠ 0 by omega)
  have h6 := Int.emod_lt_of_pos a (show 0 < t by omega)
  have key : ∀ p q x y : Int, t * p + x = a → y + t * q = a → -t < x → x < t → 0 ≤ y → y < t → (x < 0 → p - 1 = q) ∧ (0 ≤ x → p = q) := by
    intro p q x y e1 e2 b1 b2 b3 b4
    have e3 : t * (p - q) = y - x := by rw [Int.mul_sub]; omega
    constructor
    · intro hx
      rcases (by omega : p - q ≤ 0 ∨ p - q = 1 ∨ 2 ≤ p - q) with c | c | c
      · have := Int.mul_le_mul_of_nonneg_left c (show 0 ≤ t by omega); omega
      · omega
      · have := Int.mul_le_mul_of_nonneg_left c (show 0 ≤ t by omega); omega
    · intro hx
      rcases (by omega : p - q ≤ -1 ∨ p - q = 0 ∨ 1 ≤ p - q) with c | c | c
      · have := Int.mul_le_mul_of_nonneg_left c (show 0 ≤ t by omega); omega
      · omega
      · have := Int.mul_le_mul_of_nonneg_left c (show 0 ≤ t by omega); omega
  obtain ⟨k1, k2⟩ := key _ _ _ _ h1 h4 h2 h3 h5 h6
  have hb : -100000 ≤ Int.tdiv a t ∧ Int.tdiv a t ≤ 100000 := by
    generalize Int.tdiv a t = p at *
    constructor
    · rcases (by omega : -100000 ≤ p ∨ p ≤ -100001) with c | c
      · exact c
      · have := Int.mul_le_mul_of_nonneg_left c (show 0 ≤ t by omega); omega
    · rcases (by omega : p ≤ 100000 ∨ 100001 ≤ p) with c | c
      · exact c
      · have := Int.mul_le_mul_of_nonneg_left c (show 0 ≤ t by omega); omega
  have ht0 : (!(t == Int.ofNat 0)) = true := by rw [← eqI_eq]; exact eqI_pos ht.1
  simp only [eqI_eq, ht0, chk_true, forceI_eq, forceB_eq, ltI_eq, wr_id' (x := Int.tdiv a t) (by omega) (by omega)]
  by_cases hx : Int.tmod a t < 0
  · have hq := ediv_bd ht ha
    simp only [hx, decide_true, cond_true, bindO_some, k1 hx, wr_id' (x := a / t) (by omega) (by omega)]
    exact fin_pure rfl
  · simp only [hx, decide_false, cond_false, bindO_some, k2 (by omega)]
    exact fin_pure rfl

theorem loop10 {ro : List ABlk} {h : Heap} {t n x33 x59 x60 : Int} {v y u : AVal} {l : List Sp} {z xs : List Int} {ss : List Sp} (a : IsSpans ro h v l) (ok : Ok t n l) (ry : IsRow ro h y xs) (ru : IsRow ro h u (slackL t l z)) (hP : PlanP t n l z) (rc : RingC l xs ss) :
    loopX (fun s : Int × Int => g10_b3 (meansX F1 ro) ro t v y x33 u x59 x60 ⟨h, 0, 0⟩ s.1 s.2) (0, 0) = some (sigSum t z ss) := by
  obtain ⟨r1, r2, r3, r4⟩ := ok.r
  have hl := rc.pre.len
  have h6 := ring_six ok rc
  have hlen := ok.len
  have hsl := slackL_len t l z
  have hloop := loop_run (b := fun s : Int × Int => g10_b3 (meansX F1 ro) ro t v y x33 u x59 x60 ⟨h, 0, 0⟩ s.1 s.2) (fun i => (sumTo (fun i => sigP t z (ss.getD i Sp.z)) i, (i : Int))) xs.length (r0 := sigSum t z ss) ?_ ?_
  · exact hloop
  · unfold sigSum
    simp only [g10_b3, len_row ry, bindO_some, asI_i, forceB_eq, ltI_eq, lt_no, cond_false, hl]
  · intro i hi
    obtain ⟨px, e1, l1⟩ := at_rowK ry hi
    have l1a := (l1 (l := 0) (q := 0) (Keep.refl h)).1
    have l1b := (l1 (l := 0) (q := 0) (Keep.refl h)).2
    have hst := rc.pre.st i hi
    have hsk := (stepP_keeps ok hP.2.2 hst).2
    have hb0 := sum_bd ok rc (z := z) (i := i) (by omega)
    have hb1 := sum_bd ok rc (z := z) (i := i + 1) (by omega)
    simp only [sumTo] at hb1 ⊢
    rw [hsk] at hb1 ⊢
    generalize hxe : xs.getD i 0 = x at *
    have hlw := len_row ry
    rcases stepP_cases hst with ⟨hx1, hx2, -⟩ | ⟨hx1, hx2, -⟩
    · have hidx : x.toNat - 1 < l.length := by omega
      obtain ⟨⟨qr, qb, qo⟩, q1, q2, q3, q4⟩ := at_span a hidx
      have b2 := (q4 2 (by omega)).1
      simp only [List.getD_cons_zero, List.getD_cons_succ] at b2
      obtain ⟨pu, e2, l2⟩ := at_rowK ru (i := x.toNat - 1) (by omega)
      have l2a := (l2 (l := 0) (q := 0) (Keep.refl h)).2
      rw [slackL_get hidx] at l2a
      have hs := ok.sp _ hidx
      have hadd : addP t l z x = sigP t z (l.getD (x.toNat - 1) Sp.z) := by unfold addP; rw [if_pos (by omega)]
      rw [hadd] at hb1 ⊢
      generalize l.getD (x.toNat - 1) Sp.z = s at *
      obtain ⟨i1, i2, i3, i4⟩ := spOk_in hs hP.1.1 r2
      have hslk := slackP_rng r1 s z
      have hw1 : Go.Vm.wr .i64 (s.lo + slackP t s z) = sigP t z s := by unfold sigP; rw [wr_id' (by omega) (by omega)]
      have hc0 : decide (0 < x) = true := decide_eq_true (by omega)
      have hw : Go.Vm.wr .i64 (x - 1) = ((x.toNat - 1 : Nat) : Int) := by rw [wr_id' (by omega) (by omega)]; omega
      simp only [g10_b3, hlw, bindO_some, asI_i, forceB_eq, ltI_eq, lt_yes hi, cond_true, e1, l1a, l1b, hc0, forceI_eq, hw, q1, p_faddr, b2, e2, l2a, hw1]
      rw [wr_id' (x := _ + sigP t z s) (by omega) (by omega), wr_next (by omega)]
    · have hidx : (-x).toNat - 1 < l.length := by omega
      obtain ⟨⟨qr, qb, qo⟩, q1, q2, q3, q4⟩ := at_span a hidx
      have b2 := (q4 2 (by omega)).1
      simp only [List.getD_cons_zero, List.getD_cons_succ] at b2
      obtain ⟨pu, e2, l2⟩ := at_rowK ru (i := (-x).toNat - 1) (by omega)
      have l2a := (l2 (l := 0) (q := 0) (Keep.refl h)).2
      rw [slackL_get hidx] at l2a
      have hs := ok.sp _ hidx
      have hadd : addP t l z x = -sigP t z (l.getD ((-x).toNat - 1) Sp.z) := by unfold addP; rw [if_neg (by omega)]
      rw [hadd] at hb1 ⊢
      generalize l.getD ((-x).toNat - 1) Sp.z = s at *
      obtain ⟨i1, i2, i3, i4⟩ := spOk_in hs hP.1.1 r2
      have hslk := slackP_rng r1 s z
      have hw1 : Go.Vm.wr .i64 (s.lo + slackP t s z) = sigP t z s := by unfold sigP; rw [wr_id' (by omega) (by omega)]
      have hc0 : decide (0 < x) = false := decide_eq_false (by omega)
      have hw0 : Go.Vm.wr .i64 (0 - x) = -x := by rw [wr_id' (by omega) (by omega)]; omega
      have hw : Go.Vm.wr .i64 (-x - 1) = (((-x).toNat - 1 : Nat) : Int) := by rw [wr_id' (by omega) (by omega)]; omega
      simp only [g10_b3, hlw, bindO_some, asI_i, forceB_eq, ltI_eq, lt_yes hi, cond_true, e1, l1a, l1b, hc0, cond_false, forceI_eq, hw0, hw, q1, p_faddr, b2, e2, l2a, hw1]
      rw [wr_id' (x := _ - sigP t z s) (by omega) (by omega), wr_next (by omega)]
      rfl

theorem law10 {ro : List ABlk} {t n : Int} {v w y : AVal} {l : List Sp} {z xs : List Int} (a : IsSpans ro [] v l) (r : IsRow ro [] w z) (ry : IsRow ro [] y xs) (hx : ∀ x ∈ xs, inI64 x) : ∃ h' lw lp, callX F1 ro 10 [.i .i64 t, .i .i64 n, v, w, y] [] = some (.b true, h', lw, lp) := by
  suffices h : ∃ q, g10 (meansX F1 ro) ro t n v w y ⟨[], 0, 0⟩ = some q ∧ q.1 = .b true by
    obtain ⟨⟨u, h', lw, lp⟩, h1, rfl⟩ := h
    exact ⟨h', lw, lp, g10_ok (meansX_ok F1 ro) rfl h1⟩
  have hal : ∀ h : Heap, callM (callX F1 ro) ⟨h, 0, 0⟩ 16 [] = some (.b true, ⟨h, 0, 0⟩) := fun h => lawM alive_pure
  unfold g10
  simp only [meansX_call, lawM (few15' a r ry), bindP_some, asB_b, forceB_eq]
  by_cases hf : l.length ≤ 40 ∧ z.length ≤ 40 ∧ xs.length ≤ 40
  · obtain ⟨u, hp, h3, k3, i3⟩ := slack28 (t := t) (n := n) a r (by omega)
    have h3' := lawM h3
    have a3 := a.by k3
    have r3 := row_by r k3
    have ry3 := row_by ry k3
    rcases rounds34 (t := t) (n := n) a r ry hx hf.2.2 (by omega) with ⟨ss, rc, he, hP, h1⟩ | ⟨hn, h1⟩
    · have ok := rdE_ok.1 he
      obtain ⟨r1, r2, r3', r4⟩ := ok.r
      have es : slE t n l z = 0 := by simp only [slE, he, hP.1, if_true]
      have er : slR t n l z = slackL t l z := by simp only [slR, he, hP.1, and_self, if_true]
      rw [es] at h3'
      rw [er] at i3
      have hsp := spans20 (ro := ro) (t := t) (n := n) a3
      rw [he] at hsp
      have hlen := ok.len
      have hl := rc.pre.len
      have h6 := ring_six ok rc
      have hsb := sum_bd ok rc (z := z) (i := ss.length) (Nat.le_refl _)
      obtain ⟨d1, d2, d3⟩ := exact_div ⟨r1, r2⟩ hsb (ring_whole (n := n) rc z)
      have hss : sumTo (fun i => sigP t z (ss.getD i Sp.z)) ss.length = sigSum t z ss := rfl
      rw [hss] at d1 d2 d3 hsb
      have hrr := ring_rng ok rc hP.2.2
      rcases isRing39 a3 ok ry3 hx with ⟨ss', h4, rc', bl, bh⟩ | ⟨-, hn⟩
      · obtain rfl := ring_uniq rc rc'
        have f1 := floor40 (ro := ro) (h := hp) (a := 0 - loSum ss) (t := t) ⟨r1, r2⟩ (by omega)
        have f2 := floor40 (ro := ro) (h := hp) (a := hiSum ss) (t := t) ⟨r1, r2⟩ (by omega)
        have hk : roundP t z ss = sigSum t z ss / t := rfl
        have q1 : sigSum t z ss / t ≤ hiSum ss / t := Int.ediv_le_ediv (by omega) hrr.2
        have q2 : -(sigSum t z ss / t) ≤ (0 - loSum ss) / t := by
          rw [Int.le_ediv_iff_mul_le (by omega), Int.neg_mul]; omega
        have q3 := ediv_bd (a := 0 - loSum ss) (t := t) ⟨r1, r2⟩ (by omega)
        have hlsl := slackL_len t l z
        have c1 : (!((slackL t l z).length : Int) == (l.length : Int)) = false := by rw [hlsl]; simp
        have hw1 : Go.Vm.wr .i64 (sigSum t z ss / t * t) = sigSum t z ss := by rw [d2, wr_id' (by omega) (by omega)]
        have c3 : (!decide (sigSum t z ss / t < Go.Vm.wr .i64 (0 - (0 - loSum ss) / t))) = true := by
          rw [wr_id' (by omega) (by omega), decide_eq_false (by omega)]; rfl
        have c4 : (!decide (hiSum ss / t < sigSum t z ss / t)) = true := by rw [decide_eq_false (by omega)]; rfl
        simp only [hf, and_self, decide_true, Bool.not_true, cond_false, lawM h1, h3', bindP_some, ext0, ext1, ext2, bindO_some, asB_b, asI_i, beq_self_eq_true, eqI_eq, lawM hsp, lawM h4, len_row i3, len_spans a3, c1, meansX_loop, loop10 a3 ok ry3 i3 hP rc, hk, forceI_eq, hw1, cond_true, wr_id' (x := 0 - loSum ss) (by omega) (by omega), lawM f1, lawM f2, ltI_eq, c3, c4, hal]
        exact ⟨_, rfl, rfl⟩
      · exact absurd ⟨ss, rc⟩ hn
    · have hne : rnE t n l ≠ 0 := by
        unfold rnE
        split
        · omega
        · assumption
      have c1 : (!(rnE t n l == 0)) = true := by simpa using hne
      simp only [hf, and_self, decide_true, Bool.not_true, cond_false, lawM h1, h3', bindP_some, ext0, ext1, bindO_some, asB_b, asI_i, beq_self_eq_true, eqI_eq, c1, cond_true, hal]
      exact ⟨_, rfl, rfl⟩
  · have e : decide (l.length ≤ 40 ∧ z.length ≤ 40 ∧ xs.length ≤ 40) = false := decide_eq_false hf
    rw [e]
    simp only [Bool.not_false, cond_true, hal, bindP_some, asB_b]
    exact ⟨_, rfl, rfl⟩
end Go.Proofs.YtddnpchfjdgigaaDoor.T

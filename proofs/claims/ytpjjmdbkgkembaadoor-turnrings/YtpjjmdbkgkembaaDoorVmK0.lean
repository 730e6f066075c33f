/- Contracts of the functions: what each of them answers. -/
import Derived.Test.YtpjjmdbkgkembaaDoorVmGa0
import Derived.Test.YtpjjmdbkgkembaaDoorVmGa1
import Derived.Test.YtpjjmdbkgkembaaDoorVmGt
import Derived.Test.YtpjjmdbkgkembaaDoorVmFO
import Derived.Test.YtpjjmdbkgkembaaDoorRows
import Derived.WalkKit
import Derived.Lib.TrailingZeros
import Derived.Laws.Bits64b
import Derived.KernelRfl
import Derived.Test.YtpjjmdbkgkembaaDoorVmAE
import Derived.Test.YtpjjmdbkgkembaaDoorVmAG
import Derived.ProofKit
import Derived.OpenShut
import Derived.Carry
import Derived.Deep.Slices
import Derived.Lib.LaidTab
/- math/bits.TrailingZeros32: the model's call answers what the small machine knows beforehand. -/
open Go.Vm
set_option linter.unusedVariables false
namespace Go.Proofs.YtpjjmdbkgkembaaDoor.T
open Go Go.RowKit

def TabAt (w : World) : Prop := ∀ j, j < 32 → w.cell? ⟨0, j, none⟩ = some (.int .u8 ((Lib.deBruijn32tab.getD j 0 : Nat) : Int))

theorem wrap_u32 (n : Int) : IntKind.u32.wrap n = n % 4294967296 := by simp [IntKind.wrap, IntKind.signed, IntKind.bits]
theorem and_u32 (a b : Nat) (ha : a < 4294967296) (hb : b < 4294967296) : Go.bits .and .u32 (a : Int) (b : Int) = ((a &&& b : Nat) : Int) := by
  have hx : a &&& b < 2 ^ 32 := Nat.and_lt_two_pow _ (by omega)
  have h1 : (BitVec.ofInt 32 (a : Int)).toNat = a := by
    rw [BitVec.ofInt_natCast, BitVec.toNat_ofNat]; exact Nat.mod_eq_of_lt (by omega)
  have h2 : (BitVec.ofInt 32 (b : Int)).toNat = b := by
    rw [BitVec.ofInt_natCast, BitVec.toNat_ofNat]; exact Nat.mod_eq_of_lt (by omega)
  show IntKind.u32.wrap ((BitVec.ofInt 32 (a : Int) &&& BitVec.ofInt 32 (b : Int)).toNat : Int) = _
  rw [BitVec.toNat_and, h1, h2, wrap_u32]
  omega

set_option maxHeartbeats 1000000 in
theorem tz_core (x k idx : Nat) (w : World) (hx0 : ((x : Int) == 0) = false)
    (key : Go.bits BinOp.and IntKind.u32 (x : Int) (-(x : Int) % 4294967296) * 125613361 % 4294967296 / 134217728 = (idx : Int))
    (hi : idx < 32) (hk : k < 32) (hcell : w.cell? ⟨0, idx, none⟩ = some (.int .u8 k)) :
    Calls Tryd.prog 79 #[.int .u32 x] w fun e w' => e = .returned (.int .i64 k) ∧ w' = w := by
  go_enter Tryd.func79, Tryd.ntmps79
  go_wp2_with (simp only [key])
  go_ret
  exact ⟨rfl, rfl⟩

theorem tz_zero (w : World) : Calls Tryd.prog 79 #[.int .u32 0] w fun e w' => e = .returned (.int .i64 32) ∧ w' = w := by
  go_enter Tryd.func79, Tryd.ntmps79
  go_wp2
  go_ret
  exact ⟨rfl, rfl⟩

theorem ctzF_eq : ∀ (k n : Nat), n ≠ 0 → ctzF k n = Lib.ctzFrom k n
  | 0, n, _ => rfl
  | k + 1, n, h => by
    have e1 : Nat.mod n 2 = n % 2 := rfl
    have e2 : Nat.div n 2 = n / 2 := rfl
    simp only [ctzF, Lib.ctzFrom, e1, e2]
    by_cases hm : n % 2 = 1
    · simp [hm]
    · have : Nat.beq (n % 2) 1 = false := by
        cases hb : Nat.beq (n % 2) 1
        · rfl
        · exact absurd (Nat.eq_of_beq_eq_true hb) hm
      rw [this, if_neg hm, cond_false, ctzF_eq k (n / 2) (by omega)]
      omega
theorem ctzF_ctz (n : Nat) : ctzF 32 n = Lib.ctz 32 n := by
  by_cases h : n = 0
  · subst h; rfl
  · rw [ctzF_eq 32 n h]; simp [Lib.ctz, h]

theorem tz_key (x a : Nat) (hx : x < 4294967296) (hx0 : x ≠ 0) (hlow : x &&& (4294967296 - x) = a) :
    Go.bits BinOp.and IntKind.u32 (x : Int) (-(x : Int) % 4294967296) * 125613361 % 4294967296 / 134217728 = ((a * 125613361 % 4294967296 / 134217728 : Nat) : Int) := by
  have e1 : -(x : Int) % 4294967296 = ((4294967296 - x : Nat) : Int) := by omega
  rw [e1, and_u32 x _ hx (by omega), hlow]
  omega

theorem tz_all (x : Nat) (hx : x < 4294967296) (w : World) (hT : TabAt w) : Calls Tryd.prog 79 #[.int .u32 x] w fun e w' => e = .returned (.int .i64 (ctzF 32 x : Nat)) ∧ w' = w := by
  rw [ctzF_ctz]
  by_cases hx0 : x = 0
  · subst hx0
    exact tz_zero w
  · obtain ⟨hlow, hk⟩ := Lib.lowest_bit 32 x hx0 hx
    obtain ⟨hi, htab⟩ := Lib.deBruijn32_at _ hk
    have hcell := hT _ hi
    rw [htab] at hcell
    exact tz_core x _ _ w (by simp; omega) (tz_key x _ hx hx0 hlow) hi hk hcell

theorem enters79 (args' : Array Value) (w : World) : (callFunc 79 args').run Tryd.prog w = .ok (.enter 79 args') w := by
  have hb : (Tryd.f79.name == "runtime.NumGoroutine") = false := by kernel_rfl
  have hc : Tryd.f79.body.isSome = true := by kernel_rfl
  obtain ⟨c, hc⟩ := Option.isSome_iff_exists.1 hc
  have hne : ¬ Tryd.f79.name = "runtime.NumGoroutine" := by simpa using hb
  simp [callFunc, Tryd.func79, hne, hc]
theorem tz_ok {B : Nat} {w0 : World} {ro : List ABlk} {rl : Rl} (hT : TabAt w0) (hB : 0 < B) : CallOk (Env.mk Tryd.prog B w0 ro rl) tzC := by
  intro f args h v h' lw lp hcl
  unfold tzC at hcl
  cases hb : Nat.beq f 79
  · rw [hb] at hcl; cases hcl
  rw [hb] at hcl
  have := Nat.eq_of_beq_eq_true hb
  subst this
  simp only [cond_true] at hcl
  split at hcl
  · rename_i x
    split at hcl
    · rename_i n
      cases hn : Nat.blt n 4294967296
      · rw [hn] at hcl; cases hcl
      rw [hn] at hcl
      rw [Nat.blt_eq] at hn
      simp only [cond_true, Option.some.injEq, Prod.mk.injEq] at hcl
      obtain ⟨rfl, rfl, rfl, rfl⟩ := hcl
      refine ⟨fun args' w => enters79 args' w, fun m w args' hr hl => ?_⟩
      have hargs : args' = #[.int .u32 (n : Int)] := by
        obtain ⟨h1, h2⟩ := hl
        have hv := h2 0 _ rfl
        have := hv.inv_i
        obtain ⟨l⟩ := args'
        match l, h1 with
        | [a], _ =>
          simp at this
          subst this
          rfl
      subst hargs
      have hT' : TabAt w := fun j hj => by
        rw [hr.below.cell (p := ⟨0, j, none⟩) hB]
        exact hT j hj
      refine Calls.mono (tz_all n hn w hT') fun e w' hq => ?_
      obtain ⟨rfl, rfl⟩ := hq
      refine ⟨_, rfl, m, ?_, Tn.refl hr _ _⟩
      rw [mkN_eq]
      exact .i _ _
    · cases hcl
  · cases hcl
end Go.Proofs.YtpjjmdbkgkembaaDoor.T

/- From the small machine to the statement: lists of numbers and of spans in memory that is only read; what is known beforehand. -/
open Go.Vm
set_option linter.unusedVariables false
namespace Go.Proofs.YtpjjmdbkgkembaaDoor.T
open Go Go.RowKit Go.Deep Go.WideShapes Go.ChangeShapes

/-- a list of elements of es numbers each, in memory -/
def IsFlat (ro : List ABlk) (h : Heap) (v : AVal) (es len : Nat) (Z : List Int) : Prop :=
  (v = .nsl ∧ len = 0) ∨ ∃ q cap blk, v = .sl q len cap ∧ rdB ro h q = some blk ∧ q.off + len * es ≤ blk.n ∧ ∀ j, j < len * es → blk.c.get (q.off + j) = .i .i64 (Z.getD j 0)

/-- what is read in the world of such a list -/
structure OpenF (W : World) (v0 : Value) (es len : Nat) (Z : List Int) : Prop where
  o : (v0 = .slice none 0 0 ∧ len = 0) ∨ ∃ (a : Addr) (cap : Nat), v0 = .slice (some a) len cap ∧ len ≤ cap ∧ Z.length = cap * es ∧ ∀ i, i < cap * es → a.block < W.heap.size ∧ W.cell? (a.add i) = some (.int .i64 (Z.getD i 0))
  len_le : len ≤ 9223372036854775807
  z : ∀ n ∈ Z, inI64 n

theorem cells3 : Tryd.prog.cellsOf 3 = 1 := by kernel_rfl
theorem cells31 : Tryd.prog.cellsOf 31 = 4 := by kernel_rfl
theorem cells5 : Tryd.prog.cellsOf 5 = 1 := by kernel_rfl
theorem cells102 : Tryd.prog.cellsOf 102 = 32 := by kernel_rfl
theorem laidOut : laidOutB Tryd.prog = true := by kernel_rfl
theorem own : ownKnob Tryd.prog.godebug = none := by kernel_rfl

section
variable {H : Type} {enc : TypeId × Value → H} {W : World} {v0 : Value} {d : DataW H} {p : List MemPlace}
theorem opened_spans (hs : ∃ a len cap, v0 = .slice a len cap) (h : DataW.Trod enc Tryd.prog W 0 (fun _ => true) true 22 v0 d p) : ∃ len Z, OpenF W v0 4 len Z := by
  obtain ⟨a0, len, cap, rfl⟩ := hs
  obtain ⟨fuel, hf⟩ := h
  have hml : maxLen = 9223372036854775807 := rfl
  rcases open_slice Tryd.underlying22 hf with ⟨hcs0, hx⟩ | ⟨a, len', cap', m, n, D, Pl, hcs0, _, hl, hm, hmm, hx, hel⟩
  · simp [Value.cells] at hcs0
    obtain ⟨rfl, rfl, rfl⟩ := hcs0
    exact ⟨0, [], .inl ⟨rfl, rfl⟩, by omega, by simp⟩
  · simp [Value.cells] at hcs0
    obtain ⟨rfl, rfl, rfl⟩ := hcs0
    simp only [if_true] at hmm
    subst hmm
    have each : ∀ i, i < m → ∃ y : Nat → Int, ∀ k, k < 4 → W.cell? (a.add (i * 4 + k)) = some (.int .i64 (y k)) ∧ inI64 (y k) := by
      intro i hi
      obtain ⟨cs', h1, h2⟩ := hel i hi
      rw [cells31] at h1
      obtain ⟨_, hlen, hcell⟩ := World.cells?_some h1
      obtain ⟨xs, k, hk, hxy, _, hxl, hfs⟩ := DataW.trod_struct Tryd.underlying31 h2
      have hxl' : xs.length = 4 := hxl
      have one : ∀ j, j < 4 → ∃ z : Int, W.cell? (a.add (i * 4 + j)) = some (.int .i64 z) ∧ inI64 z := by
        intro j hj
        have hf : ∃ nm b1 b2 b3 b4, (#[{ name := "From", type := 3, offset := 0, embedded := false, tag := "", pkgPath := "", byteOffset := 0 },
        { name := "To", type := 3, offset := 1, embedded := false, tag := "", pkgPath := "", byteOffset := 8 },
        { name := "Low", type := 3, offset := 2, embedded := false, tag := "", pkgPath := "", byteOffset := 16 },
        { name := "High", type := 3, offset := 3, embedded := false, tag := "", pkgPath := "", byteOffset := 24 }] : Array Field)[j]? = some { name := nm, type := 3, offset := j, embedded := b1, tag := b2, pkgPath := b3, byteOffset := b4 } := by
          match j, hj with
          | 0, _ => exact ⟨_, _, _, _, _, rfl⟩
          | 1, _ => exact ⟨_, _, _, _, _, rfl⟩
          | 2, _ => exact ⟨_, _, _, _, _, rfl⟩
          | 3, _ => exact ⟨_, _, _, _, _, rfl⟩
        obtain ⟨nm, b1, b2, b3, b4, hf⟩ := hf
        have h3 := hfs j _ hf
        simp only [cells3] at h3
        have hx : xs[j]? = some xs[j] := List.getElem?_eq_getElem (by omega)
        rw [hx] at h3
        obtain ⟨z, e1, -, e2⟩ := DataW.trod_int Tryd.underlying3 h3
        refine ⟨z, ?_, wf_i64 e2⟩
        have h4 := hcell j hj
        rw [addr_addadd] at h4
        rw [h4]
        have h5 : ((cs'.drop j).take 1)[0]? = some (.int .i64 z) := by rw [e1]; rfl
        simpa [List.getElem?_take, List.getElem?_drop] using h5
      obtain ⟨y, hy⟩ := choose_lt (α := Int) (p := fun j z => W.cell? (a.add (i * 4 + j)) = some (.int .i64 z) ∧ inI64 z) one
      exact ⟨y, hy⟩
    obtain ⟨y, hy⟩ := choose_lt (α := Nat → Int) (p := fun i y => ∀ k, k < 4 → W.cell? (a.add (i * 4 + k)) = some (.int .i64 (y k)) ∧ inI64 (y k)) each
    refine ⟨len, (List.range (m * 4)).map fun k => y (k / 4) (k % 4), .inr ⟨a, m, rfl, hl, by simp, fun i hi => ?_⟩, by omega, fun n hn => ?_⟩
    · obtain ⟨h1, h2⟩ := hy (i / 4) (by omega) (i % 4) (by omega)
      rw [show i / 4 * 4 + i % 4 = i by omega] at h1
      have e : ((List.range (m * 4)).map fun k => y (k / 4) (k % 4)).getD i 0 = y (i / 4) (i % 4) := by simp [List.getD, hi]
      rw [e]
      exact ⟨World.block_lt_of_cell? _ _ h1 |> fun h => by simpa [addr_block] using h, h1⟩
    · obtain ⟨k, hk, rfl⟩ := List.mem_map.1 hn
      have hk := List.mem_range.1 hk
      exact (hy (k / 4) (by omega) (k % 4) (by omega)).2
end

/-- of an argument: read-only memory for it -/
theorem ro_of {W : World} {v0 : Value} {es len : Nat} {Z : List Int} (h : OpenF W v0 es len Z) (pre : List ABlk) (prl : Rl) (hp : pre.length = prl.length) : ∃ (ro : List ABlk) (rl : Rl) (v : AVal), ro.length = rl.length ∧
    (∀ x y h, IsFlat (pre ++ ro ++ x) h v es len Z ∧ VR (prl ++ rl ++ y) [] v v0) ∧
    ∀ (i : Nat) (b : ABlk), ro[i]? = some b → ∃ x, rl[i]? = some x ∧ ∀ j, j < b.n → x.block < W.heap.size ∧ ∃ v', W.cell? (x.add j) = some v' ∧ ∀ y, VR y [] (b.c.get j) v' := by
  rcases h.o with ⟨rfl, rfl⟩ | ⟨a, cap, rfl, hcap, hlen, hcell⟩
  · exact ⟨[], [], .nsl, rfl, fun x y h => ⟨.inl ⟨rfl, rfl⟩, .nsl⟩, fun i b hb => by simp at hb⟩
  · have hget : ∀ j, j < cap * es → (Tr.mk (Z.map (AVal.i .i64))).get j = .i .i64 (Z.getD j 0) := fun j hj => by
      rw [get_mk]; simp [List.getD, show j < Z.length by omega]
    refine ⟨[⟨0, cap * es, Tr.mk (Z.map (AVal.i .i64)), none⟩], [a], .sl ⟨true, pre.length, 0⟩ len (.known cap), rfl, fun x y h => ⟨.inr ⟨⟨true, pre.length, 0⟩, .known cap, ⟨0, cap * es, Tr.mk (Z.map (AVal.i .i64)), none⟩, rfl, ?_, ?_, fun j hj => ?_⟩, ?_⟩, fun i b hb => ?_⟩
    · simp only [rdB, cond_true, lget_eq, List.append_assoc]
      rw [List.getElem?_append_right (Nat.le_refl _)]; simp
    · have := Nat.mul_le_mul_right es hcap
      simpa using this
    · have := Nat.mul_le_mul_right es hcap
      have := hget j (by omega)
      simpa using this
    · refine .slk _ _ _ _ ?_
      show (((prl ++ [a] ++ y)[pre.length]?).map fun x => x.add 0) = some a
      rw [List.append_assoc, List.getElem?_append_right (by omega), hp]; simp [Addr.add]
    · cases i with
      | zero =>
        simp at hb
        subst hb
        refine ⟨a, rfl, fun j hj => ?_⟩
        obtain ⟨h1, h2⟩ := hcell j hj
        refine ⟨h1, _, h2, fun y => ?_⟩
        have := hget j hj
        simp only [this]
        exact .i _ _
      | succ i => simp at hb

theorem env_ok {W : World} {ro : List ABlk} {rl : Rl} (h : ∀ (i : Nat) (b : ABlk), ro[i]? = some b → ∃ x, rl[i]? = some x ∧ ∀ j, j < b.n → x.block < W.heap.size ∧ ∃ v', W.cell? (x.add j) = some v' ∧ VR rl [] (b.c.get j) v') :
    (Env.mk Tryd.prog W.heap.size W ro rl).Ok := ⟨fun i b hb => h i b hb, Nat.le_refl _⟩
abbrev F1 : Tab := ⟨F, orC (known0 16 (.b true)) tzC⟩

/-- the call of the model: true, and below nothing has turned -/
theorem call_of {W : World} {ro : List ABlk} {rl : Rl} (hT : TabAt W) (hE : (Env.mk Tryd.prog W.heap.size W ro rl).Ok) {K : Nat} {vs : List AVal} {args : Array Value}
    (hv : LR rl [] vs args) {h' : Heap} {lw lp : Nat} (hc : callX F1 ro K vs [] = some (.b true, h', lw, lp)) : Calls Tryd.prog K args W fun e W' => e = .returned (.bool true) ∧ Below W.heap.size W W' := by
  have hm : (Env.mk Tryd.prog W.heap.size W ro rl).P.follows .mixedOrders = true := Tryd.checked.mixed
  have hB : 0 < W.heap.size := by
    have := World.block_lt_of_cell? _ _ (hT 0 (by omega))
    exact this
  have hA : CallOk (Env.mk Tryd.prog W.heap.size W ro rl) (known0 16 (.b true)) := known0_ok (callX_sound (E := (Env.mk Tryd.prog W.heap.size W ro rl).bare) (Env.bare_ok hE) hm (F := ⟨F, tzC⟩) fok (tz_ok hT hB)) alive0 rfl
  have hO : CallOk (Env.mk Tryd.prog W.heap.size W ro rl) (orC (known0 16 (.b true)) tzC) := or_ok hA (tz_ok hT hB)
  obtain ⟨-, h2⟩ := callX_sound hE hm (F := F1) fok hO K vs [] _ _ _ _ hc
  refine Calls.mono (h2 [] W args ⟨Below.refl _ _, rfl, by simp, fun i b r K hl => by simp [Live] at hl, fun i j b b' r K K' hl => by simp [Live] at hl⟩ hv) fun e w' hq => ?_
  obtain ⟨v', rfl, m', hvr, T⟩ := hq
  exact ⟨by rw [hvr.inv_b], T.hr.below⟩

theorem tabLaid {W : World} (h : laidMet Tryd.prog [("math/bits.deBruijn32tab", Rows.laid_math_bits_deBruijn32tab)] W) : TabAt W := by
  have gT : Tryd.prog.globalNamed "math/bits.deBruijn32tab" = some 0 := by kernel_rfl
  have gTy : (Tryd.prog.globals[0]?).map (·.type) = some 102 := by kernel_rfl
  have hI : Lib.TabIs Tryd.prog W "math/bits.deBruijn32tab" .u8 (Lib.deBruijn32tab.map fun n : Nat => (n : Int)) := Lib.tabIs_of_head (rest := []) gT gTy Tryd.underlying102 Tryd.underlying5 cells5 cells102 h
  intro j hj
  have := hI.cell gT j (by simpa [Lib.deBruijn32tab] using hj)
  rw [this]
  have : (Lib.deBruijn32tab.map fun n : Nat => (n : Int)).getD j 0 = ((Lib.deBruijn32tab.getD j 0 : Nat) : Int) := by
    simp only [List.getD_eq_getElem?_getD, List.getElem?_map]
    cases Lib.deBruijn32tab[j]? <;> rfl
  rw [this]
end Go.Proofs.YtpjjmdbkgkembaaDoor.T

/- Blocks that a function makes for itself; spans; remainders. -/
open Go.Vm
set_option linter.unusedVariables false
namespace Go.Proofs.YtpjjmdbkgkembaaDoor.T
open Go

/-- a block of the heap that holds these values -/
def Holds (hp : Heap) (b : Nat) (vs : List AVal) : Prop := ∃ blk : ABlk, lget hp b = some (some blk) ∧ blk.n = vs.length ∧ ∀ j, j < vs.length → blk.c.get j = vs.getD j und
/-- what was there is still there -/
def Keep (h hp : Heap) : Prop := h.length ≤ hp.length ∧ ∀ i, i < h.length → hp[i]? = h[i]?

section
variable {ro : List ABlk} {h hp hp' : Heap} {b k e n l p : Nat} {vs : List AVal}
theorem Keep.refl (h : Heap) : Keep h h := ⟨Nat.le_refl _, fun _ _ => rfl⟩
theorem Keep.trans {h1 : Heap} (a : Keep h h1) (c : Keep h1 hp) : Keep h hp := ⟨Nat.le_trans a.1 c.1, fun i hi => by rw [c.2 i (by have := a.1; omega), a.2 i hi]⟩
theorem Keep.app (x : Heap) : Keep h (h ++ x) := ⟨by simp, fun i hi => List.getElem?_append_left hi⟩
theorem Keep.set (a : Keep h hp) (hb : h.length ≤ b) (x : Option ABlk) : Keep h (hp.set b x) := ⟨by simpa using a.1, fun i hi => by rw [List.getElem?_set_ne (by omega)]; exact a.2 i hi⟩
theorem Keep.eq (a : Keep h hp) : hp.take h.length = h := by
  refine List.ext_getElem? fun i => ?_
  rcases Nat.lt_or_ge i h.length with hi | hi
  · rw [List.getElem?_take_of_lt hi, a.2 i hi]
  · rw [List.getElem?_eq_none (by simp; omega), List.getElem?_eq_none hi]
theorem fin_keep {v : AVal} (a : Keep h hp) (hv : v.bel h.length = true) : finM h.length v ⟨hp, h.length, h.length⟩ = some (v, h, h.length, h.length) := by
  rw [fin_take hv, a.eq]
theorem Holds.lt (a : Holds hp b vs) : b < hp.length := by obtain ⟨blk, h1, -⟩ := a; exact lget_lt h1
theorem Holds.new (hp : Heap) (e : Nat) (vs : List AVal) : Holds (hp ++ [some (blkOf e vs)]) hp.length vs := ⟨_, lget_last _ _, rfl, fun j _ => get_blk e vs j⟩
theorem Holds.keep (a : Holds hp b vs) (hk : hp'[b]? = hp[b]?) : Holds hp' b vs := by
  obtain ⟨blk, h1, h2⟩ := a
  exact ⟨blk, by rw [lget_of hk]; exact h1, h2⟩
theorem Holds.ext (a : Holds hp b vs) (x : Heap) : Holds (hp ++ x) b vs := a.keep (List.getElem?_append_left a.lt)
theorem Holds.by (a : Holds hp b vs) (k : Keep hp hp') : Holds hp' b vs := a.keep (k.2 b a.lt)
theorem Holds.one (a : Holds hp b vs) (hk : k < vs.length) : ldM ro ⟨hp, l, p⟩ true 1 (.p (some ⟨false, b, 0 + k⟩)) = some (vs.getD k und) := by
  obtain ⟨blk, h1, h2, h3⟩ := a
  rw [ld_heap rfl h1 (by omega), ← h3 k hk, Nat.zero_add]
theorem Holds.oneA (a : Holds hp b vs) (hk : k < vs.length) : ldA ro hp true 1 (.p (some ⟨false, b, 0 + k⟩)) = some (vs.getD k und) := by
  obtain ⟨blk, h1, h2, h3⟩ := a
  rw [lda_heap h1 (by omega), ← h3 k hk, Nat.zero_add]
theorem row_list {t : Tr} : ∀ (vs : List AVal) (i : Nat), (∀ j, j < vs.length → t.get (i + j) = vs.getD j und) → t.row i vs.length = vs
  | [], i, _ => rfl
  | v :: vs, i, h => by
    simp only [List.length_cons, Tr.row]
    rw [show t.get i = v by simpa using h 0 (by simp), row_list vs (i + 1) fun j hj => by have := h (j + 1) (by simp; omega); rw [show i + 1 + j = i + (j + 1) by omega, this]; simp]
theorem Holds.rd (a : Holds hp b vs) (hn : n = vs.length) : Go.Vm.rd ro hp false n ⟨false, b, 0⟩ = some (.agg vs) := by
  subst hn
  obtain ⟨blk, h1, h2, h3⟩ := a
  have hc : Nat.ble (0 + vs.length) blk.n = true := by rw [Nat.ble_eq]; omega
  simp only [Go.Vm.rd, rdB_heap h1, cond_false, hc, cond_true]
  rw [row_list vs 0 fun j hj => by rw [Nat.zero_add]; exact h3 j hj]
theorem Holds.all (a : Holds hp b vs) (hn : n = vs.length) : ldM ro ⟨hp, l, p⟩ false n (.p (some ⟨false, b, 0⟩)) = some (.agg vs) := by
  simp only [ldM, a.rd hn]
theorem spliceGet (t : Tr) : ∀ (vs : List AVal) (i j : Nat), (t.splice i vs).get j = if i ≤ j ∧ j < i + vs.length then vs.getD (j - i) und else t.get j
  | [], i, j => by simp [Tr.splice]; intro h1 h2; omega
  | v :: vs, i, j => by
    rw [Tr.splice, spliceGet (t.set i v) vs (i + 1) j, get_set]
    by_cases e : i = j
    · subst e
      rw [if_neg (by omega), if_pos rfl, if_pos (by simp)]; simp
    · by_cases h2 : i ≤ j ∧ j < i + (v :: vs).length
      · have h3 : i + 1 ≤ j ∧ j < i + 1 + vs.length := by simp at h2; omega
        rw [if_pos h2, if_pos h3]
        obtain ⟨q, rfl⟩ : ∃ q, j = i + 1 + q := ⟨j - (i + 1), by omega⟩
        rw [show i + 1 + q - i = q + 1 by omega, show i + 1 + q - (i + 1) = q by omega]
        simp
      · have h3 : ¬ (i + 1 ≤ j ∧ j < i + 1 + vs.length) := by simp at h2; omega
        rw [if_neg h2, if_neg h3, if_neg e]
theorem wrH_all {blk : ABlk} (hb : lget hp b = some (some blk)) (hn : vs.length ≤ blk.n) (ho : ones vs = true) : wrH hp ⟨false, b, 0⟩ vs = some (hp.set b (some { blk with c := blk.c.splice 0 vs })) := by
  have : (Nat.ble (0 + vs.length) blk.n && ones vs) = true := by rw [ho, Bool.and_true, Nat.ble_eq]; omega
  simp only [wrH, cond_false, hb, this, cond_true, lset_eq]
/-- a block is written whole -/
theorem Holds.st {vs' : List AVal} {v : AVal} (a : Holds hp b vs) (hv : v.cells = vs') (hn : n = vs'.length) (hl : vs'.length = vs.length) (ho : ones vs' = true) (hL : h.length ≤ b) (kp : Keep h hp) :
    ∃ hp', stepM ro ⟨hp, h.length, h.length⟩ (.st n (.c (.p (some ⟨false, b, 0⟩))) (.c v)) = some (und, ⟨hp', h.length, h.length⟩) ∧ Holds hp' b vs' ∧ hp'.length = hp.length ∧ (∀ i, i ≠ b → hp'[i]? = hp[i]?) ∧ Keep h hp' := by
  obtain ⟨blk, h1, h2, h3⟩ := a
  subst hv hn
  have hw := wrH_all h1 (vs := v.cells) (by omega) ho
  refine ⟨hp.set b (some { blk with c := blk.c.splice 0 v.cells }), ?_, ⟨_, lget_set h1 _, by simpa using (h2.trans hl.symm), fun j hj => ?_⟩, by simp, fun i hi => List.getElem?_set_ne (Ne.symm hi), kp.set hL _⟩
  · have hbq : Nat.beq v.cells.length v.cells.length = true := Nat.beq_refl _
    have e : (cond (nonp v.cells) h.length h.length) = h.length := by cases nonp v.cells <;> rfl
    simp only [stepM, stepK, opd, st_st, hbq, cond_true, hw, St.mm, Nat.min_eq_left hL, e]
  · show (blk.c.splice 0 v.cells).get j = _
    rw [spliceGet, if_pos (by omega)]; simp
theorem al_ok (e : Nat) (z : List AVal) : stepM ro ⟨hp, l, p⟩ (.al e z) = some (.p (some ⟨false, hp.length, 0⟩), ⟨hp ++ [some (blkOf e z)], l, p⟩) := rfl
theorem bx_ok (e : Nat) (hn : vs.length = n) : stepM ro ⟨hp, l, p⟩ (.bx e n (.c (.agg vs))) = some (.p (some ⟨false, hp.length, 0⟩), ⟨hp ++ [some (blkOf e vs)], l, p⟩) := by
  subst hn
  have hbq : Nat.beq vs.length vs.length = true := Nat.beq_refl _
  simp only [stepM, stepK, opd, st_bx, AVal.cells, hbq, cond_true, newB, St.mm]
end

/- remainders -/
theorem tmod_add {x t : Int} (ht : 1 ≤ t) : Int.tmod (Int.tmod x t + t) t = x % t := by
  have h1 : -t < Int.tmod x t ∧ Int.tmod x t < t := by
    constructor
    · have := Int.lt_tmod_of_pos x (show 0 < t by omega); omega
    · exact Int.tmod_lt_of_pos x (by omega)
  have h2 : Int.tmod x t = x - t * Int.tdiv x t := by have := Int.mul_tdiv_add_tmod x t; omega
  rw [Int.tmod_eq_emod_of_nonneg (by omega), h2]
  rw [show x - t * x.tdiv t + t = x + t * (1 - x.tdiv t) by rw [Int.mul_sub]; omega, Int.add_mul_emod_self_left]
theorem tmod_rng {x t : Int} (ht : 1 ≤ t) (h24 : t ≤ 24) : inI64 (Int.tmod x t + t) := by
  have h3 := Int.lt_tmod_of_pos x (show 0 < t by omega)
  have h4 := Int.tmod_lt_of_pos x (show 0 < t by omega)
  constructor <;> omega
theorem eqI_pos {t : Int} (ht : 1 ≤ t) : (!eqI t (.ofNat 0)) = true := by
  rw [eqI_eq]; simp; omega
theorem mod67 {ro : List ABlk} {h : Heap} {x t : Int} (ht : 1 ≤ t) (h24 : t ≤ 24) : callX F1 ro 67 [.i .i64 x, .i .i64 t] h = some (.i .i64 (x % t), h, h.length, h.length) := by
  refine g67_ok (meansX_ok F1 ro) rfl ?_
  unfold g67
  simp only [eqI_pos ht, chk_true, forceI_eq, wr_id (tmod_rng ht h24), tmod_add ht, tupA]
  exact fin_pure rfl
abbrev demV (t n : Int) (v : AVal) : AVal := .agg [.i .i64 t, .i .i64 n, v]
theorem mod70 {ro : List ABlk} {h : Heap} {x t n : Int} {v : AVal} (ht : 1 ≤ t) (h24 : t ≤ 24) : callX F1 ro 70 [demV t n v, .i .i64 x] h = some (.i .i64 (x % t), h, h.length, h.length) := by
  refine g70_ok (meansX_ok F1 ro) rfl ?_
  unfold g70
  have hb := Holds.new h 55 [.i .i64 t, .i .i64 n, v]
  have h0 := hb.oneA (ro := ro) (k := 0) (by simp)
  have hbx : stepM ro ⟨h, h.length, h.length⟩ (.bx 55 3 (.c (demV t n v))) = _ := bx_ok (vs := [.i .i64 t, .i .i64 n, v]) 55 rfl
  rw [hbx]
  simp only [bindP_some, p_faddr, bindO_some, Nat.zero_add, Nat.add_zero] at h0 ⊢
  simp only [h0, List.getD_cons_zero, bindO_some, asI_i, eqI_pos ht, chk_true, forceI_eq, wr_id (tmod_rng ht h24), tmod_add ht, tupA]
  exact fin_drop rfl

/- spans -/
structure Sp where
  f : Int
  t : Int
  lo : Int
  hi : Int
def Sp.z : Sp := ⟨0, 0, 0, 0⟩
def Sp.fits (s : Sp) : Prop := inI64 s.f ∧ inI64 s.t ∧ inI64 s.lo ∧ inI64 s.hi
abbrev Sp.vs (s : Sp) : List AVal := [.i .i64 s.f, .i .i64 s.t, .i .i64 s.lo, .i .i64 s.hi]
abbrev Sp.v (s : Sp) : AVal := .agg s.vs
def IsSpans (ro : List ABlk) (h : Heap) (v : AVal) (l : List Sp) : Prop :=
  (v = .nsl ∧ l = []) ∨ ∃ q cap blk, v = .sl q l.length cap ∧ rdB ro h q = some blk ∧ q.off + l.length * 4 ≤ blk.n ∧
    ∀ j, j < l.length → ∀ k, k < 4 → blk.c.get (q.off + j * 4 + k) = (l.getD j Sp.z).vs.getD k und
def spansOf (len : Nat) (Z : List Int) : List Sp := (List.range len).map fun i => ⟨Z.getD (i * 4) 0, Z.getD (i * 4 + 1) 0, Z.getD (i * 4 + 2) 0, Z.getD (i * 4 + 3) 0⟩
theorem spans_of {ro : List ABlk} {h : Heap} {v : AVal} {len : Nat} {Z : List Int} (a : IsFlat ro h v 4 len Z) : IsSpans ro h v (spansOf len Z) := by
  rcases a with ⟨rfl, rfl⟩ | ⟨q, cap, blk, rfl, hb, hn, hc⟩
  · exact .inl ⟨rfl, rfl⟩
  · refine .inr ⟨q, cap, blk, by simp [spansOf], hb, by simpa [spansOf] using hn, fun j hj k hk => ?_⟩
    have hj : j < len := by simpa [spansOf] using hj
    have e : (spansOf len Z).getD j Sp.z = ⟨Z.getD (j * 4) 0, Z.getD (j * 4 + 1) 0, Z.getD (j * 4 + 2) 0, Z.getD (j * 4 + 3) 0⟩ := by simp [spansOf, List.getD, hj]
    rw [e, Nat.add_assoc, hc (j * 4 + k) (by omega)]
    match k, hk with
    | 0, _ => rfl
    | 1, _ => rfl
    | 2, _ => rfl
    | 3, _ => rfl
section
variable {ro : List ABlk} {h : Heap} {v : AVal} {l : List Sp}
theorem IsSpans.ext (x : Heap) (a : IsSpans ro h v l) : IsSpans ro (h ++ x) v l := by
  rcases a with h0 | ⟨q, cap, blk, e, hb, h1, h2⟩
  · exact .inl h0
  · exact .inr ⟨q, cap, blk, e, rdB_ext x hb, h1, h2⟩
theorem IsSpans.by {hp : Heap} (a : IsSpans ro h v l) (k : Keep h hp) : IsSpans ro hp v l := by
  rw [take_eq k.1 k.2]; exact a.ext _
theorem row_by {hp : Heap} {z : List Int} (a : IsRow ro h v z) (k : Keep h hp) : IsRow ro hp v z := by
  rw [take_eq k.1 k.2]; exact a.ext _
theorem IsSpans.bel (a : IsSpans ro h v l) : v.bel h.length = true := by
  rcases a with ⟨rfl, rfl⟩ | ⟨q, cap, blk, rfl, hb, h1, h2⟩
  · rfl
  · simpa [AVal.bel] using rdB_lt hb
theorem len_spans (a : IsSpans ro h v l) : evP .e (.len false (.c v)) = some (.i .i64 l.length) := by
  rcases a with ⟨rfl, rfl⟩ | ⟨q, cap, blk, rfl, -⟩
  · rfl
  · simp [evP, ev_len, opd, mkI_eq]
/-- the place of a span, and what lies there -/
theorem at_span (a : IsSpans ro h v l) {i : Nat} (hi : i < l.length) : ∃ q : Vm.Loc, evP .e (.ixS 4 (.c v) (.c (.i .i64 (i : Int)))) = some (.p (some q)) ∧ (∀ lw lp, ldM ro ⟨h, lw, lp⟩ false 4 (.p (some q)) = some (l.getD i Sp.z).v) ∧ ldA ro h false 4 (.p (some q)) = some (l.getD i Sp.z).v ∧
    ∀ k, k < 4 → ldA ro h true 1 (.p (some ⟨q.ro, q.b, q.off + k⟩)) = some ((l.getD i Sp.z).vs.getD k und) ∧ ∀ lw lp, ldM ro ⟨h, lw, lp⟩ true 1 (.p (some ⟨q.ro, q.b, q.off + k⟩)) = some ((l.getD i Sp.z).vs.getD k und) := by
  rcases a with ⟨rfl, rfl⟩ | ⟨q, cap, blk, rfl, hb, hn, hc⟩
  · simp at hi
  · have hblt : Nat.blt i l.length = true := by rw [Nat.blt_eq]; exact hi
    have e : ((i : Int)) = Int.ofNat i := rfl
    have hb' : rdB ro h ⟨q.ro, q.b, q.off + i * 4⟩ = some blk := hb
    have hc4 : Nat.ble (q.off + i * 4 + 4) blk.n = true := by rw [Nat.ble_eq]; omega
    have hrow : blk.c.row (q.off + i * 4) 4 = (l.getD i Sp.z).vs := row_list (t := blk.c) (l.getD i Sp.z).vs (q.off + i * 4) fun j hj => hc i hi j hj
    have hrd : rd ro h false 4 ⟨q.ro, q.b, q.off + i * 4⟩ = some (l.getD i Sp.z).v := by
      simp only [rd, hb', cond_false, hc4, cond_true, hrow]
    have hlt := rdB_lt hb
    refine ⟨⟨q.ro, q.b, q.off + i * 4⟩, ?_, fun lw lp => hrd, ?_, fun k hk => ?_⟩
    · simp only [evP, ev_ixS, opd, e, atI, hblt, cond_true]
    · simp only [ldA, hlt, cond_true, hrd]
    · have h1 : rd ro h true 1 ⟨q.ro, q.b, q.off + i * 4 + k⟩ = some ((l.getD i Sp.z).vs.getD k und) := by
        have hb2 : rdB ro h ⟨q.ro, q.b, q.off + i * 4 + k⟩ = some blk := hb
        have : Nat.blt (q.off + i * 4 + k) blk.n = true := by rw [Nat.blt_eq]; omega
        simp only [rd, hb2, cond_true, this, hc i hi k hk]
      exact ⟨by simp only [ldA, hlt, cond_true, h1], fun lw lp => h1⟩
end
theorem ext0 (a : AVal) (l : List AVal) : evP .e (.ext 0 (.c (.tup (a :: l)))) = some a := rfl
theorem ext1 (a b : AVal) (l : List AVal) : evP .e (.ext 1 (.c (.tup (a :: b :: l)))) = some b := rfl
theorem ext2 (a b c : AVal) (l : List AVal) : evP .e (.ext 2 (.c (.tup (a :: b :: c :: l)))) = some c := rfl
theorem ext3 (a b c d : AVal) (l : List AVal) : evP .e (.ext 3 (.c (.tup (a :: b :: c :: d :: l)))) = some d := rfl
theorem ext4 (a b c d e : AVal) (l : List AVal) : evP .e (.ext 4 (.c (.tup (a :: b :: c :: d :: e :: l)))) = some e := rfl
theorem few15 {ro : List ABlk} {h : Heap} {v w : AVal} {l : List Sp} {z : List Int} (a : IsSpans ro h v l) (hr : IsRow ro h w z) : callX F1 ro 15 [v, w, .nsl] h = some (.b (decide (l.length ≤ 40 ∧ z.length ≤ 40)), h, h.length, h.length) := by
  refine g15_ok (meansX_ok F1 ro) rfl ?_
  unfold g15
  have hn : evP .e (.len false (.c AVal.nsl)) = some (.i .i64 0) := rfl
  simp only [len_spans a, len_row hr, hn, bindO_some, asI_i, forceB_eq, ltI_eq]
  have e1 : (!decide ((40 : Int) < (l.length : Int))) = decide (l.length ≤ 40) := by simp only [← decide_not]; exact decide_eq_decide.2 (by omega)
  have e2 : (!decide ((40 : Int) < (z.length : Int))) = decide (z.length ≤ 40) := by simp only [← decide_not]; exact decide_eq_decide.2 (by omega)
  rw [e1, e2]
  by_cases h1 : l.length ≤ 40 <;> by_cases h2 : z.length ≤ 40 <;> simp [h1, h2, bindO, tupA] <;> exact fin_pure rfl
end Go.Proofs.YtpjjmdbkgkembaaDoor.T

/- What is a round, events and spans: the program's read and allows, the specification's Spans. -/
open Go.Vm
set_option linter.unusedVariables false
namespace Go.Proofs.YtpjjmdbkgkembaaDoor.T
open Go

theorem bindO_or {β : Type} {c d : Bool} {k : Bool → Option β} : bindO (cond c (some true) (some d)) k = k (c || d) := by cases c <;> rfl
theorem bindO_and {β : Type} {c d : Bool} {k : Bool → Option β} : bindO (cond c (some d) (some false)) k = k (c && d) := by cases c <;> rfl

/-- is a span valid? -/
def spOk (t n : Int) (s : Sp) : Prop := s.f ≠ s.t ∧ 0 ≤ s.f ∧ s.f < n ∧ 0 ≤ s.t ∧ s.t < n ∧ -600 ≤ s.lo ∧ s.lo ≤ 600 ∧ s.lo ≤ s.hi ∧ s.hi ≤ s.lo + t - 1
instance (t n : Int) (s : Sp) : Decidable (spOk t n s) := inferInstanceAs (Decidable (_ ∧ _))
def rOk (t n : Int) : Prop := 1 ≤ t ∧ t ≤ 24 ∧ 1 ≤ n ∧ n ≤ 6
instance (t n : Int) : Decidable (rOk t n) := inferInstanceAs (Decidable (_ ∧ _))
/-- the error of a round, events and spans -/
def rdE (t n : Int) (l : List Sp) : Int := if rOk t n then if l.length ≤ 20 then if (∀ i, i < l.length → spOk t n (l.getD i Sp.z)) then 0 else 2 else 3 else 2

theorem allows60 {ro : List ABlk} {h : Heap} {t n : Int} {v : AVal} {s : Sp} (hr : rOk t n) : callX F1 ro 60 [demV t n v, s.v] h = some (.b (decide (spOk t n s)), h, h.length, h.length) := by
  refine g60_ok (meansX_ok F1 ro) rfl ?_
  unfold g60
  have hb1 : stepM ro ⟨h, h.length, h.length⟩ (.bx 55 3 (.c (demV t n v))) = _ := bx_ok (vs := [.i .i64 t, .i .i64 n, v]) 55 rfl
  have hb2 : stepM ro ⟨h ++ [some (blkOf 55 [.i .i64 t, .i .i64 n, v])], h.length, h.length⟩ (.bx 31 4 (.c s.v)) = _ := bx_ok (vs := s.vs) 31 rfl
  have d1 := (Holds.new h 55 [.i .i64 t, .i .i64 n, v]).ext [some (blkOf 31 s.vs)]
  have d2 := Holds.new (h ++ [some (blkOf 55 [.i .i64 t, .i .i64 n, v])]) 31 s.vs
  have a0 := d1.one (ro := ro) (l := h.length) (p := h.length) (k := 0) (by simp)
  have a1 := d1.one (ro := ro) (l := h.length) (p := h.length) (k := 1) (by simp)
  have b0 := d2.one (ro := ro) (l := h.length) (p := h.length) (k := 0) (by simp)
  have b1 := d2.one (ro := ro) (l := h.length) (p := h.length) (k := 1) (by simp)
  have b2 := d2.one (ro := ro) (l := h.length) (p := h.length) (k := 2) (by simp)
  have b3 := d2.one (ro := ro) (l := h.length) (p := h.length) (k := 3) (by simp)
  rw [hb1]
  simp only [bindP_some]
  rw [hb2]
  simp only [List.getD_cons_zero, List.getD_cons_succ] at a0 a1 b0 b1 b2 b3
  obtain ⟨r1, r2, r3, r4⟩ := hr
  have fin : ∀ c : Bool, finM h.length (tupA [AVal.b c]) ⟨h ++ [some (blkOf 55 [.i .i64 t, .i .i64 n, v])] ++ [some (blkOf 31 s.vs)], h.length, h.length⟩ = some (.b c, h, h.length, h.length) := fun c => by
    rw [List.append_assoc]; exact fin_drop rfl
  simp only [bindP_some, p_faddr, bindO_some, a0, a1, b0, b1, b2, b3, asI_i, forceB_eq, forceI_eq, eqI_eq, ltI_eq, bindO_or, mxV, Bool.false_eq_true, if_false, if_true, fin]
  have hA : (s.f == s.t || decide ((if s.t < s.f then s.t else s.f) < 0) || !decide ((if s.t > s.f then s.t else s.f) < n)) = decide (¬ (s.f ≠ s.t ∧ 0 ≤ s.f ∧ s.f < n ∧ 0 ≤ s.t ∧ s.t < n)) := by
    rw [Bool.eq_iff_iff]
    simp only [Bool.or_eq_true, beq_iff_eq, decide_eq_true_eq, Bool.not_eq_true', decide_eq_false_iff_not]
    split <;> split <;> omega
  have hB : (decide (s.lo < -600) || decide (600 < s.lo)) = decide (¬ (-600 ≤ s.lo ∧ s.lo ≤ 600)) := by
    rw [Bool.eq_iff_iff]
    simp only [Bool.or_eq_true, decide_eq_true_eq]
    omega
  rw [hA, hB]
  by_cases h1 : s.f ≠ s.t ∧ 0 ≤ s.f ∧ s.f < n ∧ 0 ≤ s.t ∧ s.t < n
  · by_cases h2 : -600 ≤ s.lo ∧ s.lo ≤ 600
    · have e1 : decide (¬ (s.f ≠ s.t ∧ 0 ≤ s.f ∧ s.f < n ∧ 0 ≤ s.t ∧ s.t < n)) = false := by simp only [decide_eq_false_iff_not]; exact fun k => k h1
      have e2 : decide (¬ (-600 ≤ s.lo ∧ s.lo ≤ 600)) = false := by simp only [decide_eq_false_iff_not]; exact fun k => k h2
      rw [e1, e2, wr_id' (x := s.lo + t) (by omega) (by omega), wr_id' (by omega) (by omega)]
      simp only [cond_false, bindO_and]
      have e3 : (!decide (s.hi < s.lo) && !decide (s.lo + t - 1 < s.hi)) = decide (spOk t n s) := by
        rw [Bool.eq_iff_iff]
        simp only [Bool.and_eq_true, Bool.not_eq_true', decide_eq_false_iff_not, decide_eq_true_eq]
        unfold spOk
        omega
      rw [e3]
    · have e2 : decide (¬ (-600 ≤ s.lo ∧ s.lo ≤ 600)) = true := by simp only [decide_eq_true_eq]; exact h2
      have e3 : decide (spOk t n s) = false := by simp only [decide_eq_false_iff_not]; unfold spOk; omega
      rw [e2, e3]
      cases decide (¬ (s.f ≠ s.t ∧ 0 ≤ s.f ∧ s.f < n ∧ 0 ≤ s.t ∧ s.t < n)) <;> rfl
  · have e2 : decide (¬ (s.f ≠ s.t ∧ 0 ≤ s.f ∧ s.f < n ∧ 0 ≤ s.t ∧ s.t < n)) = true := by simp only [decide_eq_true_eq]; exact h1
    have e3 : decide (spOk t n s) = false := by simp only [decide_eq_false_iff_not]; unfold spOk; omega
    rw [e2, e3]
    rfl

theorem rg1 (t n : Int) {β : Type} {k : Bool → Option β} : (bindO (cond (decide (t < 1)) (some true) (some (decide (24 < t)))) fun c16 => bindO (cond c16 (some true) (some (decide (n < 1)))) fun c20 => bindO (cond c20 (some true) (some (decide (6 < n)))) k) = k (decide (¬ rOk t n)) := by
  simp only [bindO_or]
  have : (decide (t < 1) || decide (24 < t) || decide (n < 1) || decide (6 < n)) = decide (¬ rOk t n) := by
    rw [Bool.eq_iff_iff]
    simp only [Bool.or_eq_true, decide_eq_true_eq]
    unfold rOk
    omega
  rw [this]
theorem lt20 {l : List Sp} : decide ((20 : Int) < (l.length : Int)) = decide (¬ l.length ≤ 20) := decide_eq_decide.2 (by omega)

/-- the specification's Spans -/
theorem spans20 {ro : List ABlk} {h : Heap} {t n : Int} {v : AVal} {l : List Sp} (a : IsSpans ro h v l) : callX F1 ro 20 [.i .i64 t, .i .i64 n, v] h = some (.i .i64 (rdE t n l), h, h.length, h.length) := by
  refine g20_ok (meansX_ok F1 ro) rfl ?_
  unfold g20
  simp only [forceB_eq, ltI_eq, rg1, rdE]
  by_cases hr : rOk t n
  · have e : decide (¬ rOk t n) = false := by simp [hr]
    rw [e, if_pos hr]
    simp only [cond_false, len_spans a, bindO_some, asI_i, lt20]
    by_cases h20 : l.length ≤ 20
    · have e : decide (¬ l.length ≤ 20) = false := by simp [h20]
      rw [e, if_pos h20]
      simp only [cond_false, meansX_loop]
      have hloop := loop_upto (b := fun s => g20_b3 (meansX F1 ro) ro t n v s.1 s.2) l.length (fun i m => m.lw = h.length ∧ m.lp = h.length ∧ Keep h m.h ∧ ∀ j, j < i → spOk t n (l.getD j Sp.z)) (fun r => r.1 = 2 ∧ r.2.lw = h.length ∧ r.2.lp = h.length ∧ Keep h r.2.h ∧ ¬ ∀ j, j < l.length → spOk t n (l.getD j Sp.z)) ?_ ?_ l.length 0 ⟨h, h.length, h.length⟩ (by omega) ⟨rfl, rfl, Keep.refl h, fun j hj => by omega⟩
      · obtain ⟨o, h1, h2⟩ := hloop
        have e0 : ((0 : Nat) : Int) = 0 := rfl
        rw [e0] at h1
        rw [h1]
        rcases h2 with ⟨m', rfl, g1, g2, g3, g4⟩ | ⟨⟨x, m'⟩, rfl, g0, g1, g2, g3, g4⟩
        · rw [if_pos g4]
          obtain ⟨hp, lw, lp⟩ := m'
          simp only at g1 g2 g3
          subst g1 g2
          exact fin_keep g3 rfl
        · rw [if_neg g4]
          obtain ⟨hp, lw, lp⟩ := m'
          simp only at g0 g1 g2 g3
          subst g0 g1 g2
          exact fin_keep g3 rfl
      · rintro i ⟨hp, lw, lp⟩ hi ⟨g1, g2, g3, g4⟩
        simp only at g1 g2 g3
        subst g1 g2
        have am := a.by g3
        obtain ⟨q, q1, q2, q3, q4⟩ := at_span am hi
        generalize hs : l.getD i Sp.z = s at *
        have hal := al_ok (ro := ro) (hp := hp) (l := h.length) (p := h.length) 31 [(AVal.i IntKind.i64 0), (AVal.i IntKind.i64 0), (AVal.i IntKind.i64 0), (AVal.i IntKind.i64 0)]
        obtain ⟨hp', st1, st2, st3, st4, st5⟩ := (Holds.new hp 31 [(AVal.i IntKind.i64 0), (AVal.i IntKind.i64 0), (AVal.i IntKind.i64 0), (AVal.i IntKind.i64 0)]).st (ro := ro) (h := h) (n := 4) (v := s.v) (vs' := s.vs) rfl rfl rfl rfl g3.1 (g3.trans (Keep.app _))
        have b0 := st2.one (ro := ro) (l := h.length) (p := h.length) (k := 0) (by simp)
        have b1 := st2.one (ro := ro) (l := h.length) (p := h.length) (k := 1) (by simp)
        have b2 := st2.one (ro := ro) (l := h.length) (p := h.length) (k := 2) (by simp)
        have b3 := st2.one (ro := ro) (l := h.length) (p := h.length) (k := 3) (by simp)
        simp only [List.getD_cons_zero, List.getD_cons_succ] at b0 b1 b2 b3
        obtain ⟨r1, r2, r3, r4⟩ := hr
        simp only [g20_b3, len_spans am, bindO_some, asI_i, forceB_eq, ltI_eq, lt_yes hi, cond_true, q1, q2, hal, bindP_some, st1, p_faddr, b0, b1, b2, b3, forceI_eq, eqI_eq, bindO_or]
        have hA : (decide (s.f < 0) || !decide (s.f < n) || decide (s.t < 0) || !decide (s.t < n) || s.f == s.t || decide (s.lo < -600) || decide (600 < s.lo) || decide (s.hi < s.lo) || decide (wr .i64 (wr .i64 (s.lo + t) - 1) < s.hi)) = decide (¬ spOk t n s) := by
          rw [Bool.eq_iff_iff]
          by_cases h2 : -600 ≤ s.lo ∧ s.lo ≤ 600
          · rw [wr_id' (x := s.lo + t) (by omega) (by omega), wr_id' (by omega) (by omega)]
            simp only [Bool.or_eq_true, beq_iff_eq, decide_eq_true_eq, Bool.not_eq_true', decide_eq_false_iff_not]
            unfold spOk
            omega
          · have h3 : ¬ spOk t n s := by unfold spOk; omega
            simp only [Bool.or_eq_true, beq_iff_eq, decide_eq_true_eq, Bool.not_eq_true', decide_eq_false_iff_not, h3, not_false_eq_true, iff_true]
            omega
        rw [hA]
        by_cases hok : spOk t n s
        · have e : decide (¬ spOk t n s) = false := by simp [hok]
          rw [e]
          refine .inl ⟨⟨hp', h.length, h.length⟩, ?_, rfl, rfl, st5, fun j hj => ?_⟩
          · simp only [cond_false]
            rw [wr_next (by omega)]
          · rcases Nat.lt_or_ge j i with h3 | h3
            · exact g4 j h3
            · obtain rfl : j = i := by omega
              rw [hs]; exact hok
        · have e : decide (¬ spOk t n s) = true := by simp [hok]
          rw [e]
          exact .inr ⟨_, rfl, rfl, rfl, rfl, st5, fun k => hok (hs ▸ k i hi)⟩
      · rintro ⟨hp, lw, lp⟩ ⟨g1, g2, g3, g4⟩
        simp only at g1 g2 g3
        subst g1 g2
        simp only [g20_b3, len_spans (a.by g3), bindO_some, asI_i, forceB_eq, ltI_eq, lt_no, cond_false]
    · have e : decide (¬ l.length ≤ 20) = true := by simp [h20]
      rw [e, if_neg h20]
      exact fin_pure rfl
  · have e : decide (¬ rOk t n) = true := by simp [hr]
    rw [e, if_neg hr]
    exact fin_pure rfl
end Go.Proofs.YtpjjmdbkgkembaaDoor.T

/- The program's read. -/
open Go.Vm
set_option linter.unusedVariables false
namespace Go.Proofs.YtpjjmdbkgkembaaDoor.T
open Go

abbrev z3 : List AVal := [(AVal.i IntKind.i64 0), (AVal.i IntKind.i64 0), AVal.nsl]
abbrev z4 : List AVal := [(AVal.i IntKind.i64 0), (AVal.i IntKind.i64 0), (AVal.i IntKind.i64 0), (AVal.i IntKind.i64 0)]
/-- what read answers beside the error -/
def demR (t n : Int) (v : AVal) (l : List Sp) : AVal := if rdE t n l = 0 then demV t n v else .agg z3
theorem fillz : (fillA z3 []).map AVal.agg = some (.agg z3) := rfl
theorem filld (t n : Int) (v : AVal) (hv : v.one = true) : (fillA z3 [((0, 1), (.i .i64 t)), ((1, 1), (.i .i64 n)), ((2, 1), v)]).map AVal.agg = some (demV t n v) := by
  cases v <;> first | rfl | cases hv
theorem IsSpans.one {ro : List ABlk} {h : Heap} {v : AVal} {l : List Sp} (a : IsSpans ro h v l) : v.one = true := by
  rcases a with ⟨rfl, rfl⟩ | ⟨q, cap, blk, rfl, -⟩ <;> rfl
theorem ones3 {t n : Int} {v : AVal} (hv : v.one = true) : ones [.i .i64 t, .i .i64 n, v] = true := by simp [ones, AVal.one]; exact hv

theorem read43 {ro : List ABlk} {h : Heap} {t n : Int} {v : AVal} {l : List Sp} (a : IsSpans ro h v l) : callX F1 ro 43 [.i .i64 t, .i .i64 n, v] h = some (.tup [demR t n v l, .i .i64 (rdE t n l)], h, h.length, h.length) := by
  refine g43_ok (meansX_ok F1 ro) rfl ?_
  unfold g43
  have d6 := Holds.new h 55 z3
  have k6 : Keep h (h ++ [some (blkOf 55 z3)]) := Keep.app _
  have hv1 := a.one
  have fin : ∀ (e : Int) (w : AVal) (hp : Heap), Keep h hp → w.bel h.length = true → finM h.length (tupA [w, .i .i64 e]) ⟨hp, h.length, h.length⟩ = some (.tup [w, .i .i64 e], h, h.length, h.length) := fun e w hp k hw => by
    refine fin_keep k ?_
    simp [tupA, AVal.bel, bels, hw]
  simp only [al_ok, bindP_some, forceB_eq, ltI_eq, rg1]
  have early : ∀ e : Int, rdE t n l = e → e ≠ 0 → (bindO ((fillA z3 []).map AVal.agg) fun v25 => bindP (stepM ro ⟨h ++ [some (blkOf 55 z3)], h.length, h.length⟩ (.st 3 (.c (.p (some ⟨false, h.length, 0⟩))) (.c v25))) fun vn m_2 => bindO (ldM ro m_2 false 3 (.p (some ⟨false, h.length, 0⟩))) fun vr => finM h.length (tupA [vr, (.i .i64 e)]) m_2) = some (.tup [demR t n v l, .i .i64 (rdE t n l)], h, h.length, h.length) := by
    intro e he hne
    obtain ⟨hp', st1, st2, st3, st4, st5⟩ := d6.st (ro := ro) (h := h) (n := 3) (v := .agg z3) (vs' := z3) rfl rfl rfl rfl (Nat.le_refl _) k6
    rw [fillz]
    simp only [bindO_some, st1, bindP_some, st2.all (ro := ro) (l := h.length) (p := h.length) (n := 3) rfl]
    rw [fin e _ hp' st5 rfl, he]
    simp only [demR, he, hne, if_false]
  by_cases hr : rOk t n
  · have e : decide (¬ rOk t n) = false := by simp [hr]
    rw [e]
    simp only [cond_false, len_spans a, bindO_some, asI_i, lt20]
    by_cases h20 : l.length ≤ 20
    · have e : decide (¬ l.length ≤ 20) = false := by simp [h20]
      rw [e]
      obtain ⟨hp5, st1, st2, st3, st4, st5⟩ := (Holds.new (h ++ [some (blkOf 55 z3)]) 55 z3).st (ro := ro) (h := h) (n := 3) (v := demV t n v) (vs' := [.i .i64 t, .i .i64 n, v]) rfl rfl rfl (ones3 hv1) k6.1 (k6.trans (Keep.app _))
      have d6' : Holds hp5 h.length z3 := (d6.ext [some (blkOf 55 z3)]).keep (st4 h.length (by simp))
      simp only [cond_false, filld t n v hv1, al_ok, bindO_some, bindP_some, st1, meansX_loop]
      have hloop := loop_upto (b := fun s => g43_b3 (meansX F1 ro) ro (.p (some ⟨false, h.length, 0⟩)) (.p (some ⟨false, (h ++ [some (blkOf 55 z3)]).length, 0⟩)) v l.length s.1 s.2) l.length (fun i m => m.lw = h.length ∧ m.lp = h.length ∧ Keep hp5 m.h ∧ ∀ j, j < i → spOk t n (l.getD j Sp.z)) (fun r => r.1 = 2 ∧ r.2.lw = h.length ∧ r.2.lp = h.length ∧ Keep h r.2.h ∧ Holds r.2.h h.length z3 ∧ ¬ ∀ j, j < l.length → spOk t n (l.getD j Sp.z)) ?_ ?_ l.length 0 ⟨hp5, h.length, h.length⟩ (by omega) ⟨rfl, rfl, Keep.refl hp5, fun j hj => by omega⟩
      · obtain ⟨o, h1, h2⟩ := hloop
        have e0 : ((0 : Nat) : Int) = 0 := rfl
        rw [e0] at h1
        rw [h1]
        rcases h2 with ⟨m', rfl, g1, g2, g3, g4⟩ | ⟨⟨x, m'⟩, rfl, g0, g1, g2, g3, g5, g4⟩
        · have he : rdE t n l = 0 := by simp only [rdE, hr, h20, if_true]; rw [if_pos g4]
          obtain ⟨hp, lw, lp⟩ := m'
          simp only at g1 g2 g3
          subst g1 g2
          have d8 := st2.by g3
          have d6'' := d6'.by g3
          obtain ⟨hpe, s1, s2, s3, s4, s5⟩ := d6''.st (ro := ro) (h := h) (n := 3) (v := demV t n v) (vs' := [.i .i64 t, .i .i64 n, v]) rfl rfl rfl (ones3 hv1) (Nat.le_refl _) (st5.trans g3)
          simp only [bindO_some, d8.all (ro := ro) (l := h.length) (p := h.length) (n := 3) rfl, s1, bindP_some, s2.all (ro := ro) (l := h.length) (p := h.length) (n := 3) rfl]
          rw [fin 0 _ hpe s5 (by simpa [AVal.bel, bels] using a.bel), he]
          simp only [demR, he, if_true]
        · have he : rdE t n l = 2 := by simp only [rdE, hr, h20, if_true]; rw [if_neg g4]
          obtain ⟨hp, lw, lp⟩ := m'
          simp only at g0 g1 g2 g3 g5
          subst g0 g1 g2
          simp only [bindO_some, g5.all (ro := ro) (l := h.length) (p := h.length) (n := 3) rfl]
          rw [fin 2 _ hp g3 rfl, he]
          simp [demR, he]
      · rintro i ⟨hp, lw, lp⟩ hi ⟨g1, g2, g3, g4⟩
        simp only at g1 g2 g3
        subst g1 g2
        have kh : Keep h hp := st5.trans g3
        have am := a.by kh
        obtain ⟨q, q1, q2, q3, q4⟩ := at_span am hi
        generalize hs : l.getD i Sp.z = s at *
        have hal := al_ok (ro := ro) (hp := hp) (l := h.length) (p := h.length) 31 z4
        obtain ⟨hp', s1, s2, s3, s4, s5⟩ := (Holds.new hp 31 z4).st (ro := ro) (h := h) (n := 4) (v := s.v) (vs' := s.vs) rfl rfl rfl rfl kh.1 (kh.trans (Keep.app _))
        have kp : Keep hp hp' := ⟨by rw [s3]; simp, fun i hi => by rw [s4 i (by omega)]; exact List.getElem?_append_left hi⟩
        have d8 := (st2.by g3).by kp
        have d6'' := (d6'.by g3).by kp
        simp only [g43_b3, bindO_some, asI_i, forceB_eq, ltI_eq, lt_yes hi, cond_true, q1, q2, hal, bindP_some, s1, d8.all (ro := ro) (l := h.length) (p := h.length) (n := 3) rfl, s2.all (ro := ro) (l := h.length) (p := h.length) (n := 4) rfl, meansX_call,
          callM_pure (allows60 (ro := ro) (h := hp') (v := v) (s := s) hr) (Nat.le_trans kh.1 kp.1) (Nat.le_trans kh.1 kp.1), asB_b]
        by_cases hok : spOk t n s
        · have e : (!decide (spOk t n s)) = false := by simp [hok]
          rw [e]
          refine .inl ⟨⟨hp', h.length, h.length⟩, ?_, rfl, rfl, g3.trans kp, fun j hj => ?_⟩
          · simp only [cond_false, forceI_eq]
            rw [wr_next (by omega)]
          · rcases Nat.lt_or_ge j i with h3 | h3
            · exact g4 j h3
            · obtain rfl : j = i := by omega
              rw [hs]; exact hok
        · have e : (!decide (spOk t n s)) = true := by simp [hok]
          rw [e]
          obtain ⟨hpe, w1, w2, w3, w4, w5⟩ := d6''.st (ro := ro) (h := h) (n := 3) (v := .agg z3) (vs' := z3) rfl rfl rfl rfl (Nat.le_refl _) (kh.trans kp)
          refine .inr ⟨(2, ⟨hpe, h.length, h.length⟩), ?_, rfl, rfl, rfl, w5, w2, fun k => hok (hs ▸ k i hi)⟩
          simp only [cond_true]
          rw [fillz]
          simp only [bindO_some, w1, bindP_some]
      · rintro ⟨hp, lw, lp⟩ ⟨g1, g2, g3, g4⟩
        simp only at g1 g2 g3
        subst g1 g2
        simp only [g43_b3, forceB_eq, ltI_eq, lt_no, cond_false]
    · have e : decide (¬ l.length ≤ 20) = true := by simp [h20]
      rw [e]
      exact early 3 (by simp only [rdE, hr, h20, if_true, if_false]) (by decide)
  · have e : decide (¬ rOk t n) = true := by simp [hr]
    rw [e]
    exact early 2 (by simp only [rdE, hr, if_false]) (by decide)
end Go.Proofs.YtpjjmdbkgkembaaDoor.T

/- Lists that a function makes by append, of elements of several cells. -/
open Go.Vm
set_option linter.unusedVariables false
namespace Go.Proofs.YtpjjmdbkgkembaaDoor.T
open Go

/-- a list made by append, in a block from L on -/
def GV (hp : Heap) (L e es : Nat) (v : AVal) (k : Nat) (cs : List AVal) : Prop :=
  (v = .nsl ∧ k = 0 ∧ cs = []) ∨ ∃ b blk, v = .sl ⟨false, b, 0⟩ k .grow ∧ 0 < k ∧ L ≤ b ∧ lget hp b = some (some blk) ∧ blk.e = e ∧ cs.length = k * es ∧ k * es ≤ blk.n ∧ ∀ j, j < k * es → blk.c.get j = cs.getD j und
theorem GV.nil (hp : Heap) (L e es : Nat) : GV hp L e es .nsl 0 [] := .inl ⟨rfl, rfl, rfl⟩
/-- blocks below L, and those above that are kept, hold the list as before -/
theorem GV.by {hp hp' : Heap} {L e es k : Nat} {v : AVal} {cs : List AVal} (g : GV hp L e es v k cs) (kp : Keep hp hp') : GV hp' L e es v k cs := by
  rcases g with h | ⟨b, blk, h1, h2, h3, h4, h5⟩
  · exact .inl h
  · exact .inr ⟨b, blk, h1, h2, h3, by rw [lget_of (kp.2 b (lget_lt h4))]; exact h4, h5⟩
theorem row_row {t : Tr} : ∀ (n i : Nat) (cs : List AVal), cs.length = n → (∀ j, j < n → t.get (i + j) = cs.getD j und) → t.row i n = cs := by
  intro n i cs hl h
  subst hl
  exact row_list cs i h
theorem GV.push {ro : List ABlk} {hp : Heap} {L0 L e es bytes k : Nat} {z : List AVal} {v w : AVal} {cs ws : List AVal} (g : GV hp L e es v k cs) (hL0 : L0 ≤ L) (hL : L ≤ hp.length) (hk : k ≤ 1000) (hb : bytes ≤ 1000) (hes : 0 < es) (hz : z.length = es) (hw : w.cells = ws) (hwl : ws.length = es) (ho : ones ws = true) (hsp : splice z 0 ws = ws) :
    ∃ v2 hp2 v3 hp3, stepM ro ⟨hp, L0, L0⟩ (.bsl e es z 1 [((0, es), .c w)]) = some (v2, ⟨hp2, L0, L0⟩) ∧ stepM ro ⟨hp2, L0, L0⟩ (.app e es bytes z (.c v) (.c v2)) = some (v3, ⟨hp3, L0, L0⟩) ∧
      GV hp3 L e es v3 (k + 1) (cs ++ ws) ∧ hp.length ≤ hp3.length ∧ ∀ i, i < L → hp3[i]? = hp[i]? := by
  have s1 : stepM ro ⟨hp, L0, L0⟩ (.bsl e es z 1 [((0, es), .c w)]) = some (.sl ⟨false, hp.length, 0⟩ 1 (.known 1), ⟨hp ++ [some (blkOf e ws)], L0, L0⟩) := by
    simp [stepM, stepK, st_bsl, rep, fillA, opd, hw, hwl, hz, hsp, newB, St.mm]
  have src : app_src ro (hp ++ [some (blkOf e ws)]) es (.sl ⟨false, hp.length, 0⟩ 1 (.known 1)) = some (ws, 1) := by
    have hbq : rdB ro (hp ++ [some (blkOf e ws)]) ⟨false, hp.length, 0⟩ = some (blkOf e ws) := by simp [rdB, lget_eq]
    have hg : (blkOf e ws).c.row 0 es = ws := row_row es 0 ws hwl fun j hj => by rw [Nat.zero_add, get_blk]
    have hble : Nat.ble (0 + 1 * es) (blkOf e ws).n = true := by rw [Nat.ble_eq]; show 0 + 1 * es ≤ ws.length; omega
    simp only [app_src, hbq, hble, cond_true]
    rw [show 1 * es = es by omega, hg]
  rcases g with ⟨rfl, rfl, rfl⟩ | ⟨b, blk, rfl, hpos, hLb, hbk, hbe, hcl, hbn, hrows⟩
  · refine ⟨_, _, .sl ⟨false, hp.length + 1, 0⟩ 1 .grow, hp ++ [some (blkOf e ws)] ++ [some (blkOf e ws)], s1, ?_, .inr ⟨hp.length + 1, blkOf e ws, rfl, by omega, by omega, ?_, rfl, by simp; omega, by show 1 * es ≤ ws.length; omega, fun j hj => ?_⟩, by simp, fun i hi => ?_⟩
    · have hb1 : Nat.beq 1 0 = false := rfl
      simp only [stepM, stepK, opd, st_app, src, hb1, cond_false, fits_small (by omega : 1 ≤ 1000000) hb, cond_true, newB, St.mm, List.length_append, List.length_cons, List.length_nil, Nat.zero_add]
    · have := lget_last (hp ++ [some (blkOf e ws)]) (some (blkOf e ws))
      rwa [List.length_append, List.length_singleton] at this
    · rw [get_blk]; simp
    · rw [List.append_assoc, List.getElem?_append_left (by omega)]
  · obtain ⟨hp2, e2⟩ : ∃ hp2, hp2 = hp ++ [some (blkOf e ws)] := ⟨_, rfl⟩
    rw [← e2] at src s1
    have hlt : b < hp.length := lget_lt hbk
    have hb2 : lget hp2 b = some (some blk) := by rw [e2]; exact lget_ext hbk _
    have hlen2 : hp2.length = hp.length + 1 := by rw [e2]; simp
    have hrow : blk.c.row 0 (k * es) = cs := row_row (k * es) 0 cs hcl fun j hj => by rw [Nat.zero_add]; exact hrows j hj
    have hke : 0 < k * es := Nat.mul_pos hpos hes
    refine ⟨_, _, .sl ⟨false, hp2.length, 0⟩ (k + 1) .grow, lset none hp2 b ++ [some (blkOf e (cs ++ ws))], s1, ?_, .inr ⟨hp2.length, blkOf e (cs ++ ws), rfl, by omega, by omega, ?_, rfl, ?_, ?_, fun j hj => ?_⟩, ?_, fun i hi => ?_⟩
    · have h1 : (Nat.beq blk.e e && Nat.ble (k * es) blk.n && fits (k + 1) bytes && ones ws) = true := by
        rw [hbe, fits_small (by omega : k + 1 ≤ 1000000) hb]
        simp [ho, Nat.ble_eq]; omega
      have h2 : (false || !Nat.beq 0 0 || Nat.beq 1 0) = false := rfl
      have h3 : Nat.blt 0 blk.n = true := by rw [Nat.blt_eq]; omega
      simp only [stepM, stepK, opd, st_app, src, app_grow, h2, cond_false, hb2, h1, h3, Bool.and_self, cond_true, St.mm, hrow, Nat.min_eq_left (Nat.le_trans hL0 hLb)]
    · rw [lget_eq, lset_eq, List.getElem?_append_right (by simp)]
      simp
    · rw [List.length_append, hcl, hwl, Nat.add_mul]; omega
    · show (k + 1) * es ≤ (cs ++ ws).length
      rw [List.length_append, hcl, hwl, Nat.add_mul]; omega
    · rw [get_blk]
    · simp [lset_eq]; omega
    · rw [lset_eq, List.getElem?_append_left (by simp; omega), List.getElem?_set_ne (by omega), e2, List.getElem?_append_left (by omega)]
/-- what it is as spans -/
theorem GV.spans {ro : List ABlk} {hp : Heap} {L e : Nat} {v : AVal} {k : Nat} {ss : List Sp} (g : GV hp L e 4 v k (ss.flatMap Sp.vs)) (hk : ss.length = k) : IsSpans ro hp v ss := by
  subst hk
  rcases g with ⟨rfl, h2, -⟩ | ⟨b, blk, rfl, hpos, hLb, hbk, hbe, hcl, hbn, hrows⟩
  · exact .inl ⟨rfl, List.length_eq_zero_iff.1 h2⟩
  · refine .inr ⟨_, _, blk, rfl, rdB_heap hbk 0, by simpa using hbn, fun j hj i hi => ?_⟩
    rw [Nat.zero_add, hrows (j * 4 + i) (by omega)]
    clear hrows hbn hcl hbe hbk hpos
    induction ss generalizing j with
    | nil => simp at hj
    | cons s ss ih =>
      cases j with
      | zero =>
        simp only [List.flatMap_cons, Nat.zero_mul, Nat.zero_add]
        rw [List.getD_eq_getElem?_getD, List.getElem?_append_left (by simpa using hi), ← List.getD_eq_getElem?_getD]
        rfl
      | succ j =>
        simp only [List.flatMap_cons]
        rw [List.getD_eq_getElem?_getD, List.getElem?_append_right (by simp; omega), ← List.getD_eq_getElem?_getD]
        have := ih j (by simpa using hj)
        rw [show (j + 1) * 4 + i - s.vs.length = j * 4 + i by simp; omega, this]
        simp
theorem GV.row {ro : List ABlk} {hp : Heap} {L e : Nat} {v : AVal} {k : Nat} {z : List Int} (g : GV hp L e 1 v k (z.map (AVal.i .i64))) (hk : z.length = k) : IsRow ro hp v z := by
  subst hk
  rcases g with ⟨rfl, h2, -⟩ | ⟨b, blk, rfl, hpos, hLb, hbk, hbe, hcl, hbn, hrows⟩
  · exact .inl ⟨rfl, List.length_eq_zero_iff.1 h2⟩
  · refine .inr ⟨_, _, blk, rfl, rdB_heap hbk 0, by simpa using hbn, fun j hj => ?_⟩
    rw [Nat.zero_add, hrows j (by omega), map_getD hj]
end Go.Proofs.YtpjjmdbkgkembaaDoor.T

/- Steps of a ring. -/
open Go.Vm
set_option linter.unusedVariables false
namespace Go.Proofs.YtpjjmdbkgkembaaDoor.T
open Go

/-- a span told the other way round -/
def Sp.turn (s : Sp) : Sp := ⟨s.t, s.f, -s.hi, -s.lo⟩
/-- a step of a ring by its number -/
def stepP (l : List Sp) (x : Int) : Option Sp := if 1 ≤ x ∧ x ≤ l.length then some (l.getD (x.toNat - 1) Sp.z) else if x ≤ -1 ∧ -(l.length : Int) ≤ x then some (l.getD ((-x).toNat - 1) Sp.z).turn else none
/-- round, events and spans are valid -/
structure Ok (t n : Int) (l : List Sp) : Prop where
  r : rOk t n
  len : l.length ≤ 20
  sp : ∀ i, i < l.length → spOk t n (l.getD i Sp.z)
theorem rdE_ok {t n : Int} {l : List Sp} : rdE t n l = 0 ↔ Ok t n l := by
  unfold rdE
  by_cases h1 : rOk t n
  · by_cases h2 : l.length ≤ 20
    · by_cases h3 : ∀ i, i < l.length → spOk t n (l.getD i Sp.z)
      · simp only [h1, h2, if_true]; rw [if_pos h3]; exact ⟨fun _ => ⟨h1, h2, h3⟩, fun _ => rfl⟩
      · simp only [h1, h2, if_true]; rw [if_neg h3]; exact ⟨fun h => (by cases h), fun h => absurd h.sp h3⟩
    · simp only [h1, h2, if_true, if_false]; exact ⟨fun h => (by cases h), fun h => absurd h.len h2⟩
  · simp only [h1, if_false]; exact ⟨fun h => (by cases h), fun h => absurd h.r h1⟩
theorem stepP_rng {t n : Int} {l : List Sp} (ok : Ok t n l) {x : Int} {s : Sp} (h : stepP l x = some s) : 0 ≤ s.f ∧ s.f < n ∧ 0 ≤ s.t ∧ s.t < n ∧ -700 ≤ s.lo ∧ s.lo ≤ 700 ∧ -700 ≤ s.hi ∧ s.hi ≤ 700 ∧ s.lo ≤ s.hi ∧ s.hi ≤ s.lo + t - 1 ∧ s.f ≠ s.t := by
  obtain ⟨r1, r2, r3, r4⟩ := ok.r
  unfold stepP at h
  split at h
  · rename_i hx
    cases h
    have := ok.sp (x.toNat - 1) (by omega)
    unfold spOk at this
    generalize l.getD (x.toNat - 1) Sp.z = s at *
    omega
  · split at h
    · rename_i hx
      cases h
      have := ok.sp ((-x).toNat - 1) (by omega)
      unfold spOk at this
      generalize l.getD ((-x).toNat - 1) Sp.z = s at *
      simp only [Sp.turn]
      omega
    · cases h

/-- the specification's step -/
def step59V (o : Option Sp) : AVal := match o with
  | some s => .tup [.i .i64 s.f, .i .i64 s.t, .i .i64 s.lo, .i .i64 s.hi, .b true]
  | none => .tup [.i .i64 0, .i .i64 0, .i .i64 0, .i .i64 0, .b false]
theorem step59 {ro : List ABlk} {h : Heap} {t n : Int} {v : AVal} {l : List Sp} (a : IsSpans ro h v l) (ok : Ok t n l) {x : Int} (hx : inI64 x) : callX F1 ro 59 [v, .i .i64 x] h = some (step59V (stepP l x), h, h.length, h.length) := by
  refine g59_ok (meansX_ok F1 ro) rfl ?_
  unfold g59
  have hlen := ok.len
  obtain ⟨hx1, hx2⟩ := hx
  simp only [forceI_eq, forceB_eq, ltI_eq, eqI_eq, len_spans a, bindO_some, asI_i, bindO_or, wr_id' (x := 0 - (l.length : Int)) (by omega) (by omega)]
  have hc : ((x == 0) || decide ((l.length : Int) < x) || decide (x < 0 - (l.length : Int))) = decide (stepP l x = none) := by
    rw [Bool.eq_iff_iff]
    simp only [Bool.or_eq_true, beq_iff_eq, decide_eq_true_eq]
    unfold stepP
    split
    · simp; omega
    · split
      · simp; omega
      · simp; omega
  by_cases hneg : x < 0
  · simp only [hneg, decide_true, cond_true, bindO_some]
    rw [hc]
    by_cases hn : stepP l x = none
    · simp only [hn, decide_true, cond_true, step59V, tupA]
      exact fin_pure rfl
    · have hin : x ≤ -1 ∧ -(l.length : Int) ≤ x := by
        unfold stepP at hn
        split at hn
        · omega
        · split at hn
          · assumption
          · exact absurd rfl hn
      have hs : stepP l x = some (l.getD ((-x).toNat - 1) Sp.z).turn := by unfold stepP; rw [if_neg (by omega), if_pos hin]
      have hi : (-x).toNat - 1 < l.length := by omega
      have hsp := ok.sp _ hi
      have hw : wr .i64 (wr .i64 (0 - x) - 1) = (((-x).toNat - 1 : Nat) : Int) := by
        rw [wr_id' (x := 0 - x) (by omega) (by omega), wr_id' (by omega) (by omega)]; omega
      obtain ⟨q, q1, q2, q3, q4⟩ := at_span a hi
      generalize l.getD ((-x).toNat - 1) Sp.z = s at *
      obtain ⟨hp', s1, s2, s3, s4, s5⟩ := (Holds.new h 31 z4).st (ro := ro) (h := h) (n := 4) (v := s.v) (vs' := s.vs) rfl rfl rfl rfl (Nat.le_refl _) (Keep.app _)
      have b0 := s2.oneA (ro := ro) (k := 0) (by simp)
      have b1 := s2.oneA (ro := ro) (k := 1) (by simp)
      have b2 := s2.oneA (ro := ro) (k := 2) (by simp)
      have b3 := s2.oneA (ro := ro) (k := 3) (by simp)
      simp only [List.getD_cons_zero, List.getD_cons_succ] at b0 b1 b2 b3
      have e : decide (stepP l x = none) = false := by simp [hs]
      unfold spOk at hsp
      obtain ⟨r1, r2, r3, r4⟩ := ok.r
      rw [e]
      simp only [cond_false, hw, q1, q2, bindO_some, al_ok, bindP_some, s1, p_faddr, b0, b1, b2, b3, asI_i, tupA, wr_id' (x := 0 - s.hi) (by omega) (by omega), wr_id' (x := 0 - s.lo) (by omega) (by omega)]
      rw [fin_keep s5 rfl, hs]
      simp [step59V, Sp.turn]
  · simp only [hneg, decide_false, cond_false, bindO_some]
    rw [hc]
    by_cases hn : stepP l x = none
    · simp only [hn, decide_true, cond_true, step59V, tupA]
      exact fin_pure rfl
    · have hin : 1 ≤ x ∧ x ≤ l.length := by
        unfold stepP at hn
        split at hn
        · assumption
        · split at hn
          · omega
          · exact absurd rfl hn
      have hs : stepP l x = some (l.getD (x.toNat - 1) Sp.z) := by unfold stepP; rw [if_pos hin]
      have hi : x.toNat - 1 < l.length := by omega
      have hw : wr .i64 (x - 1) = ((x.toNat - 1 : Nat) : Int) := by
        rw [wr_id' (by omega) (by omega)]; omega
      obtain ⟨q, q1, q2, q3, q4⟩ := at_span a hi
      generalize l.getD (x.toNat - 1) Sp.z = s at *
      obtain ⟨hp', s1, s2, s3, s4, s5⟩ := (Holds.new h 31 z4).st (ro := ro) (h := h) (n := 4) (v := s.v) (vs' := s.vs) rfl rfl rfl rfl (Nat.le_refl _) (Keep.app _)
      have b0 := s2.oneA (ro := ro) (k := 0) (by simp)
      have b1 := s2.oneA (ro := ro) (k := 1) (by simp)
      have b2 := s2.oneA (ro := ro) (k := 2) (by simp)
      have b3 := s2.oneA (ro := ro) (k := 3) (by simp)
      simp only [List.getD_cons_zero, List.getD_cons_succ] at b0 b1 b2 b3
      have e : decide (stepP l x = none) = false := by simp [hs]
      rw [e]
      simp only [cond_false, hw, q1, q2, bindO_some, al_ok, bindP_some, s1, p_faddr, b0, b1, b2, b3, asI_i, tupA]
      rw [fin_keep s5 rfl, hs]
      rfl

/-- the program's turned -/
theorem turned77 {ro : List ABlk} {h : Heap} {s : Sp} (h1 : -1000 ≤ s.lo ∧ s.lo ≤ 1000) (h2 : -1000 ≤ s.hi ∧ s.hi ≤ 1000) : callX F1 ro 77 [s.v] h = some (s.turn.v, h, h.length, h.length) := by
  refine g77_ok (meansX_ok F1 ro) rfl ?_
  unfold g77
  have hb : stepM ro ⟨h, h.length, h.length⟩ (.bx 31 4 (.c s.v)) = _ := bx_ok (vs := s.vs) 31 rfl
  rw [hb]
  have d1 := (Holds.new h 31 s.vs).ext [some (blkOf 31 z4)]
  have b0 := d1.one (ro := ro) (l := h.length) (p := h.length) (k := 0) (by simp)
  have b1 := d1.one (ro := ro) (l := h.length) (p := h.length) (k := 1) (by simp)
  have b2 := d1.one (ro := ro) (l := h.length) (p := h.length) (k := 2) (by simp)
  have b3 := d1.one (ro := ro) (l := h.length) (p := h.length) (k := 3) (by simp)
  simp only [List.getD_cons_zero, List.getD_cons_succ] at b0 b1 b2 b3
  obtain ⟨hp', s1, s2, s3, s4, s5⟩ := (Holds.new (h ++ [some (blkOf 31 s.vs)]) 31 z4).st (ro := ro) (h := h) (n := 4) (v := s.turn.v) (vs' := s.turn.vs) rfl rfl rfl rfl (by simp) ((Keep.app _).trans (Keep.app _))
  have hf : (fillA z4 [((0, 1), (.i .i64 s.t)), ((1, 1), (.i .i64 s.f)), ((2, 1), (.i .i64 (0 - s.hi))), ((3, 1), (.i .i64 (0 - s.lo)))]).map AVal.agg = some s.turn.v := by
    have e1 : (0 : Int) - s.hi = -s.hi := by omega
    have e2 : (0 : Int) - s.lo = -s.lo := by omega
    rw [e1, e2]; rfl
  simp only [bindP_some, al_ok, p_faddr, bindO_some, b0, b1, b2, b3, asI_i, forceI_eq, wr_id' (x := 0 - s.hi) (by omega) (by omega), wr_id' (x := 0 - s.lo) (by omega) (by omega), hf, s1, s2.all (ro := ro) (l := h.length) (p := h.length) (n := 4) rfl, tupA]
  exact fin_keep s5 rfl

/-- the program's step -/
def step74V (o : Option Sp) : AVal := match o with
  | some s => .tup [s.v, .b true]
  | none => .tup [.agg z4, .b false]
theorem step74 {ro : List ABlk} {h : Heap} {t n : Int} {v : AVal} {l : List Sp} (a : IsSpans ro h v l) (ok : Ok t n l) {x : Int} (hx : inI64 x) : callX F1 ro 74 [demV t n v, .i .i64 x] h = some (step74V (stepP l x), h, h.length, h.length) := by
  refine g74_ok (meansX_ok F1 ro) rfl ?_
  unfold g74
  have hlen := ok.len
  obtain ⟨hx1, hx2⟩ := hx
  have hb : stepM ro ⟨h, h.length, h.length⟩ (.bx 55 3 (.c (demV t n v))) = _ := bx_ok (vs := [.i .i64 t, .i .i64 n, v]) 55 rfl
  rw [hb]
  have kp : Keep h (h ++ [some (blkOf 55 [.i .i64 t, .i .i64 n, v])] ++ [some (blkOf 31 z4)]) := (Keep.app _).trans (Keep.app _)
  have am := a.by kp
  have d1 := (Holds.new h 55 [.i .i64 t, .i .i64 n, v]).ext [some (blkOf 31 z4)]
  have b2 := d1.one (ro := ro) (l := h.length) (p := h.length) (k := 2) (by simp)
  simp only [List.getD_cons_zero, List.getD_cons_succ] at b2
  have d4 := Holds.new (h ++ [some (blkOf 55 [.i .i64 t, .i .i64 n, v])]) 31 z4
  simp only [bindP_some, al_ok, p_faddr, bindO_some, b2, len_spans am, asI_i, forceB_eq, forceI_eq, ltI_eq, bindO_and, wr_id' (x := 0 - (l.length : Int)) (by omega) (by omega)]
  have hc1 : (!decide (x < 1) && !decide ((l.length : Int) < x)) = decide (1 ≤ x ∧ x ≤ l.length) := by
    rw [Bool.eq_iff_iff]
    simp only [Bool.and_eq_true, Bool.not_eq_true', decide_eq_false_iff_not, decide_eq_true_eq]
    omega
  have hc2 : (!decide (-1 < x) && !decide (x < 0 - (l.length : Int))) = decide (x ≤ -1 ∧ -(l.length : Int) ≤ x) := by
    rw [Bool.eq_iff_iff]
    simp only [Bool.and_eq_true, Bool.not_eq_true', decide_eq_false_iff_not, decide_eq_true_eq]
    omega
  rw [hc1]
  have fin : ∀ (hp : Heap) (w : AVal) (c : Bool), Keep h hp → w.bel h.length = true → finM h.length (tupA [w, .b c]) ⟨hp, h.length, h.length⟩ = some (.tup [w, .b c], h, h.length, h.length) := fun hp w c k hw => by
    refine fin_keep k ?_
    simp [tupA, AVal.bel, bels, hw]
  by_cases h1 : 1 ≤ x ∧ x ≤ l.length
  · have hs : stepP l x = some (l.getD (x.toNat - 1) Sp.z) := by unfold stepP; rw [if_pos h1]
    have hi : x.toNat - 1 < l.length := by omega
    have hw : wr .i64 (x - 1) = ((x.toNat - 1 : Nat) : Int) := by
      rw [wr_id' (by omega) (by omega)]; omega
    obtain ⟨q, q1, q2, q3, q4⟩ := at_span am hi
    generalize l.getD (x.toNat - 1) Sp.z = s at *
    obtain ⟨hp', s1, s2, s3, s4, s5⟩ := d4.st (ro := ro) (h := h) (n := 4) (v := s.v) (vs' := s.vs) rfl rfl rfl rfl (by simp) kp
    simp only [h1, decide_true, cond_true, and_self, hw, q1, q2, bindO_some, s1, bindP_some, s2.all (ro := ro) (l := h.length) (p := h.length) (n := 4) rfl]
    rw [fin hp' s.v true s5 rfl, hs]
    rfl
  · have e1 : decide (1 ≤ x ∧ x ≤ (l.length : Int)) = false := decide_eq_false h1
    rw [e1]
    simp only [cond_false]
    rw [hc2]
    by_cases h2 : x ≤ -1 ∧ -(l.length : Int) ≤ x
    · have hs : stepP l x = some (l.getD ((-x).toNat - 1) Sp.z).turn := by unfold stepP; rw [if_neg h1, if_pos h2]
      have hi : (-x).toNat - 1 < l.length := by omega
      have hsp := ok.sp _ hi
      have hw : wr .i64 (wr .i64 (0 - x) - 1) = (((-x).toNat - 1 : Nat) : Int) := by
        rw [wr_id' (x := 0 - x) (by omega) (by omega), wr_id' (by omega) (by omega)]; omega
      obtain ⟨q, q1, q2, q3, q4⟩ := at_span am hi
      generalize l.getD ((-x).toNat - 1) Sp.z = s at *
      unfold spOk at hsp
      obtain ⟨r1, r2, r3, r4⟩ := ok.r
      obtain ⟨hp', s1, s2, s3, s4, s5⟩ := d4.st (ro := ro) (h := h) (n := 4) (v := s.turn.v) (vs' := s.turn.vs) rfl rfl rfl rfl (by simp) kp
      have e2 : decide (x ≤ -1 ∧ -(l.length : Int) ≤ x) = true := decide_eq_true h2
      rw [e2]
      simp only [cond_true, hw, q1, q2, bindO_some, meansX_call, callM_pure (turned77 (ro := ro) (s := s) (by omega) (by omega)) kp.1 kp.1, s1, bindP_some, s2.all (ro := ro) (l := h.length) (p := h.length) (n := 4) rfl]
      rw [fin hp' s.turn.v true s5 rfl, hs]
      rfl
    · have hs : stepP l x = none := by unfold stepP; rw [if_neg h1, if_neg h2]
      have e2 : decide (x ≤ -1 ∧ -(l.length : Int) ≤ x) = false := decide_eq_false h2
      obtain ⟨hp', s1, s2, s3, s4, s5⟩ := d4.st (ro := ro) (h := h) (n := 4) (v := .agg z4) (vs' := z4) rfl rfl rfl rfl (by simp) kp
      have hf : (fillA z4 []).map AVal.agg = some (.agg z4) := rfl
      rw [e2]
      simp only [cond_false, hf, bindO_some, s1, bindP_some, s2.all (ro := ro) (l := h.length) (p := h.length) (n := 4) rfl]
      rw [fin hp' (.agg z4) false s5 rfl, hs]
      rfl

/-- does no whole number of rounds lie from one sum to another one? -/
def refP (t a b : Int) : Bool := decide (b - b % t < a)
theorem refuse55 {ro : List ABlk} {h : Heap} {t n a b : Int} {v : AVal} (hr : rOk t n) (hb : -100000 ≤ b ∧ b ≤ 100000) : callX F1 ro 55 [demV t n v, .i .i64 a, .i .i64 b] h = some (.b (refP t a b), h, h.length, h.length) := by
  refine g55_ok (meansX_ok F1 ro) rfl ?_
  unfold g55
  obtain ⟨r1, r2, r3, r4⟩ := hr
  have hbx : stepM ro ⟨h, h.length, h.length⟩ (.bx 55 3 (.c (demV t n v))) = _ := bx_ok (vs := [.i .i64 t, .i .i64 n, v]) 55 rfl
  rw [hbx]
  have d1 := Holds.new h 55 [.i .i64 t, .i .i64 n, v]
  have kp : Keep h (h ++ [some (blkOf 55 [.i .i64 t, .i .i64 n, v])]) := Keep.app _
  have hm := Int.emod_nonneg b (show t ≠ 0 by omega)
  have hm2 := Int.emod_lt_of_pos b (show 0 < t by omega)
  simp only [bindP_some, bindO_some, d1.all (ro := ro) (l := h.length) (p := h.length) (n := 3) rfl, meansX_call, callM_pure (mod70 (ro := ro) (x := b) (n := n) (v := v) r1 r2) kp.1 kp.1, asI_i, forceI_eq, forceB_eq, ltI_eq, wr_id' (x := b - b % t) (by omega) (by omega), tupA]
  exact fin_keep kp rfl
theorem refuses56 {ro : List ABlk} {h : Heap} {t n a b : Int} (hr : rOk t n) (ha : -100000 ≤ a ∧ a ≤ 100000) (hb : -100000 ≤ b ∧ b ≤ 100000) : callX F1 ro 56 [.i .i64 t, .i .i64 a, .i .i64 b] h = some (.b (refP t a b), h, h.length, h.length) := by
  refine g56_ok (meansX_ok F1 ro) rfl ?_
  unfold g56
  obtain ⟨r1, r2, r3, r4⟩ := hr
  simp only [forceI_eq, wr_id' (x := 0 - a) (by omega) (by omega), meansX_call, callM_pure (mod67 (ro := ro) (x := 0 - a) r1 r2) (Nat.le_refl _) (Nat.le_refl _), bindP_some, asI_i, forceB_eq, ltI_eq, wr_id' (x := b - a) (by omega) (by omega), tupA]
  have e : decide (b - a < (0 - a) % t) = refP t a b := by
    unfold refP
    refine decide_eq_decide.2 ?_
    have h1 := Int.emod_nonneg b (show t ≠ 0 by omega)
    have h2 := Int.emod_lt_of_pos b (show 0 < t by omega)
    have h3 := Int.emod_nonneg (0 - a) (show t ≠ 0 by omega)
    have h4 := Int.emod_lt_of_pos (0 - a) (show 0 < t by omega)
    have h5 := Int.emod_add_mul_ediv b t
    have h6 := Int.emod_add_mul_ediv (0 - a) t
    -- b = (b % t) + t q ;  -a = (-a % t) + t p
    generalize b % t = x at *
    generalize (0 - a) % t = y at *
    generalize b / t = q at *
    generalize (0 - a) / t = p at *
    constructor
    · intro h
      have : t * (q + p) < 0 := by rw [Int.mul_add]; omega
      have hq : q + p < 0 := by
        rcases (by omega : q + p < 0 ∨ 0 ≤ q + p) with h' | h'
        · exact h'
        · have := Int.mul_nonneg (show 0 ≤ t by omega) h'; omega
      have : t * (q + p) ≤ t * (-1) := Int.mul_le_mul_of_nonneg_left (by omega) (by omega)
      rw [Int.mul_add] at this
      omega
    · intro h
      have : t * (q + p) < y := by rw [Int.mul_add]; omega
      have hq : q + p ≤ 0 := by
        rcases (by omega : 0 < q + p ∨ q + p ≤ 0) with h' | h'
        · have : t * 1 ≤ t * (q + p) := Int.mul_le_mul_of_nonneg_left (by omega) (by omega)
          omega
        · exact h'
      rcases (by omega : q + p < 0 ∨ 0 ≤ q + p) with h' | h'
      · have : t * (q + p) ≤ t * (-1) := Int.mul_le_mul_of_nonneg_left (by omega) (by omega)
        rw [Int.mul_add] at this
        omega
      · have e0 : q + p = 0 := by omega
        have : t * (q + p) = 0 := by rw [e0]; simp
        rw [Int.mul_add] at this
        omega
  rw [e]
  exact fin_pure rfl
end Go.Proofs.YtpjjmdbkgkembaaDoor.T

/- The program's ring. -/
open Go.Vm
set_option linter.unusedVariables false
namespace Go.Proofs.YtpjjmdbkgkembaaDoor.T
open Go

/-- the first k steps of a ring -/
structure Pre (l : List Sp) (xs : List Int) (k : Nat) (ss : List Sp) : Prop where
  len : ss.length = k
  le : k ≤ xs.length
  st : ∀ i, i < k → stepP l (xs.getD i 0) = some (ss.getD i Sp.z)
  nx : ∀ i, i + 1 < k → (ss.getD i Sp.z).t = (ss.getD (i + 1) Sp.z).f
/-- no event is met twice, by where steps end -/
def Pre.ends (k : Nat) (ss : List Sp) : Prop := ∀ i j, i < j → j < k → (ss.getD i Sp.z).t ≠ (ss.getD j Sp.z).t
/-- a ring -/
structure RingC (l : List Sp) (xs : List Int) (ss : List Sp) : Prop where
  pre : Pre l xs xs.length ss
  ends : Pre.ends xs.length ss
  two : 2 ≤ xs.length
  cl : (ss.getD (xs.length - 1) Sp.z).t = (ss.getD 0 Sp.z).f
theorem getD_snoc {ss : List Sp} {s : Sp} {i : Nat} (hi : i < ss.length) : (ss ++ [s]).getD i Sp.z = ss.getD i Sp.z := by
  simp [List.getD, List.getElem?_append_left hi]
theorem getD_snoc' {ss : List Sp} {s : Sp} : (ss ++ [s]).getD ss.length Sp.z = s := by simp [List.getD]
theorem Pre.uniq {l : List Sp} {xs : List Int} {k k' : Nat} {ss ss' : List Sp} (p : Pre l xs k ss) (p' : Pre l xs k' ss') {i : Nat} (h : i < k) (h' : i < k') : ss.getD i Sp.z = ss'.getD i Sp.z := by
  have := p.st i h
  rw [p'.st i h'] at this
  exact (Option.some.inj this).symm

/-- one cell of a block is written -/
theorem Holds.set {ro : List ABlk} {h hp : Heap} {b k : Nat} {vs : List AVal} {v : AVal} (a : Holds hp b vs) (hk : k < vs.length) (hv : v.one = true) (hc : v.cells = [v]) (hn : nonp [v] = true) (hL : h.length ≤ b) (kp : Keep h hp) :
    ∃ hp', stepM ro ⟨hp, h.length, h.length⟩ (.st 1 (.c (.p (some ⟨false, b, 0 + k * 1⟩))) (.c v)) = some (und, ⟨hp', h.length, h.length⟩) ∧ Holds hp' b (vs.set k v) ∧ hp'.length = hp.length ∧ (∀ i, i ≠ b → hp'[i]? = hp[i]?) ∧ Keep h hp' := by
  obtain ⟨blk, h1, h2, h3⟩ := a
  have e : 0 + k * 1 = k := by omega
  refine ⟨hp.set b (some { blk with c := blk.c.set k v }), ?_, ⟨_, lget_set h1 _, by simpa using h2, fun j hj => ?_⟩, by simp, fun i hi => List.getElem?_set_ne (Ne.symm hi), kp.set hL _⟩
  · rw [e, st_heap h1 (by omega) hv hc hn, Nat.min_eq_left hL]
  · show (blk.c.set k v).get j = _
    rw [get_set]
    simp only [List.length_set] at hj
    by_cases e : k = j
    · subst e; simp [List.getD, hj]
    · rw [if_neg e, h3 j hj]
      simp [List.getD, List.getElem?_set_ne e]

end Go.Proofs.YtpjjmdbkgkembaaDoor.T

/- The program's ring: its end. -/
open Go.Vm
set_option linter.unusedVariables false
namespace Go.Proofs.YtpjjmdbkgkembaaDoor.T
open Go
theorem fin_new {hp : Heap} {v : AVal} {L l p : Nat} (hb : v.bel L = false) : finM L v ⟨hp, l, p⟩ = some (v, hp, l, p) := by
  simp only [finM, gc, hb, Bool.and_false, Bool.false_eq_true, if_false]

end Go.Proofs.YtpjjmdbkgkembaaDoor.T

/- The specification's IsRing. -/
open Go.Vm
set_option linter.unusedVariables false
namespace Go.Proofs.YtpjjmdbkgkembaaDoor.T
open Go

/-- no event is met twice, by where steps begin -/
def Pre.begs (k : Nat) (ss : List Sp) : Prop := ∀ i j, i < j → j < k → (ss.getD i Sp.z).f ≠ (ss.getD j Sp.z).f
theorem ring_begs {l : List Sp} {xs : List Int} {ss : List Sp} (rc : RingC l xs ss) : Pre.begs xs.length ss := by
  have hnx : ∀ i, 0 < i → i < xs.length → (ss.getD i Sp.z).f = (ss.getD (i - 1) Sp.z).t := fun i h0 hi => by
    have := rc.pre.nx (i - 1) (by omega)
    rw [show i - 1 + 1 = i by omega] at this
    exact this.symm
  intro i j hij hj
  rw [hnx j (by omega) hj]
  rcases Nat.eq_zero_or_pos i with rfl | h0
  · rw [← rc.cl]
    exact fun h => rc.ends (j - 1) (xs.length - 1) (by omega) (by omega) h.symm
  · rw [hnx i h0 (by omega)]
    exact rc.ends (i - 1) (j - 1) (by omega) (by omega)
theorem ring_ends {l : List Sp} {xs : List Int} {ss : List Sp} (pre : Pre l xs xs.length ss) (hb : Pre.begs xs.length ss) (cl : (ss.getD (xs.length - 1) Sp.z).t = (ss.getD 0 Sp.z).f) : Pre.ends xs.length ss := by
  intro i j hij hj
  rw [pre.nx i (by omega)]
  by_cases h : j + 1 < xs.length
  · rw [pre.nx j h]
    exact hb (i + 1) (j + 1) (by omega) h
  · obtain rfl : j = xs.length - 1 := by omega
    rw [cl]
    exact fun h => hb 0 (i + 1) (by omega) (by omega) h.symm
theorem ring_six {t n : Int} {l : List Sp} {xs : List Int} {ss : List Sp} (ok : Ok t n l) (rc : RingC l xs ss) : xs.length ≤ 6 := by
  obtain ⟨r1, r2, r3, r4⟩ := ok.r
  have hg : ∀ i, i < xs.length → 0 ≤ (ss.getD i Sp.z).t ∧ (ss.getD i Sp.z).t < 6 := fun i hi => by
    have := stepP_rng ok (rc.pre.st i hi)
    omega
  have h := nodup_len (l := (List.range xs.length).map fun i => (ss.getD i Sp.z).t.toNat) (l' := List.range 6) ?_ ?_
  · simpa using h
  · rw [List.nodup_iff_pairwise_ne, List.pairwise_map]
    refine List.Pairwise.imp_of_mem ?_ (List.pairwise_lt_range)
    intro a b ha hb hab hc
    have hb' := List.mem_range.1 hb
    have ha' := List.mem_range.1 ha
    have h1 := hg a ha'
    have h2 := hg b hb'
    exact rc.ends a b hab hb' (by omega)
  · intro a ha
    obtain ⟨i, hi, rfl⟩ := List.mem_map.1 ha
    have := hg i (List.mem_range.1 hi)
    exact List.mem_range.2 (by omega)
def loSum (ss : List Sp) : Int := (ss.map Sp.lo).foldl (· + ·) 0
def hiSum (ss : List Sp) : Int := (ss.map Sp.hi).foldl (· + ·) 0
theorem loSum_snoc (ss : List Sp) (s : Sp) : loSum (ss ++ [s]) = loSum ss + s.lo := by simp [loSum]
theorem hiSum_snoc (ss : List Sp) (s : Sp) : hiSum (ss ++ [s]) = hiSum ss + s.hi := by simp [hiSum]

def RI39 (l : List Sp) (xs : List Int) (h : Heap) (i : Nat) (x7 x8 : Int) (v9 : AVal) (x10 x11 : Int) (m : Mm) : Prop :=
  i ≤ xs.length ∧ m.lw = h.length ∧ m.lp = h.length ∧ Keep h m.h ∧ ∃ ss, Pre l xs i ss ∧ Pre.begs i ss ∧ x7 = loSum ss ∧ x8 = hiSum ss ∧ (-1000 * (i : Int) ≤ x7 ∧ x7 ≤ 1000 * (i : Int)) ∧ (-1000 * (i : Int) ≤ x8 ∧ x8 ≤ 1000 * (i : Int)) ∧
    GV m.h h.length 3 1 v9 i ((ss.map Sp.f).map (AVal.i .i64)) ∧ (0 < i → x10 = (ss.getD (i - 1) Sp.z).t ∧ x11 = (ss.getD 0 Sp.z).f)
def RQ39 (l : List Sp) (xs : List Int) (h : Heap) (r : (Int × Int × Int × Int × Mm) ⊕ (Int × Int × Bool × Mm)) : Prop :=
  (∃ x7 x8 v9 x10 x11 m, r = .inl (x7, x8, x10, x11, m) ∧ RI39 l xs h xs.length x7 x8 v9 x10 x11 m) ∨ (∃ m : Mm, r = .inr (0, 0, false, m) ∧ m.lw = h.length ∧ m.lp = h.length ∧ Keep h m.h ∧ ¬ ∃ ss, RingC l xs ss)

theorem inner39 {ro : List ABlk} {v0 v1 v9 : AVal} {x7 x8 x11 x12 a b c d : Int} {m : Mm} {z : List Int} (r : IsRow ro m.h v9 z) (hz : z.length ≤ 1000) :
    loopX (fun s => g39_b4 (meansX F1 ro) ro v0 v1 x7 x8 v9 x11 x12 a b c d m s) 0 = some (if (∃ k, k < z.length ∧ z.getD k 0 = a) then .inr (0, 0, false) else .inl ()) := by
  have hloop := loop_first (b := fun s => g39_b4 (meansX F1 ro) ro v0 v1 x7 x8 v9 x11 x12 a b c d m s) z.length (fun k => if z.getD k 0 = a then some ((0 : Int), (0 : Int), false) else none) ?_ ?_ z.length 0 (by omega)
  · have e0 : ((0 : Nat) : Int) = 0 := rfl
    rw [e0] at hloop
    rw [hloop, first_ex]
    by_cases h : ∃ k, k < z.length ∧ z.getD k 0 = a
    · rw [if_pos h, if_pos h]; rfl
    · rw [if_neg h, if_neg h]; rfl
  · simp only [g39_b4, len_row r, bindO_some, asI_i, forceB_eq, ltI_eq, lt_no, cond_false]
  · intro i hi
    obtain ⟨p, p1, p2, p3⟩ := at_row (m := m) rfl r hi
    simp only [g39_b4, len_row r, bindO_some, asI_i, forceB_eq, ltI_eq, lt_yes hi, cond_true, p1, p2, eqI_eq, forceI_eq]
    by_cases h : z.getD i 0 = a
    · have e : (z.getD i 0 == a) = true := by simpa using h
      rw [e, if_pos h]
      rfl
    · have e : (z.getD i 0 == a) = false := by simpa using h
      rw [e, if_neg h]
      simp only [cond_false]
      rw [wr_id' (by omega) (by omega)]

theorem step39 {ro : List ABlk} {h : Heap} {t n : Int} {v w : AVal} {l : List Sp} {xs : List Int} (a : IsSpans ro h v l) (ok : Ok t n l) (r : IsRow ro h w xs) (hx : ∀ x ∈ xs, inI64 x) (h6 : xs.length ≤ 6) (i : Nat) (x7 x8 : Int) (v9 : AVal) (x10 x11 : Int) (m : Mm) (hi : i < xs.length) (hI : RI39 l xs h i x7 x8 v9 x10 x11 m) :
    (∃ y7 y8 w9 y10 y11 m', g39_b1 (meansX F1 ro) ro v w x7 x8 v9 x10 x11 (i : Int) m = some (.inl (y7, y8, w9, y10, y11, ((i + 1 : Nat) : Int), m')) ∧ RI39 l xs h (i + 1) y7 y8 w9 y10 y11 m') ∨
    (∃ m' : Mm, g39_b1 (meansX F1 ro) ro v w x7 x8 v9 x10 x11 (i : Int) m = some (.inr (.inr (0, 0, false, m'))) ∧ m'.lw = h.length ∧ m'.lp = h.length ∧ Keep h m'.h ∧ ¬ ∃ ss, RingC l xs ss) := by
  obtain ⟨hp, lw, lp⟩ := m
  obtain ⟨hle, g1, g2, g3, ss, pre, begs, rfl, rfl, bl, bh, gv, gl⟩ := hI
  simp only at g1 g2 g3 gv
  subst g1 g2
  obtain ⟨p, p1, p2, p3⟩ := at_row (m := ⟨hp, h.length, h.length⟩) rfl (row_by r g3) hi
  have hxi : inI64 (xs.getD i 0) := by
    have : xs.getD i 0 = xs[i] := by simp [List.getD, hi]
    rw [this]; exact hx _ (List.getElem_mem hi)
  generalize hxe : xs.getD i 0 = x at *
  have am := a.by g3
  have hst := step59 (ro := ro) (h := hp) am ok hxi
  have hl := pre.len
  have hrow := gv.row (ro := ro) (by simp [hl])
  have hlw := len_row (row_by r g3)
  cases hs : stepP l x with
  | none =>
    rw [hs] at hst
    refine .inr ⟨⟨hp, h.length, h.length⟩, ?_, rfl, rfl, g3, fun ⟨ss', rc⟩ => ?_⟩
    · simp only [g39_b1, hlw, bindO_some, asI_i, forceB_eq, ltI_eq, lt_yes hi, cond_true, p1, p2, meansX_call, callM_pure hst g3.1 g3.1, bindP_some, step59V, ext0, ext1, ext2, ext3, ext4, asB_b, Bool.not_false]
    · have := rc.pre.st i hi
      rw [hxe, hs] at this; cases this
  | some s =>
    rw [hs] at hst
    have hrng := stepP_rng ok hs
    have other : ∀ ss', RingC l xs ss' → (∀ j, j < i → ss'.getD j Sp.z = ss.getD j Sp.z) ∧ ss'.getD i Sp.z = s := fun ss' rc => ⟨fun j hj => rc.pre.uniq pre (by omega) hj, by
      have := rc.pre.st i hi
      rw [hxe, hs] at this
      exact (Option.some.inj this).symm⟩
    have hfail : (bindO (cond (decide (0 < (i : Int))) (some (!(s.f == x10))) (some false)) fun c => some c) = some (decide (¬ (0 < i → (ss.getD (i - 1) Sp.z).t = s.f))) := by
      by_cases h0 : 0 < i
      · have e1 : decide (0 < (i : Int)) = true := decide_eq_true (by omega)
        rw [e1, (gl h0).1]
        simp only [cond_true, bindO_some]
        congr 1
        rw [Bool.eq_iff_iff]
        simp only [Bool.not_eq_true', beq_eq_false_iff_ne, ne_eq, decide_eq_true_eq]
        exact ⟨fun h k => h (k h0).symm, fun h k => h fun _ => k.symm⟩
      · have e1 : decide (0 < (i : Int)) = false := decide_eq_false (by omega)
        rw [e1]
        simp only [cond_false, bindO_some]
        congr 1
        refine (decide_eq_false ?_).symm
        exact fun k => k fun h => absurd h h0
    by_cases hnx : 0 < i → (ss.getD (i - 1) Sp.z).t = s.f
    · rw [show decide (¬ (0 < i → (ss.getD (i - 1) Sp.z).t = s.f)) = false from decide_eq_false (fun k => k hnx)] at hfail
      have hin := inner39 (ro := ro) (v0 := v) (v1 := w) (x7 := loSum ss) (x8 := hiSum ss) (x11 := x11) (x12 := (i : Int)) (a := s.f) (b := s.t) (c := s.lo) (d := s.hi) (m := ⟨hp, h.length, h.length⟩) hrow (by simp; omega)
      by_cases hm : ∃ k, k < (ss.map Sp.f).length ∧ (ss.map Sp.f).getD k 0 = s.f
      · rw [if_pos hm] at hin
        refine .inr ⟨⟨hp, h.length, h.length⟩, ?_, rfl, rfl, g3, fun ⟨ss', rc⟩ => ?_⟩
        · simp only [g39_b1, hlw, bindO_some, asI_i, forceB_eq, ltI_eq, lt_yes hi, cond_true, p1, p2, meansX_call, callM_pure hst g3.1 g3.1, bindP_some, step59V, ext0, ext1, ext2, ext3, ext4, asB_b, Bool.not_true, cond_false, eqI_eq]
          rw [hfail]
          simp only [bindO_some, cond_false, meansX_loop, hin]
        · obtain ⟨o1, o2⟩ := other ss' rc
          obtain ⟨k, hk, hke⟩ := hm
          have hk' : k < ss.length := by simpa using hk
          have e1 : (ss.map Sp.f).getD k 0 = (ss.getD k Sp.z).f := by simp [List.getD, hk']
          refine ring_begs rc k i (by omega) hi ?_
          rw [o1 k (by omega), o2, ← e1]; exact hke
      · rw [if_neg hm] at hin
        obtain ⟨v2, hp3, v3, hp4, u1, u2, u3, u4, u5⟩ := gv.push (ro := ro) (L0 := h.length) (bytes := 8) (z := [(AVal.i IntKind.i64 0)]) (w := .i .i64 s.f) (ws := [.i .i64 s.f]) (by omega) g3.1 (by omega) (by omega) (by omega) rfl rfl rfl rfl rfl
        have hw1 : wr .i64 ((i : Int) + 1) = ((i + 1 : Nat) : Int) := wr_next (by omega)
        have hw2 : wr .i64 (loSum ss + s.lo) = loSum (ss ++ [s]) := by rw [loSum_snoc, wr_id' (by omega) (by omega)]
        have hw3 : wr .i64 (hiSum ss + s.hi) = hiSum (ss ++ [s]) := by rw [hiSum_snoc, wr_id' (by omega) (by omega)]
        have hbeg : (bindO (α := Int) (cond ((i : Int) == 0) (some s.f) (some x11)) fun y => (some y : Option Int)) = some (((ss ++ [s]).getD 0 Sp.z).f) := by
          by_cases h0 : 0 < i
          · have e1 : ((i : Int) == 0) = false := by simp; omega
            rw [e1, getD_snoc (by omega), (gl h0).2]; rfl
          · have e1 : ((i : Int) == 0) = true := by simp; omega
            have e2 : (ss ++ [s]).getD 0 Sp.z = s := by
              have : ss = [] := List.length_eq_zero_iff.1 (by omega)
              subst this; rfl
            rw [e1, e2]; rfl
        obtain ⟨yb, hyb⟩ : ∃ yb, cond ((i : Int) == 0) (some s.f) (some x11) = some yb := by cases ((i : Int) == 0) <;> exact ⟨_, rfl⟩
        have hyb2 : yb = ((ss ++ [s]).getD 0 Sp.z).f := by rw [hyb] at hbeg; exact Option.some.inj hbeg
        refine .inl ⟨loSum (ss ++ [s]), hiSum (ss ++ [s]), v3, s.t, yb, ⟨hp4, h.length, h.length⟩, ?_, by omega, rfl, rfl, ⟨Nat.le_trans g3.1 u4, fun k hk => by show hp4[k]? = _; rw [u5 k hk]; exact g3.2 k hk⟩, ss ++ [s], ⟨by simp [hl], by omega, fun k hk => ?_, fun k hk => ?_⟩, fun a b hab hb => ?_, rfl, rfl, ?_, ?_, ?_, fun _ => ⟨?_, hyb2⟩⟩
        · simp only [g39_b1, hlw, bindO_some, asI_i, forceB_eq, ltI_eq, lt_yes hi, cond_true, p1, p2, meansX_call, callM_pure hst g3.1 g3.1, bindP_some, step59V, ext0, ext1, ext2, ext3, ext4, asB_b, Bool.not_true, cond_false, eqI_eq]
          rw [hfail]
          simp only [bindO_some, cond_false, meansX_loop, hin, hyb, u1, u2, bindP_some, forceI_eq, hw1, hw2, hw3]
        · rcases Nat.lt_or_ge k i with h3 | h3
          · rw [getD_snoc (by omega)]; exact pre.st k h3
          · obtain rfl : k = i := by omega
            rw [← hl, getD_snoc', hl, hxe, hs]
        · rcases Nat.lt_or_ge (k + 1) i with h3 | h3
          · rw [getD_snoc (by omega), getD_snoc (by omega)]; exact pre.nx k h3
          · obtain rfl : i = k + 1 := by omega
            rw [getD_snoc (by omega)]
            have e1 : (ss ++ [s]).getD (k + 1) Sp.z = s := by rw [← hl]; exact getD_snoc'
            rw [e1]
            exact hnx (by omega)
        · rcases Nat.lt_or_ge b i with h3 | h3
          · rw [getD_snoc (by omega), getD_snoc (by omega)]; exact begs a b hab h3
          · obtain rfl : b = i := by omega
            have e1 : (ss ++ [s]).getD b Sp.z = s := by rw [← hl]; exact getD_snoc'
            rw [getD_snoc (by omega), e1]
            exact fun k => hm ⟨a, by simp; omega, by rw [← k]; simp [List.getD, show a < ss.length by omega]⟩
        · rw [loSum_snoc]; omega
        · rw [hiSum_snoc]; omega
        · simpa using u3
        · have e1 : (ss ++ [s]).getD i Sp.z = s := by rw [← hl]; exact getD_snoc'
          rw [show i + 1 - 1 = i by omega, e1]
    · rw [show decide (¬ (0 < i → (ss.getD (i - 1) Sp.z).t = s.f)) = true from decide_eq_true hnx] at hfail
      refine .inr ⟨⟨hp, h.length, h.length⟩, ?_, rfl, rfl, g3, fun ⟨ss', rc⟩ => ?_⟩
      · simp only [g39_b1, hlw, bindO_some, asI_i, forceB_eq, ltI_eq, lt_yes hi, cond_true, p1, p2, meansX_call, callM_pure hst g3.1 g3.1, bindP_some, step59V, ext0, ext1, ext2, ext3, ext4, asB_b, Bool.not_true, cond_false, eqI_eq]
        rw [hfail]
        simp only [bindO_some, cond_true]
      · obtain ⟨o1, o2⟩ := other ss' rc
        refine hnx fun h0 => ?_
        have := rc.pre.nx (i - 1) (by omega)
        rw [show i - 1 + 1 = i by omega, o2, o1 (i - 1) (by omega)] at this
        exact this

def after39 (L : Nat) (o : (Int × Int × Int × Int × Mm) ⊕ (Int × Int × Bool × Mm)) : Option (AVal × Heap × Nat × Nat) := match o with
  | (.inl (x7_1, x8_1, x10_1, x11_2, m_5)) => forceB (eqI x10_1 x11_2) fun c86 => finM L (tupA [(.i .i64 x7_1), (.i .i64 x8_1), (.b c86)]) m_5
  | (.inr (x4_1, x5_1, c6_1, m_6)) => finM L (tupA [(.i .i64 x4_1), (.i .i64 x5_1), (.b c6_1)]) m_6
theorem g39_eq {ro : List ABlk} {h : Heap} {v w : AVal} {xs : List Int} (r : IsRow ro h w xs) (h26 : 2 ≤ xs.length ∧ xs.length ≤ 6) {o : (Int × Int × Int × Int × Mm) ⊕ (Int × Int × Bool × Mm)} (h1 : loopX (fun s : Int × Int × AVal × Int × Int × Int × Mm => g39_b1 (meansX F1 ro) ro v w s.1 s.2.1 s.2.2.1 s.2.2.2.1 s.2.2.2.2.1 s.2.2.2.2.2.1 s.2.2.2.2.2.2) (0, 0, .nsl, 0, 0, 0, ⟨h, h.length, h.length⟩) = some o) :
    g39 (meansX F1 ro) ro v w ⟨h, h.length, h.length⟩ = after39 h.length o := by
  have hc : (decide ((xs.length : Int) < 2) || decide (6 < (xs.length : Int))) = false := by
    simp only [Bool.or_eq_false_iff, decide_eq_false_iff_not]; omega
  unfold g39
  simp only [len_row r, bindO_some, asI_i, forceB_eq, ltI_eq, bindO_or]
  rw [hc]
  simp only [cond_false, meansX_loop]
  rw [h1, bindO_some]
  rcases o with ⟨a, b, c, d, m⟩ | ⟨a, b, c, m⟩
  · simp only [after39, forceB_eq]
  · rfl
theorem isRing39 {ro : List ABlk} {h : Heap} {t n : Int} {v w : AVal} {l : List Sp} {xs : List Int} (a : IsSpans ro h v l) (ok : Ok t n l) (r : IsRow ro h w xs) (hx : ∀ x ∈ xs, inI64 x) :
    (∃ ss, callX F1 ro 39 [v, w] h = some (.tup [.i .i64 (loSum ss), .i .i64 (hiSum ss), .b true], h, h.length, h.length) ∧ RingC l xs ss ∧ (-6000 ≤ loSum ss ∧ loSum ss ≤ 6000) ∧ (-6000 ≤ hiSum ss ∧ hiSum ss ≤ 6000)) ∨
    ((∃ y z : Int, callX F1 ro 39 [v, w] h = some (.tup [.i .i64 y, .i .i64 z, .b false], h, h.length, h.length)) ∧ ¬ ∃ ss, RingC l xs ss) := by
  have fin : ∀ (y z : Int) (c : Bool) (hp : Heap), Keep h hp → finM h.length (tupA [.i .i64 y, .i .i64 z, .b c]) ⟨hp, h.length, h.length⟩ = some (.tup [.i .i64 y, .i .i64 z, .b c], h, h.length, h.length) := fun y z c hp k => fin_keep k rfl
  have hc : (decide ((xs.length : Int) < 2) || decide (6 < (xs.length : Int))) = decide (¬ (2 ≤ xs.length ∧ xs.length ≤ 6)) := by
    rw [Bool.eq_iff_iff]
    simp only [Bool.or_eq_true, decide_eq_true_eq]
    omega
  by_cases h26 : 2 ≤ xs.length ∧ xs.length ≤ 6
  · have hlp := loopX_rule (b := fun s : Int × Int × AVal × Int × Int × Int × Mm => g39_b1 (meansX F1 ro) ro v w s.1 s.2.1 s.2.2.1 s.2.2.2.1 s.2.2.2.2.1 s.2.2.2.2.2.1 s.2.2.2.2.2.2)
      (fun s => ∃ i : Nat, s.2.2.2.2.2.1 = (i : Int) ∧ RI39 l xs h i s.1 s.2.1 s.2.2.1 s.2.2.2.1 s.2.2.2.2.1 s.2.2.2.2.2.2) (RQ39 l xs h) (fun s => xs.length - s.2.2.2.2.2.1.toNat) ?_ (0, 0, .nsl, 0, 0, 0, ⟨h, h.length, h.length⟩)
      ⟨0, rfl, Nat.zero_le _, rfl, rfl, Keep.refl h, [], ⟨rfl, Nat.zero_le _, fun i hi => by omega, fun i hi => by omega⟩, fun i j _ hj => by omega, rfl, rfl, by simp, by simp, GV.nil _ _ _ _, fun h0 => by omega⟩
    · obtain ⟨o, h1, h2⟩ := hlp
      have hg := g39_eq r h26 h1
      rcases h2 with ⟨x7, x8, v9, x10, x11, ⟨hp, lw, lp⟩, rfl, hle, g1, g2, g3, ss, pre, begs, rfl, rfl, bl, bh, gv, gl⟩ | ⟨⟨hp, lw, lp⟩, rfl, g1, g2, g3, g4⟩
      · simp only at g1 g2 g3
        subst g1 g2
        obtain ⟨e1, e2⟩ := gl (by omega)
        simp only [after39, forceB_eq, eqI_eq, e1, e2, fin _ _ _ hp g3] at hg
        by_cases hcl : (ss.getD (xs.length - 1) Sp.z).t = (ss.getD 0 Sp.z).f
        · have e3 : ((ss.getD (xs.length - 1) Sp.z).t == (ss.getD 0 Sp.z).f) = true := by simpa using hcl
          rw [e3] at hg
          exact .inl ⟨ss, g39_ok (meansX_ok F1 ro) rfl hg, ⟨pre, ring_ends pre begs hcl, h26.1, hcl⟩, by omega, by omega⟩
        · have e3 : ((ss.getD (xs.length - 1) Sp.z).t == (ss.getD 0 Sp.z).f) = false := by simpa using hcl
          rw [e3] at hg
          refine .inr ⟨⟨_, _, g39_ok (meansX_ok F1 ro) rfl hg⟩, fun ⟨ss', rc⟩ => hcl ?_⟩
          rw [pre.uniq rc.pre (i := xs.length - 1) (by omega) (by omega), pre.uniq rc.pre (i := 0) (by omega) (by omega)]
          exact rc.cl
      · simp only at g1 g2 g3
        subst g1 g2
        simp only [after39, fin _ _ _ hp g3] at hg
        exact .inr ⟨⟨0, 0, g39_ok (meansX_ok F1 ro) rfl hg⟩, g4⟩
    · rintro ⟨x7, x8, v9, x10, x11, x12, m⟩ ⟨i, hi, hI⟩
      simp only at hi hI ⊢
      subst hi
      by_cases hlt : i < xs.length
      · rcases step39 a ok r hx h26.2 i x7 x8 v9 x10 x11 m hlt hI with ⟨y7, y8, w9, y10, y11, m', h3, h4⟩ | ⟨m', h3, h4⟩
        · exact .inl ⟨_, h3, ⟨i + 1, rfl, h4⟩, by simp; omega⟩
        · exact .inr ⟨_, h3, .inr ⟨m', rfl, h4⟩⟩
      · obtain rfl : i = xs.length := by have := hI.1; omega
        refine .inr ⟨.inl (x7, x8, x10, x11, m), ?_, .inl ⟨x7, x8, v9, x10, x11, m, rfl, hI⟩⟩
        have hk : Keep h m.h := hI.2.2.2.1
        simp only [g39_b1, len_row (row_by r hk), bindO_some, asI_i, forceB_eq, ltI_eq, lt_no, cond_false]
  · refine .inr ⟨⟨0, 0, g39_ok (meansX_ok F1 ro) rfl ?_⟩, fun ⟨ss, rc⟩ => h26 ⟨rc.two, ring_six ok rc⟩⟩
    unfold g39
    simp only [len_row r, bindO_some, asI_i, forceB_eq, ltI_eq, bindO_or]
    rw [hc, decide_eq_true h26]
    first
      | done
      | exact fin _ _ _ h (Keep.refl h)
end Go.Proofs.YtpjjmdbkgkembaaDoor.T

/- Refuses, the program's and the specification's. -/
open Go.Vm
set_option linter.unusedVariables false
namespace Go.Proofs.YtpjjmdbkgkembaaDoor.T
open Go

theorem ring_uniq {l : List Sp} {xs : List Int} {ss ss' : List Sp} (a : RingC l xs ss) (b : RingC l xs ss') : ss = ss' := by
  refine List.ext_getElem (by rw [a.pre.len, b.pre.len]) fun i h1 h2 => ?_
  have := a.pre.uniq b.pre (i := i) (by have := a.pre.len; omega) (by have := b.pre.len; omega)
  simpa [List.getD, h1, h2] using this
theorem take_next {ss : List Sp} {i : Nat} (hi : i < ss.length) : ss.take (i + 1) = ss.take i ++ [ss.getD i Sp.z] := by
  rw [List.take_add_one]; simp [List.getD, hi]

theorem alive_pure {ro : List ABlk} {h : Heap} : callX F1 ro 16 [] h = some (.b true, h, h.length, h.length) := callX_ov rfl

end Go.Proofs.YtpjjmdbkgkembaaDoor.T

/- Rings, one number after another: the search, and lists that are cut and lengthened. -/
open Go.Vm
set_option linter.unusedVariables false
namespace Go.Proofs.YtpjjmdbkgkembaaDoor.T
open Go

theorem bel_bno {v : AVal} {L : Nat} {q : Vm.Loc} {n : Nat} {c : Cap} (e : v = .sl q n c) (hr : q.ro = false) : v.bel L = decide (q.b < L) := by
  subst e
  show (q.ro || Nat.blt q.b L) = _
  rw [hr, Bool.false_or]
  by_cases h : q.b < L
  · rw [decide_eq_true h, Nat.blt_eq]; exact h
  · rw [decide_eq_false h]
    cases hb : Nat.blt q.b L
    · rfl
    · rw [Nat.blt_eq] at hb; omega
/-- a list cut to itself, and one more: in new memory -/
theorem cut_app {ro : List ABlk} {hp : Heap} {l p : Nat} {v : AVal} {z : List Int} (g : GV hp 0 3 1 v z.length (z.map (AVal.i .i64))) (hk : z.length ≤ 1000) (c : Int) :
    ∃ w v2 hp2 v3 hp3, evP .e (.slS 1 (.c v) none (some (.c (.i .i64 (z.length : Int)))) (some (.c (.i .i64 (z.length : Int))))) = some w ∧
      stepM ro ⟨hp, l, p⟩ (.bsl 3 1 [(AVal.i IntKind.i64 0)] 1 [((0, 1), .c (.i .i64 c))]) = some (v2, ⟨hp2, l, p⟩) ∧
      stepM ro ⟨hp2, l, p⟩ (.app 3 1 8 [(AVal.i IntKind.i64 0)] (.c w) (.c v2)) = some (v3, ⟨hp3, l, p⟩) ∧
      GV hp3 0 3 1 v3 (z.length + 1) ((z ++ [c]).map (AVal.i .i64)) ∧ Keep hp hp3 ∧ v3 ≠ .nsl ∧ ∀ L, L ≤ hp.length → v3.bel L = false := by
  have s1 : stepM ro ⟨hp, l, p⟩ (.bsl 3 1 [(AVal.i IntKind.i64 0)] 1 [((0, 1), .c (.i .i64 c))]) = some (.sl ⟨false, hp.length, 0⟩ 1 (.known 1), ⟨hp ++ [some (blkOf 3 [.i .i64 c])], l, p⟩) := by
    simp [stepM, stepK, st_bsl, rep, fillA, opd, AVal.cells, splice, newB, St.mm]
  have src : app_src ro (hp ++ [some (blkOf 3 [.i .i64 c])]) 1 (.sl ⟨false, hp.length, 0⟩ 1 (.known 1)) = some ([.i .i64 c], 1) := by
    have hb : rdB ro (hp ++ [some (blkOf 3 [.i .i64 c])]) ⟨false, hp.length, 0⟩ = some (blkOf 3 [.i .i64 c]) := by simp [rdB, lget_eq]
    have hg : (blkOf 3 [AVal.i .i64 c]).c.row 0 1 = [.i .i64 c] := by simp only [Tr.row, get_blk]; rfl
    have hble : Nat.ble (0 + 1 * 1) (blkOf 3 [AVal.i .i64 c]).n = true := rfl
    simp only [app_src, hb, hble, cond_true]
    rw [show 1 * 1 = 1 from rfl, hg]
  have nb : ∀ L, L ≤ hp.length → (AVal.sl ⟨false, hp.length + 1, 0⟩ (z.length + 1) .grow).bel L = false := fun L hL => by
    rw [bel_bno rfl rfl]; exact decide_eq_false (by show ¬ hp.length + 1 < L; omega)
  have kp : ∀ x : Option ABlk, Keep hp (hp ++ [some (blkOf 3 [.i .i64 c])] ++ [x]) := fun x => (Keep.app _).trans (Keep.app _)
  have res : ∀ cs : List AVal, cs = (z ++ [c]).map (AVal.i .i64) → GV (hp ++ [some (blkOf 3 [AVal.i .i64 c])] ++ [some (blkOf 3 cs)]) 0 3 1 (.sl ⟨false, hp.length + 1, 0⟩ (z.length + 1) .grow) (z.length + 1) ((z ++ [c]).map (AVal.i .i64)) := by
    rintro cs rfl
    refine .inr ⟨hp.length + 1, blkOf 3 ((z ++ [c]).map (AVal.i .i64)), rfl, by omega, Nat.zero_le _, ?_, rfl, by simp, by show (z.length + 1) * 1 ≤ ((z ++ [c]).map (AVal.i .i64)).length; simp, fun j hj => ?_⟩
    · have := lget_last (hp ++ [some (blkOf 3 [.i .i64 c])]) (some (blkOf 3 ((z ++ [c]).map (AVal.i .i64))))
      rwa [List.length_append, List.length_singleton] at this
    · rw [get_blk]
  rcases g with ⟨rfl, h2, h3⟩ | ⟨b, blk, rfl, hpos, hLb, hbk, hbe, hcl, hbn, hrows⟩
  · have hz : z = [] := List.length_eq_zero_iff.1 h2
    subst hz
    refine ⟨.nsl, _, _, .sl ⟨false, hp.length + 1, 0⟩ 1 .grow, hp ++ [some (blkOf 3 [.i .i64 c])] ++ [some (blkOf 3 [.i .i64 c])], rfl, s1, ?_, res _ rfl, kp _, by simp, nb⟩
    have hb1 : Nat.beq 1 0 = false := rfl
    simp only [stepM, stepK, opd, st_app, src, hb1, cond_false, fits_small (by omega : 1 ≤ 1000000) (by omega : 8 ≤ 1000), cond_true, newB, St.mm, List.length_append, List.length_cons, List.length_nil, Nat.zero_add]
  · have hrow : blk.c.row (0 + 0 * 1) ((z.length - 0) * 1) = z.map (AVal.i .i64) := row_row _ _ _ (by simp) fun j hj => by rw [Nat.zero_mul, Nat.zero_add]; exact hrows j (by omega)
    refine ⟨_, _, _, .sl ⟨false, hp.length + 1, 0⟩ (z.length + 1) .grow, hp ++ [some (blkOf 3 [.i .i64 c])] ++ [some (blkOf 3 (z.map (AVal.i .i64) ++ [.i .i64 c]))], cut_grow hk, s1, ?_, res _ (by simp), kp _, by simp, nb⟩
    have e1 : Nat.ble (z.length - 0 + 1) (z.length - 0) = false := by
      cases hh : Nat.ble (z.length - 0 + 1) (z.length - 0)
      · rfl
      · rw [Nat.ble_eq] at hh; omega
    have hb : rdB ro (hp ++ [some (blkOf 3 [.i .i64 c])]) ⟨false, b, 0 + 0 * 1⟩ = some blk := rdB_heap (lget_ext hbk _) _
    have e2 : (Nat.ble (0 + 0 * 1 + (z.length - 0) * 1) blk.n && fits (z.length - 0 + 1) 8) = true := by
      rw [fits_small (by omega : z.length - 0 + 1 ≤ 1000000) (by omega : 8 ≤ 1000)]
      simp [Nat.ble_eq]; omega
    simp only [stepM, stepK, opd, st_app, src, app_known, e1, cond_false, hb, e2, cond_true, newB, St.mm, List.length_append, List.length_singleton, hrow]
    rfl
/-- what an answer is -/
def FirstR (ro : List ABlk) (L : Nat) (hp : Heap) (u : AVal) : Option (List Int) → Prop
  | none => u = .nsl
  | some z => IsRow ro hp u z ∧ u ≠ .nsl ∧ u.bel L = false
theorem nilcmp_ne {u : AVal} {ro : List ABlk} {hp : Heap} {z : List Int} (r : IsRow ro hp u z) (hn : u ≠ .nsl) : evP .e (.nilcmp true (.c u)) = some (.b true) := by
  rcases r with ⟨rfl, -⟩ | ⟨q, cap, blk, rfl, -⟩
  · exact absurd rfl hn
  · rfl
theorem row_bel {ro : List ABlk} {h : Heap} {v : AVal} {z : List Int} (a : IsRow ro h v z) : v.bel h.length = true := by
  rcases a with ⟨rfl, -⟩ | ⟨q, cap, blk, rfl, hb, -⟩
  · rfl
  · simpa [AVal.bel] using rdB_lt hb
/-- the numbers from -N to N, from the i-th on -/
def xsL (N i : Nat) : List Int := ((List.range (2 * N + 1)).drop i).map fun j : Nat => (j : Int) - (N : Int)
theorem xsL_step {N i : Nat} (hi : i < 2 * N + 1) : xsL N i = ((i : Int) - (N : Int)) :: xsL N (i + 1) := by
  have hl : i < (List.range (2 * N + 1)).length := by simpa using hi
  unfold xsL
  rw [List.drop_eq_getElem_cons hl]
  simp
theorem xsL_end {N : Nat} : xsL N (2 * N + 1) = [] := by
  unfold xsL
  rw [List.drop_eq_nil_of_le (by simp)]; rfl
/-- where the last step ends -/
def lastT (ss : List Sp) : Int := (ss.getD (ss.length - 1) Sp.z).t
/-- may a step of this number come next? -/
def okX (l : List Sp) (ss : List Sp) (x : Int) : Option Sp :=
  match stepP l x with
  | none => none
  | some s => if ss = [] then (if 0 < x then some s else none) else if s.f = lastT ss ∧ ¬ ∃ j, j < ss.length ∧ (ss.getD j Sp.z).f = s.f then some s else none
def leafP (t : Int) (ss : List Sp) : Bool := decide (lastT ss = (ss.getD 0 Sp.z).f) && refP t (loSum ss) (hiSum ss)
/-- the first ring that refuses, of those that begin so -/
def SF (t : Int) (l : List Sp) : Nat → List Int → List Sp → Option (List Int)
  | 0, now, ss => if leafP t ss then some now else none
  | k + 1, now, ss => (xsL l.length 0).findSome? fun x => match okX l ss x with
    | none => none
    | some s => SF t l k (now ++ [x]) (ss ++ [s])
def trX (t : Int) (l : List Sp) (k : Nat) (now : List Int) (ss : List Sp) (x : Int) : Option (List Int) := match okX l ss x with
  | none => none
  | some s => SF t l k (now ++ [x]) (ss ++ [s])
theorem SF_succ {t : Int} {l : List Sp} {k : Nat} {now : List Int} {ss : List Sp} : SF t l (k + 1) now ss = (xsL l.length 0).findSome? (trX t l k now ss) := rfl
/-- what is left of the search, from the i-th number on -/
def restS (t : Int) (l : List Sp) (k : Nat) (now : List Int) (ss : List Sp) (i : Nat) : Option (List Int) := (xsL l.length i).findSome? (trX t l k now ss)
theorem restS_end {t : Int} {l : List Sp} {k : Nat} {now : List Int} {ss : List Sp} : restS t l k now ss (2 * l.length + 1) = none := by
  unfold restS; rw [xsL_end]; rfl
theorem restS_some {t : Int} {l : List Sp} {k : Nat} {now z : List Int} {ss : List Sp} {i : Nat} (hi : i < 2 * l.length + 1) (h : trX t l k now ss ((i : Int) - (l.length : Int)) = some z) : restS t l k now ss i = some z := by
  unfold restS; rw [xsL_step hi, List.findSome?_cons, h]
theorem restS_none {t : Int} {l : List Sp} {k : Nat} {now : List Int} {ss : List Sp} {i : Nat} (hi : i < 2 * l.length + 1) (h : trX t l k now ss ((i : Int) - (l.length : Int)) = none) : restS t l k now ss i = restS t l k now ss (i + 1) := by
  unfold restS; rw [xsL_step hi, List.findSome?_cons, h]
/-- numbers and their steps -/
structure St (l : List Sp) (now : List Int) (ss : List Sp) : Prop where
  pre : Pre l now now.length ss
  begs : Pre.begs now.length ss
theorem St.nil (l : List Sp) : St l [] [] := ⟨⟨rfl, Nat.le_refl _, fun i hi => by simp at hi, fun i hi => by simp at hi⟩, fun i j _ hj => by simp at hj⟩
theorem okX_some {l : List Sp} {ss : List Sp} {x : Int} {s : Sp} (h : okX l ss x = some s) : stepP l x = some s ∧ (ss = [] → 0 < x) ∧ (ss ≠ [] → s.f = lastT ss ∧ ¬ ∃ j, j < ss.length ∧ (ss.getD j Sp.z).f = s.f) := by
  unfold okX at h
  split at h
  · cases h
  · rename_i s' hs
    by_cases h0 : ss = []
    · rw [if_pos h0] at h
      by_cases hx : 0 < x
      · rw [if_pos hx] at h; cases h
        exact ⟨hs, fun _ => hx, fun k => absurd h0 k⟩
      · rw [if_neg hx] at h; cases h
    · rw [if_neg h0] at h
      split at h
      · rename_i hc
        cases h
        exact ⟨hs, fun k => absurd k h0, fun _ => hc⟩
      · cases h
theorem getDI_snoc {xs : List Int} {x : Int} {i : Nat} (hi : i < xs.length) : (xs ++ [x]).getD i 0 = xs.getD i 0 := by simp [List.getD, List.getElem?_append_left hi]
theorem getDI_snoc' {xs : List Int} {x : Int} : (xs ++ [x]).getD xs.length 0 = x := by simp [List.getD]
theorem St.snoc {l : List Sp} {now : List Int} {ss : List Sp} {x : Int} {s : Sp} (st : St l now ss) (h : okX l ss x = some s) : St l (now ++ [x]) (ss ++ [s]) := by
  obtain ⟨h1, h2, h3⟩ := okX_some h
  have hl := st.pre.len
  have hn : (now ++ [x]).length = now.length + 1 := by simp
  have e1 : (ss ++ [s]).getD now.length Sp.z = s := by rw [← hl]; exact getD_snoc'
  refine ⟨⟨by simp [hl], Nat.le_refl _, fun i hi => ?_, fun i hi => ?_⟩, fun i j hij hj => ?_⟩
  · rw [hn] at hi
    rcases Nat.lt_or_ge i now.length with h4 | h4
    · rw [getDI_snoc h4, getD_snoc (by omega)]; exact st.pre.st i h4
    · obtain rfl : i = now.length := by omega
      rw [getDI_snoc', e1]; exact h1
  · rw [hn] at hi
    rcases Nat.lt_or_ge (i + 1) now.length with h4 | h4
    · rw [getD_snoc (by omega), getD_snoc (by omega)]; exact st.pre.nx i h4
    · have h5 : i + 1 = now.length := by omega
      rw [getD_snoc (by omega), h5, e1]
      have hne : ss ≠ [] := fun k => by rw [k] at hl; simp at hl; omega
      rw [(h3 hne).1]
      unfold lastT
      rw [show ss.length - 1 = i by omega]
  · rw [hn] at hj
    rcases Nat.lt_or_ge j now.length with h4 | h4
    · rw [getD_snoc (by omega), getD_snoc (by omega)]; exact st.begs i j hij h4
    · obtain rfl : j = now.length := by omega
      rw [e1, getD_snoc (by omega)]
      have hne : ss ≠ [] := fun k => by rw [k] at hl; simp at hl; omega
      exact fun k => (h3 hne).2 ⟨i, by omega, k⟩
theorem lastT_snoc {ss : List Sp} {s : Sp} : lastT (ss ++ [s]) = s.t := by
  unfold lastT
  rw [List.length_append, List.length_singleton, Nat.add_sub_cancel, getD_snoc']
theorem stepP_in {l : List Sp} {x : Int} {s : Sp} (h : stepP l x = some s) : -(l.length : Int) ≤ x ∧ x ≤ l.length := by
  unfold stepP at h
  split at h
  · omega
  · split at h
    · omega
    · cases h
theorem St.fits {t n : Int} {l : List Sp} {now : List Int} {ss : List Sp} (ok : Ok t n l) (st : St l now ss) : ∀ x ∈ now, inI64 x := by
  intro x hx
  obtain ⟨i, hi, rfl⟩ := List.mem_iff_getElem.1 hx
  have := st.pre.st i hi
  have e : now.getD i 0 = now[i] := by simp [List.getD, hi]
  rw [e] at this
  have := stepP_in this
  have := ok.len
  constructor <;> omega
theorem St.ring {l : List Sp} {now : List Int} {ss : List Sp} (st : St l now ss) (h2 : 2 ≤ now.length) : lastT ss = (ss.getD 0 Sp.z).f ↔ RingC l now ss := by
  unfold lastT
  rw [st.pre.len]
  exact ⟨fun cl => ⟨st.pre, ring_ends st.pre st.begs cl, h2, cl⟩, fun rc => rc.cl⟩
theorem St.some_ring {l : List Sp} {now : List Int} {ss : List Sp} (st : St l now ss) (h2 : 2 ≤ now.length) : lastT ss = (ss.getD 0 Sp.z).f ↔ ∃ ss', RingC l now ss' := by
  rw [st.ring h2]
  refine ⟨fun h => ⟨ss, h⟩, fun ⟨ss', rc⟩ => ?_⟩
  have : ss' = ss := by
    refine List.ext_getElem (by rw [rc.pre.len, st.pre.len]) fun i h1 h3 => ?_
    have := rc.pre.uniq st.pre (i := i) (by have := st.pre.len; omega) (by have := st.pre.len; omega)
    simpa [List.getD, h1, h3] using this
  rwa [this] at rc
theorem SF_len {t : Int} {l : List Sp} : ∀ (k : Nat) (now : List Int) (ss : List Sp) (z : List Int), SF t l k now ss = some z → z.length = now.length + k
  | 0, now, ss, z, h => by
    unfold SF at h
    split at h
    · cases h; rfl
    · cases h
  | k + 1, now, ss, z, h => by
    rw [SF_succ] at h
    obtain ⟨x, -, hx⟩ := List.exists_of_findSome?_eq_some h
    unfold trX at hx
    split at hx
    · cases hx
    · have := SF_len k _ _ _ hx
      simp at this; omega
end Go.Proofs.YtpjjmdbkgkembaaDoor.T

/- The specification's ring. -/
open Go.Vm
set_option linter.unusedVariables false
namespace Go.Proofs.YtpjjmdbkgkembaaDoor.T
open Go

theorem wr_small {x : Int} (h1 : -1000000 ≤ x) (h2 : x ≤ 1000000) : Go.Vm.wr .i64 x = x := wr_id' (by omega) (by omega)
theorem mem_fits {now : List Int} (hx : ∀ x ∈ now, inI64 x) {i : Nat} (hi : i < now.length) : inI64 (now.getD i 0) := by
  have : now.getD i 0 = now[i] := by simp [List.getD, hi]
  rw [this]; exact hx _ (List.getElem_mem hi)
section
variable {ro : List ABlk} {t n : Int} {l : List Sp} {m : AVal}
/-- is an event where a step begins? -/
theorem again58 {hp : Heap} {lw lp : Nat} {v : AVal} {x0 x2 x12 x91 : Int} {now : List Int} {ss : List Sp} (hm : IsSpans ro hp m l) (ok : Ok t n l) (r : IsRow ro hp v now) (st : St l now ss) (h6 : now.length ≤ 1000) (h1 : lw ≤ hp.length) (h2 : lp ≤ hp.length) :
    ∀ (j i : Nat), i + j = now.length → loopX (fun s : Bool × Int × Mm => g58_b6 (meansX F1 ro) ro x0 m x2 v x12 x91 s.1 s.2.1 s.2.2) (decide (∃ q, q < i ∧ (ss.getD q Sp.z).f = x91), (i : Int), ⟨hp, lw, lp⟩) = some (decide (∃ q, q < now.length ∧ (ss.getD q Sp.z).f = x91), ⟨hp, lw, lp⟩)
  | 0, i, hi => by
    obtain rfl : i = now.length := by omega
    refine loopX_out ?_
    simp only [g58_b6, len_row r, bindO_some, asI_i, forceB_eq, ltI_eq, lt_no, cond_false]
  | j + 1, i, hi => by
    refine loopX_on ?_ (again58 hm ok r st h6 h1 h2 j (i + 1) (by omega))
    have hlt : i < now.length := by omega
    obtain ⟨p, p1, p2, p3⟩ := at_row (m := ⟨hp, lw, lp⟩) rfl r hlt
    have hs := step59 (ro := ro) (h := hp) hm ok (mem_fits (st.fits ok) hlt)
    rw [st.pre.st i hlt] at hs
    have e : (decide (∃ q, q < i ∧ (ss.getD q Sp.z).f = x91) || ((ss.getD i Sp.z).f == x91)) = decide (∃ q, q < i + 1 ∧ (ss.getD q Sp.z).f = x91) := by
      rw [Bool.eq_iff_iff]
      simp only [Bool.or_eq_true, decide_eq_true_eq, beq_iff_eq]
      constructor
      · rintro (⟨q, h3, h4⟩ | h3)
        · exact ⟨q, by omega, h4⟩
        · exact ⟨i, by omega, h3⟩
      · rintro ⟨q, h3, h4⟩
        rcases Nat.lt_or_ge q i with h5 | h5
        · exact .inl ⟨q, h5, h4⟩
        · obtain rfl : q = i := by omega
          exact .inr h4
    simp only [g58_b6, len_row r, bindO_some, asI_i, forceB_eq, ltI_eq, lt_yes hlt, cond_true, p1, p2, meansX_call, callM_pure hs h1 h2, bindP_some, step59V, ext0, ext1, ext2, ext3, ext4, asB_b, eqI_eq, bindO_or, e, forceI_eq]
    rw [wr_next (by omega)]

theorem ring58_end {many : Nat} {h : Heap} {v : AVal} {now : List Int} {ss : List Sp} (ok : Ok t n l) (h2 : 2 ≤ many) (h6 : many ≤ 6) (g : GV h 0 3 1 v now.length (now.map (AVal.i .i64))) (hm : IsSpans ro h m l) (st : St l now ss) (hn : now.length = many) :
    callX F1 ro 58 [.i .i64 t, m, .i .i64 (many : Int), v] h = some (if leafP t ss then v else .nsl, h, h.length, h.length) := by
  have r := g.row (ro := ro) rfl
  refine g58_ok (meansX_ok F1 ro) rfl ?_
  unfold g58
  have e : eqI (now.length : Int) (many : Int) = true := by rw [eqI_eq]; simp [hn]
  have key := st.some_ring (by omega)
  rcases isRing39 hm ok r (st.fits ok) with ⟨ss', h1, rc, bl, bh⟩ | ⟨⟨y, z, h1⟩, hno⟩
  · have hr := (st.ring (by omega)).1 (key.2 ⟨ss', rc⟩)
    obtain rfl := ring_uniq rc hr
    have hl : leafP t ss' = refP t (loSum ss') (hiSum ss') := by
      unfold leafP
      rw [decide_eq_true (key.2 ⟨ss', rc⟩), Bool.true_and]
    simp only [len_row r, bindO_some, asI_i, forceB_eq, e, cond_true, meansX_call, callM_pure h1 (Nat.le_refl _) (Nat.le_refl _), bindP_some, ext0, ext1, ext2, asB_b, callM_pure (refuses56 (ro := ro) (h := h) (t := t) (n := n) ok.r (a := loSum ss') (b := hiSum ss') (by omega) (by omega)) (Nat.le_refl _) (Nat.le_refl _), tupA]
    rw [hl]
    by_cases hp : refP t (loSum ss') (hiSum ss') = true
    · rw [hp]; exact fin_pure (row_bel r)
    · have hp : refP t (loSum ss') (hiSum ss') = false := by simpa using hp
      rw [hp]; exact fin_pure rfl
  · have hl : leafP t ss = false := by
      unfold leafP
      rw [decide_eq_false (fun h => hno (key.1 h)), Bool.false_and]
    simp only [len_row r, bindO_some, asI_i, forceB_eq, e, cond_true, meansX_call, callM_pure h1 (Nat.le_refl _) (Nat.le_refl _), bindP_some, ext0, ext1, ext2, asB_b, cond_false, tupA]
    rw [hl]
    exact fin_pure rfl

/-- a number that isn't taken -/
theorem trX_no {l : List Sp} {k : Nat} {now : List Int} {ss : List Sp} {x : Int} (h : okX l ss x = none) : trX t l k now ss x = none := by unfold trX; rw [h]
theorem trX_yes {l : List Sp} {k : Nat} {now : List Int} {ss : List Sp} {x : Int} {s : Sp} (h : okX l ss x = some s) : trX t l k now ss x = SF t l k (now ++ [x]) (ss ++ [s]) := by unfold trX; rw [h]
theorem stepP_zero : stepP l 0 = none := by
  unfold stepP; rw [if_neg (by omega), if_neg (by omega)]
theorem stepP_is {x : Int} (h0 : x ≠ 0) (h1 : -(l.length : Int) ≤ x) (h2 : x ≤ l.length) : ∃ s, stepP l x = some s := by
  unfold stepP
  by_cases h : 1 ≤ x
  · rw [if_pos ⟨h, h2⟩]; exact ⟨_, rfl⟩
  · rw [if_neg (by omega), if_pos ⟨by omega, h1⟩]; exact ⟨_, rfl⟩
/-- what is asked before a number is tried -/
theorem ring58_ask {hp : Heap} {lw lp : Nat} {v : AVal} {x0 x2 x12 : Int} {now : List Int} {ss : List Sp} (hm : IsSpans ro hp m l) (ok : Ok t n l) (r : IsRow ro hp v now) (st : St l now ss) (h6 : now.length ≤ 1000) (h1 : lw ≤ hp.length) (h2 : lp ≤ hp.length)
    (hx1 : -(l.length : Int) ≤ x12) (hx2 : x12 ≤ l.length) :
    (okX l ss x12 = none ∧ g58_b1 (meansX F1 ro) ro x0 m x2 v x12 ⟨hp, lw, lp⟩ = some (.inl (x12 + 1, ⟨hp, lw, lp⟩))) ∨
    (∃ s, okX l ss x12 = some s ∧ ∀ w v2 m2 v3 m3 v4 m4 c, evP .e (.slS 1 (.c v) none (some (.c (.i .i64 (now.length : Int)))) (some (.c (.i .i64 (now.length : Int))))) = some w →
      stepM ro ⟨hp, lw, lp⟩ (.bsl 3 1 [(AVal.i IntKind.i64 0)] 1 [((0, 1), .c (.i .i64 x12))]) = some (v2, m2) →
      stepM ro m2 (.app 3 1 8 [(AVal.i IntKind.i64 0)] (.c w) (.c v2)) = some (v3, m3) →
      callM (callX F1 ro) m3 58 [.i .i64 x0, m, .i .i64 x2, v3] = some (v4, m4) → evP .e (.nilcmp true (.c v4)) = some (.b c) →
      g58_b1 (meansX F1 ro) ro x0 m x2 v x12 ⟨hp, lw, lp⟩ = some (if c then .inr (.inr (v4, m4)) else .inl (x12 + 1, m4))) := by
  have hlen := ok.len
  have hlp := st.pre.len
  have e1 : (!decide ((l.length : Int) < x12)) = true := by simp; omega
  have hw : Go.Vm.wr .i64 (x12 + 1) = x12 + 1 := wr_small (by omega) (by omega)
  by_cases hx0 : x12 = 0
  · refine .inl ⟨by unfold okX; rw [hx0, stepP_zero], ?_⟩
    have e2 : (x12 == 0) = true := by simpa using hx0
    simp only [g58_b1, len_spans hm, bindO_some, asI_i, forceB_eq, ltI_eq, e1, cond_true, eqI_eq, e2, forceI_eq, hw]
  have e2 : (x12 == 0) = false := by simpa using hx0
  obtain ⟨s, hs⟩ := stepP_is hx0 hx1 hx2
  have hfx : inI64 x12 := ⟨by omega, by omega⟩
  have hs59 := step59 (ro := ro) (h := hp) hm ok hfx
  rw [hs] at hs59
  by_cases hnil : now = []
  · subst hnil
    have hss : ss = [] := List.length_eq_zero_iff.1 hlp
    have e3 : ((([] : List Int).length : Int) == 0) = true := rfl
    have e4 : decide ((0 : Int) < (([] : List Int).length : Int)) = false := rfl
    by_cases hneg : x12 < 0
    · refine .inl ⟨by unfold okX; rw [hs]; simp only [hss, if_true]; rw [if_neg (by omega)], ?_⟩
      simp only [g58_b1, len_spans hm, len_row r, bindO_some, asI_i, forceB_eq, ltI_eq, e1, cond_true, eqI_eq, e2, cond_false, e3, decide_eq_true hneg, forceI_eq, hw]
    · refine .inr ⟨s, by unfold okX; rw [hs]; simp only [hss, if_true]; rw [if_pos (by omega)], fun w v2 m2 v3 m3 v4 m4 c a1 a2 a3 a4 a5 => ?_⟩
      simp only [g58_b1, len_spans hm, len_row r, bindO_some, asI_i, forceB_eq, ltI_eq, e1, cond_true, eqI_eq, e2, cond_false, e3, decide_eq_false hneg, e4, a1, a2, a3, bindP_some, meansX_call, a4, a5, asB_b]
      cases c
      · simp only [cond_false, bindO_some, forceI_eq, hw, Bool.false_eq_true, if_false]
      · simp only [cond_true, bindO_some, if_true]
  · have hpos : 0 < now.length := List.length_pos_iff.2 hnil
    have hne : ss ≠ [] := fun h => by rw [h] at hlp; simp at hlp; omega
    have e3 : (((now.length : Nat) : Int) == 0) = false := by simp; exact hnil
    have e4 : decide ((0 : Int) < (now.length : Int)) = true := decide_eq_true (by omega)
    have hw1 : Go.Vm.wr .i64 ((now.length : Int) - 1) = ((now.length - 1 : Nat) : Int) := by rw [wr_small (by omega) (by omega)]; omega
    obtain ⟨p, p1, p2, p3⟩ := at_row (m := ⟨hp, lw, lp⟩) rfl r (i := now.length - 1) (by omega)
    have hl59 := step59 (ro := ro) (h := hp) hm ok (mem_fits (st.fits ok) (i := now.length - 1) (by omega))
    rw [st.pre.st (now.length - 1) (by omega)] at hl59
    have hlast : lastT ss = (ss.getD (now.length - 1) Sp.z).t := by unfold lastT; rw [hlp]
    have e0 : ((0 : Nat) : Int) = 0 := rfl
    by_cases hat : s.f = lastT ss
    · have e5 : (!(s.f == (ss.getD (now.length - 1) Sp.z).t)) = false := by rw [← hlast]; simpa using hat
      have hag := again58 (x0 := x0) (x2 := x2) (x12 := x12) (x91 := s.f) hm ok r st h6 h1 h2 now.length 0 (by omega)
      have e6 : decide (∃ q : Nat, q < 0 ∧ (ss.getD q Sp.z).f = s.f) = false := decide_eq_false (by rintro ⟨q, hq, -⟩; omega)
      rw [e6, e0] at hag
      by_cases hex : ∃ q, q < now.length ∧ (ss.getD q Sp.z).f = s.f
      · rw [decide_eq_true hex] at hag
        refine .inl ⟨by unfold okX; rw [hs]; simp only [hne, if_false]; rw [if_neg (fun h => h.2 (by rw [hlp]; exact hex))], ?_⟩
        simp only [g58_b1, len_spans hm, len_row r, bindO_some, asI_i, forceB_eq, ltI_eq, e1, cond_true, eqI_eq, e2, cond_false, e3, e4, forceI_eq, hw1, p1, p2, meansX_call, callM_pure hl59 h1 h2, callM_pure hs59 h1 h2, bindP_some, step59V, ext0, ext1, ext2, ext3, ext4, asB_b, e5, meansX_loop, hag, hw]
      · rw [decide_eq_false hex] at hag
        refine .inr ⟨s, by unfold okX; rw [hs]; simp only [hne, if_false]; rw [if_pos ⟨hat, by rw [hlp]; exact hex⟩], fun w v2 m2 v3 m3 v4 m4 c a1 a2 a3 a4 a5 => ?_⟩
        simp only [g58_b1, len_spans hm, len_row r, bindO_some, asI_i, forceB_eq, ltI_eq, e1, cond_true, eqI_eq, e2, cond_false, e3, e4, forceI_eq, hw1, p1, p2, meansX_call, callM_pure hl59 h1 h2, callM_pure hs59 h1 h2, bindP_some, step59V, ext0, ext1, ext2, ext3, ext4, asB_b, e5, meansX_loop, hag, a1, a2, a3, a4, a5]
        cases c
        · simp only [cond_false, bindO_some, hw, Bool.false_eq_true, if_false]
        · simp only [cond_true, bindO_some, if_true]
    · have e5 : (!(s.f == (ss.getD (now.length - 1) Sp.z).t)) = true := by rw [← hlast]; simpa using hat
      refine .inl ⟨by unfold okX; rw [hs]; simp only [hne, if_false]; rw [if_neg (fun h => hat h.1)], ?_⟩
      simp only [g58_b1, len_spans hm, len_row r, bindO_some, asI_i, forceB_eq, ltI_eq, e1, cond_true, eqI_eq, e2, cond_false, e3, e4, forceI_eq, hw1, p1, p2, meansX_call, callM_pure hl59 h1 h2, callM_pure hs59 h1 h2, bindP_some, step59V, ext0, ext1, ext2, ext3, ext4, asB_b, e5, hw]
end
end Go.Proofs.YtpjjmdbkgkembaaDoor.T

/- The specification's ring: the search. -/
open Go.Vm
set_option linter.unusedVariables false
namespace Go.Proofs.YtpjjmdbkgkembaaDoor.T
open Go
section
variable {ro : List ABlk} {t n : Int} {l : List Sp} {m : AVal}
theorem ring58 {many : Nat} (ok : Ok t n l) (h2 : 2 ≤ many) (h6 : many ≤ 6) : ∀ (k : Nat) (h : Heap) (v : AVal) (now : List Int) (ss : List Sp), GV h 0 3 1 v now.length (now.map (AVal.i .i64)) → IsSpans ro h m l → St l now ss → now.length + k = many →
    ∃ u hp, callX F1 ro 58 [.i .i64 t, m, .i .i64 (many : Int), v] h = some (u, hp, h.length, h.length) ∧ Keep h hp ∧ ∀ L, L ≤ h.length → (k = 0 → v.bel L = false) → FirstR ro L hp u (SF t l k now ss)
  | 0, h, v, now, ss, g, hm, st, hk => by
    refine ⟨_, h, ring58_end ok h2 h6 g hm st hk, Keep.refl h, fun L hL hb => ?_⟩
    have hb := hb rfl
    unfold SF
    by_cases hl : leafP t ss = true
    · rw [if_pos hl, if_pos hl]
      exact ⟨g.row rfl, fun e => (by rw [e] at hb; cases hb), hb⟩
    · rw [if_neg hl, if_neg hl]
      rfl
  | k + 1, h, v, now, ss, g, hm, st, hk => by
    have r := g.row (ro := ro) rfl
    have hlen := ok.len
    have key : ∀ (j i : Nat) (hp : Heap), i + j = 2 * l.length + 1 → Keep h hp → ∃ o, loopX (fun s : Int × Mm => g58_b1 (meansX F1 ro) ro t m many v s.1 s.2) ((i : Int) - (l.length : Int), ⟨hp, h.length, h.length⟩) = some o ∧
        match restS t l k now ss i with
        | none => ∃ hp', o = .inl ⟨hp', h.length, h.length⟩ ∧ Keep h hp'
        | some z => ∃ u hp', o = .inr (u, ⟨hp', h.length, h.length⟩) ∧ Keep h hp' ∧ IsRow ro hp' u z ∧ u ≠ .nsl ∧ ∀ L, L ≤ h.length → u.bel L = false := by
      intro j
      induction j with
      | zero =>
        intro i hp hi kp
        obtain rfl : i = 2 * l.length + 1 := by omega
        refine ⟨.inl ⟨hp, h.length, h.length⟩, loopX_out ?_, ?_⟩
        · have e : (!decide ((l.length : Int) < ((2 * l.length + 1 : Nat) : Int) - (l.length : Int))) = false := by simp; omega
          simp only [g58_b1, len_spans (hm.by kp), bindO_some, asI_i, forceB_eq, ltI_eq, e, cond_false]
        · rw [restS_end]; exact ⟨hp, rfl, kp⟩
      | succ j ihj =>
        intro i hp hi kp
        have hnext : (i : Int) - (l.length : Int) + 1 = ((i + 1 : Nat) : Int) - (l.length : Int) := by omega
        rcases ring58_ask (x0 := t) (x2 := many) (x12 := (i : Int) - (l.length : Int)) (hm.by kp) ok (row_by r kp) st (by omega) kp.1 kp.1 (by omega) (by omega) with ⟨a1, a2⟩ | ⟨s, a1, a2⟩
        · rw [restS_none (by omega) (trX_no a1)]
          obtain ⟨o, o1, o2⟩ := ihj (i + 1) hp (by omega) kp
          rw [hnext] at a2
          exact ⟨o, loopX_on a2 o1, o2⟩
        · obtain ⟨w, v2, hp2, v3, hp3, c1, c2, c3, g3, k3, n3, b3⟩ := cut_app (ro := ro) (l := h.length) (p := h.length) (g.by kp) (show now.length ≤ 1000 by omega) ((i : Int) - (l.length : Int))
          have g3' : GV hp3 0 3 1 v3 (now ++ [(i : Int) - (l.length : Int)]).length ((now ++ [(i : Int) - (l.length : Int)]).map (AVal.i .i64)) := by rw [List.length_append, List.length_singleton]; exact g3
          obtain ⟨u, hp4, e4, k4, f4⟩ := ring58 ok h2 h6 k hp3 v3 (now ++ [(i : Int) - (l.length : Int)]) (ss ++ [s]) g3' (hm.by (kp.trans k3)) (st.snoc a1) (by simp; omega)
          have e4' := callM_eq (call := callX F1 ro) (m := ⟨hp3, h.length, h.length⟩) e4
          have hle : h.length ≤ hp3.length := (kp.trans k3).1
          rw [Nat.min_eq_left hle] at e4'
          have f4 := fun L (hL : L ≤ h.length) => f4 L (by omega) fun _ => b3 L (by have := kp.1; omega)
          have k04 : Keep h hp4 := (kp.trans k3).trans k4
          cases hh : SF t l k (now ++ [(i : Int) - (l.length : Int)]) (ss ++ [s]) with
          | none =>
            rw [hh] at f4
            have hu : u = .nsl := f4 0 (Nat.zero_le _)
            subst hu
            have a3 := a2 w v2 _ v3 _ .nsl _ false c1 c2 c3 e4' rfl
            rw [restS_none (by omega) ((trX_yes a1).trans hh)]
            obtain ⟨o, o1, o2⟩ := ihj (i + 1) hp4 (by omega) k04
            rw [hnext] at a3
            exact ⟨o, loopX_on a3 o1, o2⟩
          | some z =>
            rw [hh] at f4
            obtain ⟨f1, f2, -⟩ := f4 0 (Nat.zero_le _)
            have a3 := a2 w v2 _ v3 _ u _ true c1 c2 c3 e4' (nilcmp_ne f1 f2)
            rw [restS_some (by omega) ((trX_yes a1).trans hh)]
            exact ⟨_, loopX_out a3, u, hp4, rfl, k04, f1, f2, fun L hL => (f4 L hL).2.2⟩
    obtain ⟨o, o1, o2⟩ := key (2 * l.length + 1) 0 h (by omega) (Keep.refl h)
    have e0 : ((0 : Nat) : Int) - (l.length : Int) = 0 - (l.length : Int) := rfl
    rw [e0] at o1
    have e : eqI (now.length : Int) (many : Int) = false := by rw [eqI_eq]; simp; omega
    have hw : Go.Vm.wr .i64 (0 - (l.length : Int)) = 0 - (l.length : Int) := wr_small (by omega) (by omega)
    have hS : SF t l (k + 1) now ss = restS t l k now ss 0 := rfl
    rw [hS]
    cases hh : restS t l k now ss 0 with
    | none =>
      rw [hh] at o2
      obtain ⟨hp', rfl, kp⟩ := o2
      refine ⟨.nsl, h, g58_ok (meansX_ok F1 ro) rfl ?_, Keep.refl h, fun L hL _ => rfl⟩
      unfold g58
      simp only [len_row r, bindO_some, asI_i, forceB_eq, e, cond_false, len_spans hm, forceI_eq, hw, meansX_loop, o1, tupA]
      exact fin_keep kp rfl
    | some z =>
      rw [hh] at o2
      obtain ⟨u, hp', rfl, kp, f1, f2, f3⟩ := o2
      refine ⟨u, hp', g58_ok (meansX_ok F1 ro) rfl ?_, kp, fun L hL _ => ⟨f1, f2, f3 L hL⟩⟩
      unfold g58
      simp only [len_row r, bindO_some, asI_i, forceB_eq, e, cond_false, len_spans hm, forceI_eq, hw, meansX_loop, o1, tupA]
      exact fin_new (f3 h.length (Nat.le_refl _))
end
end Go.Proofs.YtpjjmdbkgkembaaDoor.T

/- Lists that are lengthened and cut in place, cells that a function shares with its caller. -/
open Go.Vm
set_option linter.unusedVariables false
namespace Go.Proofs.YtpjjmdbkgkembaaDoor.T
open Go

/-- a list of numbers, in a block from B on that may be longer than it is -/
def GW (hp : Heap) (B : Nat) (w : AVal) (now : List Int) : Prop :=
  (w = .nsl ∧ now = []) ∨ ∃ b blk, w = .sl ⟨false, b, 0⟩ now.length .grow ∧ B ≤ b ∧ lget hp b = some (some blk) ∧ blk.e = 3 ∧ 0 < blk.n ∧ now.length ≤ blk.n ∧ ∀ j, j < now.length → blk.c.get j = .i .i64 (now.getD j 0)
section
variable {ro : List ABlk} {hp hp' : Heap} {B lw lp : Nat} {w : AVal} {now : List Int}
theorem GW.same (g : GW hp B w now) (h : ∀ b n c, w = .sl ⟨false, b, 0⟩ n c → hp'[b]? = hp[b]?) : GW hp' B w now := by
  rcases g with h0 | ⟨b, blk, e, h1, h2, h3⟩
  · exact .inl h0
  · exact .inr ⟨b, blk, e, h1, by rw [lget_of (h b _ _ e)]; exact h2, h3⟩
theorem GW.blk (g : GW hp B w now) {b n : Nat} {c : Cap} (e : w = .sl ⟨false, b, 0⟩ n c) : B ≤ b ∧ b < hp.length := by
  rcases g with ⟨rfl, -⟩ | ⟨b', blk, e', h1, h2, h3⟩
  · cases e
  · rw [e'] at e
    injection e with e1
    injection e1 with e2 e3
    subst e3
    exact ⟨h1, lget_lt h2⟩
theorem GW.by (g : GW hp B w now) (k : Keep hp hp') : GW hp' B w now := g.same fun b n c e => k.2 b (g.blk e).2
theorem GW.row (g : GW hp B w now) : IsRow ro hp w now := by
  rcases g with h0 | ⟨b, blk, rfl, h1, h2, h3, h4, h5, h6⟩
  · exact .inl h0
  · exact .inr ⟨_, _, blk, rfl, rdB_heap h2 0, by simpa using h5, fun j hj => by rw [Nat.zero_add]; exact h6 j hj⟩
theorem GW.bel (g : GW hp B w now) : w.bel hp.length = true := row_bel (ro := []) g.row
theorem GW.nbel (g : GW hp B w now) (hn : now ≠ []) {L : Nat} (hL : L ≤ B) : w.bel L = false ∧ w ≠ .nsl := by
  rcases g with ⟨-, h0⟩ | ⟨b, blk, rfl, h1, -⟩
  · exact absurd h0 hn
  · exact ⟨not_bel (by omega), fun h => by cases h⟩
theorem GW.len (g : GW hp B w now) : evP .e (.len false (.c w)) = some (.i .i64 now.length) := len_row (g.row (ro := []))
theorem GW.cut (g : GW hp B w now) {k : Nat} (hk : k ≤ now.length) : ∃ w', evP .e (.slS 1 (.c w) none (some (.c (.i .i64 (k : Int)))) none) = some w' ∧ GW hp B w' (now.take k) := by
  have e : ((k : Int)) = Int.ofNat k := rfl
  rcases g with ⟨rfl, rfl⟩ | ⟨b, blk, rfl, h1, h2, h3, h4, h5, h6⟩
  · have : k = 0 := by simpa using hk
    subst this
    exact ⟨.nsl, rfl, .inl ⟨rfl, rfl⟩⟩
  · have hb : Nat.ble k now.length = true := by rw [Nat.ble_eq]; exact hk
    have hl : (now.take k).length = k := by simp; omega
    refine ⟨.sl ⟨false, b, 0⟩ k .grow, ?_, .inr ⟨b, blk, by rw [hl], h1, h2, h3, h4, by rw [hl]; omega, fun j hj => ?_⟩⟩
    · simp only [evP, ev_slS, opd, sl_lh, e, Option.map_some, Option.map_none, sbound, capB, hb, cond_true]
    · rw [hl] at hj
      rw [h6 j (by omega)]
      simp [List.getD, List.getElem?_take, hj]
/-- one more, in new memory -/
theorem GW.push (g : GW hp B w now) (hB : B ≤ hp.length) (hk : now.length ≤ 1000) (x : Int) :
    ∃ v2 hp2 v3 hp3 lw3 lp3, stepM ro ⟨hp, lw, lp⟩ (.bsl 3 1 [(AVal.i IntKind.i64 0)] 1 [((0, 1), .c (.i .i64 x))]) = some (v2, ⟨hp2, lw, lp⟩) ∧
      stepM ro ⟨hp2, lw, lp⟩ (.app 3 1 8 [(AVal.i IntKind.i64 0)] (.c w) (.c v2)) = some (v3, ⟨hp3, lw3, lp3⟩) ∧
      GW hp3 B v3 (now ++ [x]) ∧ hp.length ≤ hp3.length ∧ (∀ i, i < hp.length → (∀ b n c, w = .sl ⟨false, b, 0⟩ n c → i ≠ b) → hp3[i]? = hp[i]?) ∧ lw3 ≤ lw ∧ lp3 ≤ lp ∧ (∀ C, C ≤ B → C ≤ lw → C ≤ lw3) ∧ (∀ C, C ≤ B → C ≤ lp → C ≤ lp3) ∧ v3.cells = [v3] ∧ ones [v3] = true ∧ nonp [v3] = false := by
  have s1 : stepM ro ⟨hp, lw, lp⟩ (.bsl 3 1 [(AVal.i IntKind.i64 0)] 1 [((0, 1), .c (.i .i64 x))]) = some (.sl ⟨false, hp.length, 0⟩ 1 (.known 1), ⟨hp ++ [some (blkOf 3 [.i .i64 x])], lw, lp⟩) := by
    simp [stepM, stepK, st_bsl, rep, fillA, opd, AVal.cells, splice, newB, St.mm]
  have src : app_src ro (hp ++ [some (blkOf 3 [.i .i64 x])]) 1 (.sl ⟨false, hp.length, 0⟩ 1 (.known 1)) = some ([.i .i64 x], 1) := by
    have hb : rdB ro (hp ++ [some (blkOf 3 [.i .i64 x])]) ⟨false, hp.length, 0⟩ = some (blkOf 3 [.i .i64 x]) := by simp [rdB, lget_eq]
    have hg : (blkOf 3 [AVal.i .i64 x]).c.row 0 1 = [.i .i64 x] := by simp only [Tr.row, get_blk]; rfl
    have hble : Nat.ble (0 + 1 * 1) (blkOf 3 [AVal.i .i64 x]).n = true := rfl
    simp only [app_src, hb, hble, cond_true]
    rw [show 1 * 1 = 1 from rfl, hg]
  rcases g with ⟨rfl, rfl⟩ | ⟨b, blk, rfl, h1, h2, h3, h4, h5, h6⟩
  · refine ⟨_, _, .sl ⟨false, hp.length + 1, 0⟩ 1 .grow, hp ++ [some (blkOf 3 [.i .i64 x])] ++ [some (blkOf 3 [.i .i64 x])], lw, lp, s1, ?_, .inr ⟨hp.length + 1, blkOf 3 [.i .i64 x], rfl, by omega, ?_, rfl, Nat.one_pos, Nat.le_refl _, fun j hj => ?_⟩, by simp, fun i hi _ => ?_, Nat.le_refl _, Nat.le_refl _, fun _ _ h => h, fun _ _ h => h, rfl, rfl, rfl⟩
    · have hb1 : Nat.beq 1 0 = false := rfl
      simp only [stepM, stepK, opd, st_app, src, hb1, cond_false, fits_small (by omega : 1 ≤ 1000000) (by omega : 8 ≤ 1000), cond_true, newB, St.mm, List.length_append, List.length_cons, List.length_nil, Nat.zero_add]
    · have := lget_last (hp ++ [some (blkOf 3 [.i .i64 x])]) (some (blkOf 3 [.i .i64 x]))
      rwa [List.length_append, List.length_singleton] at this
    · rw [get_blk]
      have : j = 0 := by simpa using hj
      subst this; rfl
    · rw [List.append_assoc, List.getElem?_append_left hi]
  · obtain ⟨hp2, e2⟩ : ∃ hp2, hp2 = hp ++ [some (blkOf 3 [.i .i64 x])] := ⟨_, rfl⟩
    rw [← e2] at src s1
    have hlt : b < hp.length := lget_lt h2
    have hb2 : lget hp2 b = some (some blk) := by rw [e2]; exact lget_ext h2 _
    have hlen2 : hp2.length = hp.length + 1 := by rw [e2]; simp
    have hrow : blk.c.row 0 (now.length * 1) = now.map (AVal.i .i64) := row_row (now.length * 1) 0 _ (by simp) fun j hj => by rw [Nat.zero_add, h6 j (by omega), map_getD (by omega)]
    refine ⟨_, _, .sl ⟨false, hp2.length, 0⟩ (now.length + 1) .grow, lset none hp2 b ++ [some (blkOf 3 (now.map (AVal.i .i64) ++ [.i .i64 x]))], min lw b, min lp b, s1, ?_, .inr ⟨hp2.length, blkOf 3 (now.map (AVal.i .i64) ++ [.i .i64 x]), by simp, by omega, ?_, rfl, ?_, ?_, fun j hj => ?_⟩, ?_, fun i hi hb => ?_, Nat.min_le_left _ _, Nat.min_le_left _ _, fun C hC h => Nat.le_min.2 ⟨h, by omega⟩, fun C hC h => Nat.le_min.2 ⟨h, by omega⟩, rfl, rfl, rfl⟩
    · have q1 : (Nat.beq blk.e 3 && Nat.ble (now.length * 1) blk.n && fits (now.length + 1) 8 && ones [AVal.i .i64 x] && Nat.blt 0 blk.n) = true := by
        have q0 : Nat.blt 0 blk.n = true := by rw [Nat.blt_eq]; omega
        have q2 : Nat.ble (now.length * 1) blk.n = true := by rw [Nat.ble_eq]; omega
        rw [h3, fits_small (by omega : now.length + 1 ≤ 1000000) (by omega : 8 ≤ 1000), q0, q2]; rfl
      have q2 : (false || !Nat.beq 0 0 || Nat.beq 1 0) = false := rfl
      simp only [stepM, stepK, opd, st_app, src, app_grow, q2, cond_false, hb2, q1, cond_true, St.mm, hrow]
    · rw [lget_eq, lset_eq, List.getElem?_append_right (by simp)]
      simp
    · show 0 < (now.map (AVal.i .i64) ++ [AVal.i .i64 x]).length
      simp
    · show (now ++ [x]).length ≤ (now.map (AVal.i .i64) ++ [AVal.i .i64 x]).length
      simp
    · rw [get_blk]
      have e3 : now.map (AVal.i .i64) ++ [AVal.i .i64 x] = (now ++ [x]).map (AVal.i .i64) := by simp
      rw [e3, map_getD hj]
    · simp [lset_eq]; omega
    · rw [lset_eq, List.getElem?_append_left (by simp; omega), List.getElem?_set_ne (fun h => hb b _ _ rfl h.symm), e2, List.getElem?_append_left hi]
end
section
variable {ro : List ABlk} {hp : Heap} {b k n lw lp : Nat} {vs vs' : List AVal} {v : AVal}
theorem Holds.stG (a : Holds hp b vs) (hv : v.cells = vs') (hn : n = vs'.length) (hl : vs'.length = vs.length) (ho : ones vs' = true) :
    ∃ hp', stepM ro ⟨hp, lw, lp⟩ (.st n (.c (.p (some ⟨false, b, 0⟩))) (.c v)) = some (und, ⟨hp', min lw b, cond (nonp vs') lp (min lp b)⟩) ∧ Holds hp' b vs' ∧ hp'.length = hp.length ∧ ∀ i, i ≠ b → hp'[i]? = hp[i]? := by
  obtain ⟨blk, h1, h2, h3⟩ := a
  subst hv hn
  have hw := wrH_all h1 (vs := v.cells) (by omega) ho
  refine ⟨hp.set b (some { blk with c := blk.c.splice 0 v.cells }), ?_, ⟨_, lget_set h1 _, by simpa using (h2.trans hl.symm), fun j hj => ?_⟩, by simp, fun i hi => List.getElem?_set_ne (Ne.symm hi)⟩
  · have hbq : Nat.beq v.cells.length v.cells.length = true := Nat.beq_refl _
    simp only [stepM, stepK, opd, st_st, hbq, cond_true, hw, St.mm]
  · show (blk.c.splice 0 v.cells).get j = _
    rw [spliceGet, if_pos (by omega)]; simp
theorem Holds.setG (a : Holds hp b vs) (hk : k < vs.length) (hv : v.one = true) (hc : v.cells = [v]) (hn : nonp [v] = true) :
    ∃ hp', stepM ro ⟨hp, lw, lp⟩ (.st 1 (.c (.p (some ⟨false, b, 0 + k * 1⟩))) (.c v)) = some (und, ⟨hp', min lw b, lp⟩) ∧ Holds hp' b (vs.set k v) ∧ hp'.length = hp.length ∧ ∀ i, i ≠ b → hp'[i]? = hp[i]? := by
  obtain ⟨blk, h1, h2, h3⟩ := a
  have e : 0 + k * 1 = k := by omega
  refine ⟨hp.set b (some { blk with c := blk.c.set k v }), ?_, ⟨_, lget_set h1 _, by simpa using h2, fun j hj => ?_⟩, by simp, fun i hi => List.getElem?_set_ne (Ne.symm hi)⟩
  · rw [e, st_heap h1 (by omega) hv hc hn]
  · show (blk.c.set k v).get j = _
    rw [get_set]
    simp only [List.length_set] at hj
    by_cases e : k = j
    · subst e; simp [List.getD, hj]
    · rw [if_neg e, h3 j hj]
      simp [List.getD, List.getElem?_set_ne e]
end
/-- six marks -/
def metF (P : Nat → Bool) : List AVal := (List.range 6).map fun e : Nat => .b (P e)
theorem metF_len (P : Nat → Bool) : (metF P).length = 6 := by simp [metF]
theorem metF_get {P : Nat → Bool} {e : Nat} (he : e < 6) : (metF P).getD e und = .b (P e) := by
  unfold metF
  rw [List.getD_eq_getElem?_getD, List.getElem?_map, List.getElem?_range he]
  rfl
theorem metF_set {P : Nat → Bool} {e : Nat} {c : Bool} (he : e < 6) : (metF P).set e (.b c) = metF fun i => if i = e then c else P i := by
  refine List.ext_getElem (by simp [metF]) fun i h1 h2 => ?_
  rw [List.getElem_set]
  simp only [metF, List.getElem_map, List.getElem_range]
  by_cases hei : e = i
  · subst hei; simp
  · rw [if_neg hei, if_neg (fun h => hei h.symm)]
/-- the events at which steps begin -/
def frB (ss : List Sp) (e : Nat) : Bool := decide (∃ j, j < ss.length ∧ (ss.getD j Sp.z).f = (e : Int))
theorem frB_nil : frB [] = fun _ => false := by
  funext e
  exact decide_eq_false (by rintro ⟨j, hj, -⟩; simp at hj)
theorem frB_snoc {ss : List Sp} {s : Sp} {e : Nat} (he : s.f = (e : Int)) : frB (ss ++ [s]) = fun i => if i = e then true else frB ss i := by
  funext i
  unfold frB
  by_cases hi : i = e
  · subst hi
    rw [if_pos rfl]
    exact decide_eq_true ⟨ss.length, by simp, by rw [getD_snoc']; exact he⟩
  · rw [if_neg hi]
    refine decide_eq_decide.2 ⟨fun ⟨j, h3, h4⟩ => ?_, fun ⟨j, h3, h4⟩ => ⟨j, by simp; omega, by rw [getD_snoc h3]; exact h4⟩⟩
    simp only [List.length_append, List.length_singleton] at h3
    rcases Nat.lt_or_ge j ss.length with h5 | h5
    · exact ⟨j, h5, by rw [getD_snoc h5] at h4; exact h4⟩
    · obtain rfl : j = ss.length := by omega
      rw [getD_snoc', he] at h4
      omega
/-- a place in new memory -/
abbrev pB (b : Nat) : AVal := .p (some ⟨false, b, 0⟩)
/-- what the search shares with its caller -/
abbrev capB6 (B : Nat) : List AVal := [pB (B + 3), pB (B + 1), pB (B + 4), pB B, pB (B + 2), pB (B + 5)]
structure Cx (t n : Int) (v : AVal) (steps : Nat) (h0 hp : Heap) (P : Nat → Bool) (now : List Int) (start : Int) (w : AVal) : Prop where
  kp : Keep h0 hp
  d : Holds hp h0.length [.i .i64 t, .i .i64 n, v]
  s : Holds hp (h0.length + 1) [.i .i64 (steps : Int)]
  m : Holds hp (h0.length + 2) (metF P)
  c : Holds hp (h0.length + 3) [w]
  st : Holds hp (h0.length + 4) [.i .i64 start]
  f : Holds hp (h0.length + 5) [.fn 75 [] (capB6 h0.length)]
  g : GW hp (h0.length + 6) w now
section
variable {t n : Int} {v w : AVal} {steps : Nat} {h0 hp hp' : Heap} {P : Nat → Bool} {now : List Int} {start : Int}
theorem Cx.len (a : Cx t n v steps h0 hp P now start w) : h0.length + 6 ≤ hp.length := by have := a.f.lt; omega
theorem Cx.by (a : Cx t n v steps h0 hp P now start w) (k : Keep hp hp') : Cx t n v steps h0 hp' P now start w :=
  ⟨a.kp.trans k, a.d.by k, a.s.by k, a.m.by k, a.c.by k, a.st.by k, a.f.by k, a.g.by k⟩
theorem Cx.take {L : Nat} (a : Cx t n v steps h0 hp P now start w) (hL : h0.length + 6 ≤ L) (hb : w.bel L = true) : Cx t n v steps h0 (hp.take L) P now start w := by
  have e : ∀ i, i < L → (hp.take L)[i]? = hp[i]? := fun i hi => by rw [List.getElem?_take_of_lt hi]
  have := a.len
  refine ⟨⟨by simp; omega, fun i hi => by rw [e i (by omega)]; exact a.kp.2 i hi⟩, a.d.keep (e _ (by omega)), a.s.keep (e _ (by omega)), a.m.keep (e _ (by omega)), a.c.keep (e _ (by omega)), a.st.keep (e _ (by omega)), a.f.keep (e _ (by omega)), a.g.same fun b n c h => e b ?_⟩
  subst h
  simpa [AVal.bel, Nat.blt_eq] using hb
theorem Cx.fin {L l p : Nat} {c : Bool} (a : Cx t n v steps h0 hp P now start w) (hL : h0.length + 6 ≤ L) (hb : L ≤ p → w.bel L = true) : ∃ hp', finM L (.b c) ⟨hp, l, p⟩ = some (.b c, hp', l, p) ∧ Cx t n v steps h0 hp' P now start w := by
  obtain ⟨hp', h1, h2 | ⟨h2, h3⟩⟩ := fin_b (hp := hp) (l := l) (p := p) (L := L) (c := c)
  · exact ⟨hp', h1, by rw [h2]; exact a⟩
  · exact ⟨hp', h1, by rw [h3]; exact a.take hL (hb h2)⟩
/-- a mark is set -/
theorem Cx.mark {ro : List ABlk} {lw lp e : Nat} {c : Bool} (a : Cx t n v steps h0 hp P now start w) (he : e < 6) :
    ∃ hp', stepM ro ⟨hp, lw, lp⟩ (.st 1 (.c (.p (some ⟨false, h0.length + 2, 0 + e * 1⟩))) (.c (.b c))) = some (und, ⟨hp', min lw (h0.length + 2), lp⟩) ∧ Cx t n v steps h0 hp' (fun i => if i = e then c else P i) now start w ∧ hp'.length = hp.length := by
  obtain ⟨hp', h1, h2, h3, h4⟩ := a.m.setG (ro := ro) (lw := lw) (lp := lp) (k := e) (v := .b c) (by rw [metF_len]; exact he) rfl rfl rfl
  rw [metF_set he] at h2
  refine ⟨hp', h1, ⟨⟨by have := a.kp.1; omega, fun i hi => by rw [h4 i (by omega)]; exact a.kp.2 i hi⟩, a.d.keep (h4 _ (by omega)), a.s.keep (h4 _ (by omega)), h2, a.c.keep (h4 _ (by omega)), a.st.keep (h4 _ (by omega)), a.f.keep (h4 _ (by omega)), a.g.same fun b n c e => h4 b (by have := (a.g.blk e).1; omega)⟩, h3⟩
/-- another list, of blocks that are there -/
theorem Cx.put {ro : List ABlk} {lw lp : Nat} {w' : AVal} {now' : List Int} (a : Cx t n v steps h0 hp P now start w) (g : GW hp (h0.length + 6) w' now') (h1 : w'.cells = [w']) (h2 : ones [w'] = true) :
    ∃ hp', stepM ro ⟨hp, lw, lp⟩ (.st 1 (.c (pB (h0.length + 3))) (.c w')) = some (und, ⟨hp', min lw (h0.length + 3), cond (nonp [w']) lp (min lp (h0.length + 3))⟩) ∧ Cx t n v steps h0 hp' P now' start w' ∧ hp'.length = hp.length ∧ ∀ i, i ≠ h0.length + 3 → hp'[i]? = hp[i]? := by
  obtain ⟨hp', s1, s2, s3, s4⟩ := a.c.stG (ro := ro) (lw := lw) (lp := lp) (n := 1) (v := w') (vs' := [w']) h1 rfl rfl h2
  refine ⟨hp', s1, ⟨⟨by have := a.kp.1; omega, fun i hi => by rw [s4 i (by omega)]; exact a.kp.2 i hi⟩, a.d.keep (s4 _ (by omega)), a.s.keep (s4 _ (by omega)), a.m.keep (s4 _ (by omega)), s2, a.st.keep (s4 _ (by omega)), a.f.keep (s4 _ (by omega)), g.same fun b n c e => s4 b (by have := (g.blk e).1; omega)⟩, s3, s4⟩
theorem GW.cells {B : Nat} (g : GW hp B w now) : w.cells = [w] ∧ ones [w] = true := by
  rcases g with ⟨rfl, -⟩ | ⟨b, blk, rfl, -⟩
  · exact ⟨rfl, rfl⟩
  · exact ⟨rfl, rfl⟩
end
end Go.Proofs.YtpjjmdbkgkembaaDoor.T

/- The program's search for a ring that refuses: one number. -/
open Go.Vm
set_option linter.unusedVariables false
namespace Go.Proofs.YtpjjmdbkgkembaaDoor.T
open Go

theorem sums_in {t n : Int} {l : List Sp} (ok : Ok t n l) {now : List Int} {ss : List Sp} (st : St l now ss) : (-1000 * (ss.length : Int) ≤ loSum ss ∧ loSum ss ≤ 1000 * (ss.length : Int)) ∧ (-1000 * (ss.length : Int) ≤ hiSum ss ∧ hiSum ss ≤ 1000 * (ss.length : Int)) := by
  have hl := st.pre.len
  have key : ∀ k, k ≤ ss.length → (-1000 * (k : Int) ≤ loSum (ss.take k) ∧ loSum (ss.take k) ≤ 1000 * (k : Int)) ∧ (-1000 * (k : Int) ≤ hiSum (ss.take k) ∧ hiSum (ss.take k) ≤ 1000 * (k : Int)) := by
    intro k
    induction k with
    | zero => intro _; simp [loSum, hiSum]
    | succ k ih =>
      intro hk
      obtain ⟨i1, i2⟩ := ih (by omega)
      have hr := stepP_rng ok (st.pre.st k (by omega))
      rw [take_next (by omega), loSum_snoc, hiSum_snoc]
      generalize ss.getD k Sp.z = s at *
      constructor <;> constructor <;> omega
  have := key ss.length (Nat.le_refl _)
  rwa [List.take_length] at this
theorem last_in {t n : Int} {l : List Sp} (ok : Ok t n l) {now : List Int} {ss : List Sp} (st : St l now ss) (hne : now ≠ []) : ∃ e : Nat, lastT ss = (e : Int) ∧ e < 6 := by
  have hl := st.pre.len
  have hpos : 0 < now.length := List.length_pos_iff.2 hne
  have hr := stepP_rng ok (st.pre.st (now.length - 1) (by omega))
  obtain ⟨r1, r2, r3, r4⟩ := ok.r
  have hlast : lastT ss = (ss.getD (now.length - 1) Sp.z).t := by unfold lastT; rw [hl]
  rw [← hlast] at hr
  exact ⟨(lastT ss).toNat, by omega, by omega⟩
/-- how low what is written reaches -/
def Mok (h0 : Heap) (L : Nat) (m : Mm) (w : AVal) : Prop := h0.length ≤ m.lw ∧ h0.length ≤ m.lp ∧ m.lw ≤ L ∧ m.lp ≤ L ∧ L ≤ m.h.length ∧ (L ≤ m.lp → w.bel L = true)
section
variable {ro : List ABlk} {t n : Int} {v : AVal} {l : List Sp} {steps : Nat} {h0 : Heap}
theorem at_step {hp : Heap} {lw lp L : Nat} {P : Nat → Bool} {now : List Int} {start : Int} {w : AVal} {x : Int} (sp0 : IsSpans ro h0 v l) (ok : Ok t n l) (hx : -(l.length : Int) ≤ x ∧ x ≤ l.length) (cx : Cx t n v steps h0 hp P now start w) (mk : Mok h0 L ⟨hp, lw, lp⟩ w) (s : Sp) (c : Bool) (hs : step74V (stepP l x) = .tup [s.v, .b c]) :
    callM (callX F1 ro) ⟨hp, lw, lp⟩ 74 [demV t n v, .i .i64 x] = some (.tup [s.v, .b c], ⟨hp, lw, lp⟩) ∧
    stepM ro ⟨hp, lw, lp⟩ (.al 31 z4) = some (pB hp.length, ⟨hp ++ [some (blkOf 31 z4)], lw, lp⟩) ∧
    ∃ hp', stepM ro ⟨hp ++ [some (blkOf 31 z4)], lw, lp⟩ (.st 4 (.c (pB hp.length)) (.c s.v)) = some (und, ⟨hp', lw, lp⟩) ∧ Holds hp' hp.length s.vs ∧ Cx t n v steps h0 hp' P now start w ∧ Mok h0 L ⟨hp', lw, lp⟩ w ∧ hp.length < hp'.length := by
  obtain ⟨m1, m2, m3, m4, m5, m6⟩ := mk
  simp only at m1 m2 m3 m4 m5 m6
  have hlen := ok.len
  have h74 := step74 (ro := ro) (h := hp) (t := t) (n := n) (sp0.by cx.kp) ok (x := x) ⟨by omega, by omega⟩
  rw [hs] at h74
  obtain ⟨hp', s1, s2, s3, s4⟩ := (Holds.new hp 31 z4).stG (ro := ro) (lw := lw) (lp := lp) (n := 4) (v := s.v) (vs' := s.vs) rfl rfl rfl rfl
  have kp : Keep hp hp' := ⟨by rw [s3]; simp, fun i hi => by rw [s4 i (by omega)]; exact List.getElem?_append_left hi⟩
  have hl3 : hp'.length = hp.length + 1 := by rw [s3]; simp
  have e1 : min lw hp.length = lw := Nat.min_eq_left (by omega)
  rw [e1] at s1
  exact ⟨callM_pure h74 (by omega) (by omega), al_ok 31 z4, hp', s1, s2, cx.by kp, ⟨m1, m2, m3, m4, by simp only; omega, m6⟩, by omega⟩
/-- a number that isn't taken -/
theorem skip75 {hp : Heap} {lw lp L : Nat} {P : Nat → Bool} {now : List Int} {ss : List Sp} {start : Int} {w : AVal} {x x1 x2 : Int} (sp0 : IsSpans ro h0 v l) (ok : Ok t n l) (hx : -(l.length : Int) ≤ x ∧ x ≤ l.length) (cx : Cx t n v steps h0 hp P now start w) (mk : Mok h0 L ⟨hp, lw, lp⟩ w) (hno : ∀ s, stepP l x = some s → s.f ≠ lastT ss) :
    ∃ hp', g75_b1 (meansX F1 ro) ro (lastT ss) x1 x2 (pB (h0.length + 3)) (pB h0.length) (pB (h0.length + 2)) (pB (h0.length + 5)) x ⟨hp, lw, lp⟩ = some (.inl (x + 1, ⟨hp', lw, lp⟩)) ∧ Cx t n v steps h0 hp' P now start w ∧ Mok h0 L ⟨hp', lw, lp⟩ w := by
  have hlen := ok.len
  have sp := sp0.by cx.kp
  have d2 := cx.d.one (ro := ro) (l := lw) (p := lp) (k := 2) (by simp)
  have dA := cx.d.all (ro := ro) (l := lw) (p := lp) (n := 3) rfl
  simp only [List.getD_cons_zero, List.getD_cons_succ] at d2
  have e1 : (!decide ((l.length : Int) < x)) = true := by simp; omega
  have hw : Go.Vm.wr .i64 (x + 1) = x + 1 := wr_small (by omega) (by omega)
  cases hs : stepP l x with
  | none =>
    obtain ⟨a1, a2, hp', a3, a4, a5, a6, a7⟩ := at_step sp0 ok hx cx mk ⟨0, 0, 0, 0⟩ false (by rw [hs]; rfl)
    refine ⟨hp', ?_, a5, a6⟩
    simp only [g75_b1, p_faddr, bindO_some, d2, len_spans sp, asI_i, forceB_eq, ltI_eq, e1, cond_true, dA, meansX_call, a1, bindP_some, ext0, ext1, asB_b, a2, a3, Bool.not_false, forceI_eq, hw]
  | some s =>
    have hne := hno s hs
    obtain ⟨a1, a2, hp', a3, a4, a5, a6, a7⟩ := at_step sp0 ok hx cx mk s true (by rw [hs]; rfl)
    refine ⟨hp', ?_, a5, a6⟩
    have b0 := a4.one (ro := ro) (l := lw) (p := lp) (k := 0) (by simp)
    simp only [List.getD_cons_zero] at b0
    have e2 : (!(s.f == lastT ss)) = true := by simpa using hne
    simp only [g75_b1, p_faddr, bindO_some, d2, len_spans sp, asI_i, forceB_eq, ltI_eq, e1, cond_true, dA, meansX_call, a1, bindP_some, ext0, ext1, asB_b, a2, a3, Bool.not_true, cond_false, b0, eqI_eq, e2, forceI_eq, hw]
/-- a number that is taken -/
theorem take75 {hp : Heap} {lw lp L : Nat} {now : List Int} {ss : List Sp} {start : Int} {w : AVal} {x : Int} {s : Sp} {r : Option (List Int)} (sp0 : IsSpans ro h0 v l) (ok : Ok t n l) (hx : -(l.length : Int) ≤ x ∧ x ≤ l.length) (st : St l now ss) (h6 : now.length ≤ 6) (hL : h0.length + 6 ≤ L) (cx : Cx t n v steps h0 hp (frB (ss ++ [s])) now start w) (mk : Mok h0 L ⟨hp, lw, lp⟩ w) (hs : stepP l x = some s) (hf : s.f = lastT ss)
    (ih : ∀ hp w, Cx t n v steps h0 hp (frB (ss ++ [s])) (now ++ [x]) start w → ∃ c hp' lw lp, callX F1 ro 75 ([.i .i64 s.t, .i .i64 (loSum (ss ++ [s])), .i .i64 (hiSum (ss ++ [s]))] ++ capB6 h0.length) hp = some (.b c, hp', lw, lp) ∧ h0.length ≤ lw ∧ h0.length ≤ lp ∧ hp.length ≤ hp'.length ∧
      match (generalizing := false) r with
      | none => c = false ∧ ∃ w', Cx t n v steps h0 hp' (frB (ss ++ [s])) (now ++ [x]) start w'
      | some z => c = true ∧ ∃ P w', Cx t n v steps h0 hp' P z start w') :
    match (generalizing := false) r with
    | none => ∃ hp' lw' lp' w', g75_b1 (meansX F1 ro) ro (lastT ss) (loSum ss) (hiSum ss) (pB (h0.length + 3)) (pB h0.length) (pB (h0.length + 2)) (pB (h0.length + 5)) x ⟨hp, lw, lp⟩ = some (.inl (x + 1, ⟨hp', lw', lp'⟩)) ∧ Cx t n v steps h0 hp' (frB (ss ++ [s])) now start w' ∧ Mok h0 L ⟨hp', lw', lp'⟩ w'
    | some z => ∃ hp' lw' lp' P w', g75_b1 (meansX F1 ro) ro (lastT ss) (loSum ss) (hiSum ss) (pB (h0.length + 3)) (pB h0.length) (pB (h0.length + 2)) (pB (h0.length + 5)) x ⟨hp, lw, lp⟩ = some (.inr (.inr (true, ⟨hp', lw', lp'⟩))) ∧ Cx t n v steps h0 hp' P z start w' ∧ Mok h0 L ⟨hp', lw', lp'⟩ w' := by
  have hlen := ok.len
  have sp := sp0.by cx.kp
  have d2 := cx.d.one (ro := ro) (l := lw) (p := lp) (k := 2) (by simp)
  have dA := cx.d.all (ro := ro) (l := lw) (p := lp) (n := 3) rfl
  simp only [List.getD_cons_zero, List.getD_cons_succ] at d2
  have e1 : (!decide ((l.length : Int) < x)) = true := by simp; omega
  have hw : Go.Vm.wr .i64 (x + 1) = x + 1 := wr_small (by omega) (by omega)
  have hblt : ∀ b n c, w = .sl ⟨false, b, 0⟩ n c → b < hp.length := fun b n c e => (cx.g.blk e).2
  obtain ⟨a1, a2, hp1, a3, a4, a5, a6, a7⟩ := at_step sp0 ok hx cx mk s true (by rw [hs]; rfl)
  have b0 := a4.one (ro := ro) (l := lw) (p := lp) (k := 0) (by simp)
  simp only [List.getD_cons_zero] at b0
  have e2 : (!(s.f == lastT ss)) = false := by simpa using hf
  have hc0 := a5.c.one (ro := ro) (l := lw) (p := lp) (k := 0) (by simp)
  simp only [List.getD_cons_zero, Nat.add_zero] at hc0
  obtain ⟨m1, m2, m3, m4, m5, m6⟩ := a6
  simp only at m1 m2 m3 m4 m5 m6
  have hcl := cx.len
  obtain ⟨v2, hp2, v3, hp3, lw3, lp3, p1, p2, p3, p4, p5, p6, p7, p8, p9, q1, q2, q3⟩ := a5.g.push (ro := ro) (lw := lw) (lp := lp) (by have := a5.len; omega) (by omega) x
  have hk : ∀ i, i < h0.length + 6 → hp3[i]? = hp1[i]? := fun i hi => p5 i (by have := a5.len; omega) fun b n c e => by have := (a5.g.blk e).1; omega
  have c3 : Holds hp3 (h0.length + 3) [w] := a5.c.keep (hk _ (by omega))
  obtain ⟨hp4, s1, s2, s3, s4⟩ := c3.stG (ro := ro) (lw := lw3) (lp := lp3) (n := 1) (v := v3) (vs' := [v3]) q1 rfl rfl q2
  have hk4 : ∀ i, i < h0.length + 6 → i ≠ h0.length + 3 → hp4[i]? = hp1[i]? := fun i hi hne => by rw [s4 i hne, hk i hi]
  have cx4 : Cx t n v steps h0 hp4 (frB (ss ++ [s])) (now ++ [x]) start v3 :=
    ⟨⟨by have := a5.kp.1; omega, fun i hi => by rw [hk4 i (by omega) (by omega)]; exact a5.kp.2 i hi⟩, a5.d.keep (hk4 _ (by omega) (by omega)), a5.s.keep (hk4 _ (by omega) (by omega)), a5.m.keep (hk4 _ (by omega) (by omega)), s2, a5.st.keep (hk4 _ (by omega) (by omega)), a5.f.keep (hk4 _ (by omega) (by omega)), p3.same fun b n c e => s4 b (by have := (p3.blk e).1; omega)⟩
  rw [q3] at s1
  simp only [cond_false] at s1
  have a44 : Holds hp4 hp.length s.vs := a4.keep (by rw [s4 _ (by omega), p5 _ a7 fun b n c e => by have := hblt b n c e; omega])
  have t1 := a44.one (ro := ro) (l := min lw3 (h0.length + 3)) (p := min lp3 (h0.length + 3)) (k := 1) (by simp)
  have t2 := a44.one (ro := ro) (l := min lw3 (h0.length + 3)) (p := min lp3 (h0.length + 3)) (k := 2) (by simp)
  have t3 := a44.one (ro := ro) (l := min lw3 (h0.length + 3)) (p := min lp3 (h0.length + 3)) (k := 3) (by simp)
  have tf := cx4.f.one (ro := ro) (l := min lw3 (h0.length + 3)) (p := min lp3 (h0.length + 3)) (k := 0) (by simp)
  simp only [List.getD_cons_zero, List.getD_cons_succ, Nat.add_zero] at t1 t2 t3 tf
  obtain ⟨bl, bh⟩ := sums_in ok st
  have hsl := st.pre.len
  have hr := stepP_rng ok hs
  have w2 : Go.Vm.wr .i64 (loSum ss + s.lo) = loSum (ss ++ [s]) := by rw [loSum_snoc, wr_small (by omega) (by omega)]
  have w3 : Go.Vm.wr .i64 (hiSum ss + s.hi) = hiSum (ss ++ [s]) := by rw [hiSum_snoc, wr_small (by omega) (by omega)]
  obtain ⟨c, hp5, lw5, lp5, i1, i2, i3, i4, i5⟩ := ih hp4 v3 cx4
  have i1' : callyM (callX F1 ro) (meansX F1 ro).round ⟨hp4, min lw3 (h0.length + 3), min lp3 (h0.length + 3)⟩ (.fn 75 [] (capB6 h0.length)) [.i .i64 s.t, .i .i64 (loSum (ss ++ [s])), .i .i64 (hiSum (ss ++ [s]))] = some (.b c, ⟨hp5, min (min lw3 (h0.length + 3)) lw5, min (min lp3 (h0.length + 3)) lp5⟩) := by
    simp only [callyM, callvM, List.nil_append]
    exact callM_eq (m := ⟨hp4, min lw3 (h0.length + 3), min lp3 (h0.length + 3)⟩) i1
  have u1 := p8 h0.length (by omega) m1
  have u2 := p9 h0.length (by omega) m2
  have hl5 : L ≤ hp5.length := by omega
  have hmok : ∀ (hp' : Heap) (w' : AVal) (k1 k2 : Nat), hp'.length = hp5.length → h0.length ≤ k1 → k1 ≤ h0.length + 3 → h0.length ≤ k2 → k2 ≤ h0.length + 3 → Mok h0 L ⟨hp', k1, k2⟩ w' := fun hp' w' k1 k2 h1 h2 h3 h4 h5 => ⟨h2, h4, by simp only; omega, by simp only; omega, by simp only; omega, fun h => by simp only at h; omega⟩
  cases r with
  | some z =>
    obtain ⟨rfl, P, w', cx5⟩ := i5
    refine ⟨hp5, min (min lw3 (h0.length + 3)) lw5, min (min lp3 (h0.length + 3)) lp5, P, w', ?_, cx5, hmok hp5 w' _ _ rfl ?_ ?_ ?_ ?_⟩
    · simp only [g75_b1, p_faddr, bindO_some, d2, len_spans sp, asI_i, forceB_eq, ltI_eq, e1, cond_true, dA, meansX_call, a1, bindP_some, ext0, ext1, asB_b, a2, a3, Bool.not_true, cond_false, b0, eqI_eq, e2, hc0, p1, p2, s1, tf, t1, t2, t3, forceI_eq, w2, w3, i1']
    · exact Nat.le_min.2 ⟨Nat.le_min.2 ⟨u1, by omega⟩, i2⟩
    · exact Nat.le_trans (Nat.min_le_left _ _) (Nat.min_le_right _ _)
    · exact Nat.le_min.2 ⟨Nat.le_min.2 ⟨u2, by omega⟩, i3⟩
    · exact Nat.le_trans (Nat.min_le_left _ _) (Nat.min_le_right _ _)
  | none =>
    obtain ⟨rfl, w', cx5⟩ := i5
    have hn0 := cx5.c.one (ro := ro) (l := min (min lw3 (h0.length + 3)) lw5) (p := min (min lp3 (h0.length + 3)) lp5) (k := 0) (by simp)
    simp only [List.getD_cons_zero, Nat.add_zero] at hn0
    obtain ⟨w6, g1, g2⟩ := cx5.g.cut (k := now.length) (by simp)
    rw [List.take_left' rfl] at g2
    obtain ⟨g3, g4⟩ := g2.cells
    obtain ⟨hp6, s5, cx6, s6, s7⟩ := cx5.put (ro := ro) (lw := min (min lw3 (h0.length + 3)) lw5) (lp := min (min lp3 (h0.length + 3)) lp5) g2 g3 g4
    have w4 : Go.Vm.wr .i64 (((now ++ [x]).length : Int) - 1) = ((now.length : Nat) : Int) := by
      rw [List.length_append, List.length_singleton, wr_small (by omega) (by omega)]; omega
    have bb := cx5.g.len
    refine ⟨hp6, min (min (min lw3 (h0.length + 3)) lw5) (h0.length + 3), cond (nonp [w6]) (min (min lp3 (h0.length + 3)) lp5) (min (min (min lp3 (h0.length + 3)) lp5) (h0.length + 3)), w6, ?_, cx6, hmok hp6 w6 _ _ s6 ?_ ?_ ?_ ?_⟩
    · simp only [g75_b1, p_faddr, bindO_some, d2, len_spans sp, asI_i, forceB_eq, ltI_eq, e1, cond_true, dA, meansX_call, a1, bindP_some, ext0, ext1, asB_b, a2, a3, Bool.not_true, cond_false, b0, eqI_eq, e2, hc0, p1, p2, s1, tf, t1, t2, t3, forceI_eq, w2, w3, i1', hn0, bb, w4, g1, s5, hw]
    · exact Nat.le_min.2 ⟨Nat.le_min.2 ⟨Nat.le_min.2 ⟨u1, by omega⟩, i2⟩, by omega⟩
    · exact Nat.min_le_right _ _
    · cases nonp [w6]
      · exact Nat.le_min.2 ⟨Nat.le_min.2 ⟨Nat.le_min.2 ⟨u2, by omega⟩, i3⟩, by omega⟩
      · exact Nat.le_min.2 ⟨Nat.le_min.2 ⟨u2, by omega⟩, i3⟩
    · cases nonp [w6]
      · exact Nat.min_le_right _ _
      · exact Nat.le_trans (Nat.min_le_left _ _) (Nat.min_le_right _ _)
end
end Go.Proofs.YtpjjmdbkgkembaaDoor.T

/- The program's search for a ring that refuses. -/
open Go.Vm
set_option linter.unusedVariables false
namespace Go.Proofs.YtpjjmdbkgkembaaDoor.T
open Go
section
variable {ro : List ABlk} {t n : Int} {v : AVal} {l : List Sp} {steps : Nat} {h0 : Heap}
theorem okX_ne {ss : List Sp} {x : Int} (hne : ss ≠ []) (hnot : ¬ ∃ j, j < ss.length ∧ (ss.getD j Sp.z).f = lastT ss) : okX l ss x = match stepP l x with
    | none => none
    | some s => if s.f = lastT ss then some s else none := by
  unfold okX
  cases stepP l x with
  | none => rfl
  | some s =>
    simp only [if_neg hne]
    by_cases h : s.f = lastT ss
    · rw [if_pos h, if_pos ⟨h, by rw [h]; exact hnot⟩]
    · rw [if_neg h, if_neg (fun k => h k.1)]
theorem restS_all {k : Nat} {now : List Int} {ss : List Sp} {i : Nat} (h : ∀ x, okX l ss x = none) : restS t l k now ss i = none := by
  unfold restS
  rw [List.findSome?_eq_none_iff]
  exact fun x _ => trX_no (h x)
def After75 (ro : List ABlk) (t n : Int) (v : AVal) (l : List Sp) (steps : Nat) (h0 hp : Heap) (now : List Int) (ss : List Sp) (start : Int) (r : Option (List Int)) : Prop :=
  ∃ c hp' lw lp, callX F1 ro 75 ([.i .i64 (lastT ss), .i .i64 (loSum ss), .i .i64 (hiSum ss)] ++ capB6 h0.length) hp = some (.b c, hp', lw, lp) ∧ h0.length ≤ lw ∧ h0.length ≤ lp ∧ hp.length ≤ hp'.length ∧
    match r with
    | none => c = false ∧ ∃ w', Cx t n v steps h0 hp' (frB ss) now start w'
    | some z => c = true ∧ ∃ P w', Cx t n v steps h0 hp' P z start w'
theorem fin_len {L l p : Nat} {c : Bool} {hp hp' : Heap} (h : finM L (.b c) ⟨hp, l, p⟩ = some (.b c, hp', l, p)) (hl : L ≤ hp.length) : L ≤ hp'.length := by
  unfold finM gc at h
  simp only [Mm.st] at h
  split at h
  · simp only [Option.some.injEq, Prod.mk.injEq] at h
    rw [← h.2.1]; simp; omega
  · simp only [Option.some.injEq, Prod.mk.injEq] at h
    rw [← h.2.1]; exact hl
theorem finish75 (sp0 : IsSpans ro h0 v l) (ok : Ok t n l) (h2 : 2 ≤ steps) (h6 : steps ≤ 6) : ∀ (k : Nat) (hp : Heap) (w : AVal) (now : List Int) (ss : List Sp) (start : Int), Cx t n v steps h0 hp (frB ss) now start w → St l now ss → now ≠ [] → start = (ss.getD 0 Sp.z).f → now.length + k = steps →
    After75 ro t n v l steps h0 hp now ss start (SF t l k now ss) := by
  intro k
  induction k with
  | zero =>
    intro hp w now ss start cx st hne hst hk
    obtain ⟨bl, bh⟩ := sums_in ok st
    have hsl := st.pre.len
    have c0 := cx.c.one (ro := ro) (l := hp.length) (p := hp.length) (k := 0) (by simp)
    have s0 := cx.s.one (ro := ro) (l := hp.length) (p := hp.length) (k := 0) (by simp)
    have t0 := cx.st.one (ro := ro) (l := hp.length) (p := hp.length) (k := 0) (by simp)
    have dA := cx.d.all (ro := ro) (l := hp.length) (p := hp.length) (n := 3) rfl
    simp only [List.getD_cons_zero, Nat.add_zero] at c0 s0 t0
    have e1 : ((now.length : Int) == (steps : Int)) = true := by simp; omega
    have hcl := cx.len
    have h55 := callM_pure (refuse55 (ro := ro) (h := hp) (t := t) (n := n) (v := v) (a := loSum ss) (b := hiSum ss) ok.r (by omega)) (Nat.le_refl _) (Nat.le_refl _)
    have fin : ∀ c : Bool, finM hp.length (tupA [.b c]) ⟨hp, hp.length, hp.length⟩ = some (.b c, hp, hp.length, hp.length) := fun c => fin_same
    refine ⟨leafP t ss, hp, hp.length, hp.length, g75_ok (meansX_ok F1 ro) rfl ?_, by omega, by omega, Nat.le_refl _, ?_⟩
    · unfold g75
      simp only [c0, s0, bindO_some, cx.g.len, asI_i, forceB_eq, eqI_eq, e1, cond_true, t0]
      unfold leafP
      rw [← hst]
      by_cases hc : lastT ss = start
      · have e2 : (lastT ss == start) = true := by simpa using hc
        simp only [e2, cond_true, dA, bindO_some, meansX_call, h55, bindP_some, asB_b]
        rw [fin, decide_eq_true hc, Bool.true_and]
      · have e2 : (lastT ss == start) = false := by simpa using hc
        simp only [e2, cond_false, bindO_some]
        rw [fin, decide_eq_false hc, Bool.false_and]
    · unfold SF
      by_cases hl : leafP t ss = true
      · rw [if_pos hl]; exact ⟨hl, _, _, cx⟩
      · rw [if_neg hl]; exact ⟨by simpa using hl, _, cx⟩
  | succ k IH =>
    intro hp w now ss start cx st hne hst hk
    obtain ⟨e, he, he6⟩ := last_in ok st hne
    have hsl := st.pre.len
    have hlen := ok.len
    have hssne : ss ≠ [] := fun h => hne (List.length_eq_zero_iff.1 (by rw [← hsl, h]; rfl))
    have c0 := cx.c.one (ro := ro) (l := hp.length) (p := hp.length) (k := 0) (by simp)
    have s0 := cx.s.one (ro := ro) (l := hp.length) (p := hp.length) (k := 0) (by simp)
    have mk := cx.m.one (ro := ro) (l := hp.length) (p := hp.length) (k := e) (by rw [metF_len]; exact he6)
    rw [metF_get he6] at mk
    simp only [List.getD_cons_zero, Nat.add_zero] at c0 s0
    have e1 : ((now.length : Int) == (steps : Int)) = false := by simp; omega
    have hcl := cx.len
    have hix : evP .e (.ixA 6 1 (.c (pB (h0.length + 2))) (.c (.i .i64 (lastT ss)))) = some (.p (some ⟨false, h0.length + 2, 0 + e * 1⟩)) := p_ixA he he6
    have mk' : ldM ro ⟨hp, hp.length, hp.length⟩ true 1 (.p (some ⟨false, h0.length + 2, 0 + e * 1⟩)) = some (.b (frB ss e)) := by rw [Nat.mul_one]; exact mk
    have hS : SF t l (k + 1) now ss = restS t l k now ss 0 := rfl
    rw [hS]
    by_cases hm : frB ss e = true
    · have hex : ∃ j, j < ss.length ∧ (ss.getD j Sp.z).f = lastT ss := by rw [he]; exact of_decide_eq_true hm
      rw [hm] at mk'
      rw [restS_all fun x => by
        cases ho : okX l ss x with
        | none => rfl
        | some s =>
          obtain ⟨-, -, h3⟩ := okX_some ho
          obtain ⟨h4, h5⟩ := h3 hssne
          exact absurd hex (by rw [← h4]; exact h5)]
      refine ⟨false, hp, hp.length, hp.length, g75_ok (meansX_ok F1 ro) rfl ?_, by omega, by omega, Nat.le_refl _, rfl, w, cx⟩
      unfold g75
      simp only [c0, s0, bindO_some, cx.g.len, asI_i, forceB_eq, eqI_eq, e1, cond_false, hix, mk', asB_b, cond_true, tupA]
      exact fin_same
    · have hm : frB ss e = false := by simpa using hm
      have hnot : ¬ ∃ j, j < ss.length ∧ (ss.getD j Sp.z).f = lastT ss := by rw [he]; exact of_decide_eq_false hm
      rw [hm] at mk'
      obtain ⟨hp1, k1, cx1, k3⟩ := cx.mark (ro := ro) (lw := hp.length) (lp := hp.length) (c := true) he6
      have sp1 := sp0.by cx1.kp
      have d2 := cx1.d.one (ro := ro) (l := min hp.length (h0.length + 2)) (p := hp.length) (k := 2) (by simp)
      simp only [List.getD_cons_zero, List.getD_cons_succ] at d2
      have hw0 : Go.Vm.wr .i64 (0 - (l.length : Int)) = 0 - (l.length : Int) := wr_small (by omega) (by omega)
      have key : ∀ (j i : Nat) (hq : Heap) (lw lp : Nat) (w : AVal), i + j = 2 * l.length + 1 → Cx t n v steps h0 hq (fun i => if i = e then true else frB ss i) now start w → Mok h0 hp.length ⟨hq, lw, lp⟩ w →
          ∃ o, loopX (fun s : Int × Mm => g75_b1 (meansX F1 ro) ro (lastT ss) (loSum ss) (hiSum ss) (pB (h0.length + 3)) (pB h0.length) (pB (h0.length + 2)) (pB (h0.length + 5)) s.1 s.2) ((i : Int) - (l.length : Int), ⟨hq, lw, lp⟩) = some o ∧
            match restS t l k now ss i with
            | none => ∃ hq' lw' lp' w', o = .inl ⟨hq', lw', lp'⟩ ∧ Cx t n v steps h0 hq' (fun i => if i = e then true else frB ss i) now start w' ∧ Mok h0 hp.length ⟨hq', lw', lp'⟩ w'
            | some z => ∃ hq' lw' lp' P w', o = .inr (true, ⟨hq', lw', lp'⟩) ∧ Cx t n v steps h0 hq' P z start w' ∧ Mok h0 hp.length ⟨hq', lw', lp'⟩ w' := by
        intro j
        induction j with
        | zero =>
          intro i hq lw lp w hi cq mo
          obtain rfl : i = 2 * l.length + 1 := by omega
          have d2 := cq.d.one (ro := ro) (l := lw) (p := lp) (k := 2) (by simp)
          simp only [List.getD_cons_zero, List.getD_cons_succ] at d2
          refine ⟨.inl ⟨hq, lw, lp⟩, loopX_out ?_, ?_⟩
          · have e2 : (!decide ((l.length : Int) < ((2 * l.length + 1 : Nat) : Int) - (l.length : Int))) = false := by simp; omega
            simp only [g75_b1, p_faddr, bindO_some, d2, len_spans (sp0.by cq.kp), asI_i, forceB_eq, ltI_eq, e2, cond_false]
          · rw [restS_end]; exact ⟨hq, lw, lp, w, rfl, cq, mo⟩
        | succ j ihj =>
          intro i hq lw lp w hi cq mo
          have hnext : (i : Int) - (l.length : Int) + 1 = ((i + 1 : Nat) : Int) - (l.length : Int) := by omega
          have hx : -(l.length : Int) ≤ (i : Int) - (l.length : Int) ∧ (i : Int) - (l.length : Int) ≤ l.length := by omega
          have hoe := okX_ne (l := l) (x := (i : Int) - (l.length : Int)) hssne hnot
          cases ho : okX l ss ((i : Int) - (l.length : Int)) with
          | none =>
            rw [ho] at hoe
            obtain ⟨hq1, a1, a2, a3⟩ := skip75 (x1 := loSum ss) (x2 := hiSum ss) sp0 ok hx cq mo (fun s hs hf => by
              rw [hs] at hoe
              have h9 : (none : Option Sp) = if s.f = lastT ss then some s else none := hoe
              rw [if_pos hf] at h9
              exact absurd h9 (by simp))
            rw [restS_none (by omega) (trX_no ho)]
            obtain ⟨o, o1, o2⟩ := ihj (i + 1) hq1 lw lp w (by omega) a2 a3
            rw [hnext] at a1
            exact ⟨o, loopX_on a1 o1, o2⟩
          | some s =>
            obtain ⟨hs, -, h3⟩ := okX_some ho
            obtain ⟨hf, -⟩ := h3 hssne
            have hfr := frB_snoc (ss := ss) (s := s) (e := e) (hf.trans he)
            rw [← hfr] at cq
            have st' := st.snoc ho
            have ih := fun hp w (cx : Cx t n v steps h0 hp (frB (ss ++ [s])) (now ++ [(i : Int) - (l.length : Int)]) start w) => IH hp w (now ++ [(i : Int) - (l.length : Int)]) (ss ++ [s]) start cx st' (by simp) (by rw [hst]; rw [getD_snoc (List.length_pos_iff.2 hssne)]) (by simp; omega)
            cases hh : SF t l k (now ++ [(i : Int) - (l.length : Int)]) (ss ++ [s]) with
            | none =>
              have tk := take75 (r := none) sp0 ok hx st (by omega) hcl cq mo hs hf (fun hp w cx => by
                have := ih hp w cx
                unfold After75 at this
                rw [hh, lastT_snoc] at this
                exact this)
              obtain ⟨hq1, lw1, lp1, w1, a1, a2, a3⟩ := tk
              rw [restS_none (by omega) ((trX_yes ho).trans hh)]
              rw [hfr] at a2
              obtain ⟨o, o1, o2⟩ := ihj (i + 1) hq1 lw1 lp1 w1 (by omega) a2 a3
              rw [hnext] at a1
              exact ⟨o, loopX_on a1 o1, o2⟩
            | some z =>
              have tk := take75 (r := some z) sp0 ok hx st (by omega) hcl cq mo hs hf (fun hp w cx => by
                have := ih hp w cx
                unfold After75 at this
                rw [hh, lastT_snoc] at this
                exact this)
              obtain ⟨hq1, lw1, lp1, P, w1, a1, a2, a3⟩ := tk
              rw [restS_some (by omega) ((trX_yes ho).trans hh)]
              exact ⟨_, loopX_out a1, hq1, lw1, lp1, P, w1, rfl, a2, a3⟩
      have hbel := cx.g.bel
      obtain ⟨o, o1, o2⟩ := key (2 * l.length + 1) 0 hp1 (min hp.length (h0.length + 2)) hp.length w (by omega) cx1 ⟨by simp only; omega, by simp only; omega, Nat.min_le_left _ _, Nat.le_refl _, by simp only; omega, fun _ => hbel⟩
      have e0 : ((0 : Nat) : Int) - (l.length : Int) = 0 - (l.length : Int) := rfl
      rw [e0] at o1
      cases hh : restS t l k now ss 0 with
      | none =>
        rw [hh] at o2
        obtain ⟨hq, lw, lp, w', rfl, cq, m1, m2, m3, m4, m5, m6⟩ := o2
        simp only at m1 m2 m3 m4 m5 m6
        obtain ⟨hq2, k4, cx2, k5⟩ := cq.mark (ro := ro) (lw := lw) (lp := lp) (c := false) he6
        have hback : (fun i => if i = e then false else (if i = e then true else frB ss i)) = frB ss := by
          funext i
          by_cases hi : i = e
          · subst hi; rw [if_pos rfl, hm]
          · rw [if_neg hi, if_neg hi]
        rw [hback] at cx2
        obtain ⟨hq3, f1, f2⟩ := cx2.fin (L := hp.length) (l := min lw (h0.length + 2)) (p := lp) (c := false) hcl m6
        refine ⟨false, hq3, min lw (h0.length + 2), lp, g75_ok (meansX_ok F1 ro) rfl ?_, Nat.le_min.2 ⟨m1, by omega⟩, m2, fin_len f1 (by omega), rfl, w', f2⟩
        unfold g75
        simp only [c0, s0, bindO_some, cx.g.len, asI_i, forceB_eq, eqI_eq, e1, cond_false, hix, mk', asB_b, k1, bindP_some, p_faddr, d2, len_spans sp1, forceI_eq, hw0, meansX_loop, o1, k4, tupA]
        exact f1
      | some z =>
        rw [hh] at o2
        obtain ⟨hq, lw, lp, P, w', rfl, cq, m1, m2, m3, m4, m5, m6⟩ := o2
        simp only at m1 m2 m3 m4 m5 m6
        obtain ⟨hq3, f1, f2⟩ := cq.fin (L := hp.length) (l := lw) (p := lp) (c := true) hcl m6
        refine ⟨true, hq3, lw, lp, g75_ok (meansX_ok F1 ro) rfl ?_, m1, m2, fin_len f1 (by omega), rfl, P, w', f2⟩
        unfold g75
        simp only [c0, s0, bindO_some, cx.g.len, asI_i, forceB_eq, eqI_eq, e1, cond_false, hix, mk', asB_b, k1, bindP_some, p_faddr, d2, len_spans sp1, forceI_eq, hw0, meansX_loop, o1, tupA]
        exact f1
end
end Go.Proofs.YtpjjmdbkgkembaaDoor.T

/- The program's search for a ring that refuses, of so many steps. -/
open Go.Vm
set_option linter.unusedVariables false
namespace Go.Proofs.YtpjjmdbkgkembaaDoor.T
open Go
section
variable {ro : List ABlk} {t n : Int} {v : AVal} {l : List Sp} {steps : Nat} {h : Heap}
theorem al_at {hp : Heap} {k lw lp : Nat} (e : Nat) (z : List AVal) (hk : hp.length = k) : ∃ hp', stepM ro ⟨hp, lw, lp⟩ (.al e z) = some (pB k, ⟨hp', lw, lp⟩) ∧ Holds hp' k z ∧ hp'.length = k + 1 ∧ Keep hp hp' := by
  subst hk
  exact ⟨_, al_ok e z, Holds.new hp e z, by simp, Keep.app _⟩
theorem bx_at {hp : Heap} {k lw lp : Nat} (e : Nat) {z : List AVal} {m : Nat} (hm : z.length = m) (hk : hp.length = k) : ∃ hp', stepM ro ⟨hp, lw, lp⟩ (.bx e m (.c (.agg z))) = some (pB k, ⟨hp', lw, lp⟩) ∧ Holds hp' k z ∧ hp'.length = k + 1 ∧ Keep hp hp' := by
  subst hk
  exact ⟨_, bx_ok e hm, Holds.new hp e z, by simp, Keep.app _⟩
theorem bxI_at {hp : Heap} {k lw lp : Nat} (e : Nat) (x : Int) (hk : hp.length = k) : ∃ hp', stepM ro ⟨hp, lw, lp⟩ (.bx e 1 (.c (.i .i64 x))) = some (pB k, ⟨hp', lw, lp⟩) ∧ Holds hp' k [.i .i64 x] ∧ hp'.length = k + 1 ∧ Keep hp hp' := by
  subst hk
  exact ⟨hp ++ [some (blkOf e [.i .i64 x])], rfl, Holds.new hp e [.i .i64 x], by simp, Keep.app _⟩
theorem Keep.of {hp hp' : Heap} {b : Nat} (k : Keep h hp) (hb : h.length ≤ b) (hl : hp'.length = hp.length) (hi : ∀ i, i ≠ b → hp'[i]? = hp[i]?) : Keep h hp' := ⟨by have := k.1; omega, fun i hi' => by rw [hi i (by omega)]; exact k.2 i hi'⟩
/-- what the search begins with -/
theorem begin57 (hv1 : v.one = true) : ∃ hp, (∀ {β : Type} (k : AVal → AVal → AVal → AVal → AVal → AVal → Mm → Option β),
      (bindP (stepM ro ⟨h, h.length, h.length⟩ (.bx 55 3 (.c (demV t n v)))) fun v2 m_1 =>
      bindP (stepM ro m_1 (.bx 3 1 (.c (.i .i64 (steps : Int))))) fun v3 m_2 =>
      bindP (stepM ro m_2 (.al 96 [(AVal.b false), (AVal.b false), (AVal.b false), (AVal.b false), (AVal.b false), (AVal.b false)])) fun v5 m_3 =>
      bindP (stepM ro m_3 (.al 25 [AVal.nsl])) fun v6 m_4 =>
      bindP (stepM ro m_4 (.al 3 [(AVal.i IntKind.i64 0)])) fun v7 m_5 =>
      bindP (stepM ro m_5 (.st 1 (.c v7) (.c (.i .i64 0)))) fun vn m_6 =>
      bindP (stepM ro m_6 (.al 74 [AVal.nfn])) fun v8 m_7 =>
      bindO (some (AVal.fn 75 [] [v6, v3, v7, v2, v5, v8])) fun v11 =>
      bindP (stepM ro m_7 (.st 1 (.c v8) (.c v11))) fun vn_1 m_8 => k v2 v3 v5 v6 v7 v8 m_8) = k (pB h.length) (pB (h.length + 1)) (pB (h.length + 2)) (pB (h.length + 3)) (pB (h.length + 4)) (pB (h.length + 5)) ⟨hp, h.length, h.length⟩) ∧
    Cx t n v steps h hp (fun _ => false) [] 0 .nsl := by
  obtain ⟨h1, a1, b1, c1, d1⟩ := bx_at (ro := ro) (hp := h) (lw := h.length) (lp := h.length) (k := h.length) 55 (z := [.i .i64 t, .i .i64 n, v]) (m := 3) rfl rfl
  obtain ⟨h2, a2, b2, c2, d2⟩ := bxI_at (ro := ro) (hp := h1) (lw := h.length) (lp := h.length) (k := h.length + 1) 3 (steps : Int) c1
  obtain ⟨h3, a3, b3, c3, d3⟩ := al_at (ro := ro) (hp := h2) (lw := h.length) (lp := h.length) (k := h.length + 2) 96 [(AVal.b false), (AVal.b false), (AVal.b false), (AVal.b false), (AVal.b false), (AVal.b false)] c2
  obtain ⟨h4, a4, b4, c4, d4⟩ := al_at (ro := ro) (hp := h3) (lw := h.length) (lp := h.length) (k := h.length + 3) 25 [AVal.nsl] c3
  obtain ⟨h5, a5, b5, c5, d5⟩ := al_at (ro := ro) (hp := h4) (lw := h.length) (lp := h.length) (k := h.length + 4) 3 [(AVal.i IntKind.i64 0)] c4
  have k5 : Keep h h5 := (((d1.trans d2).trans d3).trans d4).trans d5
  obtain ⟨h6, a6, b6, c6, e6, d6⟩ := b5.st (ro := ro) (h := h) (n := 1) (v := .i .i64 0) (vs' := [.i .i64 0]) rfl rfl rfl rfl (by omega) k5
  obtain ⟨h7, a7, b7, c7, d7⟩ := al_at (ro := ro) (hp := h6) (lw := h.length) (lp := h.length) (k := h.length + 5) 74 [AVal.nfn] (by omega)
  obtain ⟨h8, a8, b8, c8, e8, d8⟩ := b7.st (ro := ro) (h := h) (n := 1) (v := .fn 75 [] (capB6 h.length)) (vs' := [.fn 75 [] (capB6 h.length)]) rfl rfl rfl rfl (by omega) (d6.trans d7)
  have up : ∀ {b : Nat} {vs : List AVal}, Holds h5 b vs → b ≠ h.length + 4 → b < h.length + 5 → Holds h8 b vs := fun a h1 h2 => ((a.keep (e6 _ h1)).by d7).keep (e8 _ (by omega))
  refine ⟨h8, fun k => ?_, d8, up ((((b1.by d2).by d3).by d4).by d5) (by omega) (by omega), up (((b2.by d3).by d4).by d5) (by omega) (by omega), up ((b3.by d4).by d5) (by omega) (by omega), up (b4.by d5) (by omega) (by omega), (b6.by d7).keep (e8 _ (by omega)), b8, .inl ⟨rfl, rfl⟩⟩
  rw [a1, bindP_some, a2, bindP_some, a3, bindP_some, a4, bindP_some, a5, bindP_some, a6, bindP_some, a7, bindP_some, bindO_some, a8, bindP_some]
theorem okX_low {x : Int} (hx : x ≤ 0) : okX l [] x = none := by
  unfold okX
  cases stepP l x with
  | none => rfl
  | some s => simp only [if_true]; rw [if_neg (by omega)]
theorem restS_low {k : Nat} : ∀ j, j ≤ l.length + 1 → restS t l k [] [] 0 = restS t l k [] [] j
  | 0, _ => rfl
  | j + 1, hj => by
    rw [restS_low j (by omega)]
    exact restS_none (by omega) (trX_no (okX_low (by omega)))
theorem okX_first {i : Nat} (hi : i < l.length) : okX l [] (((l.length + 1 + i : Nat) : Int) - (l.length : Int)) = some (l.getD i Sp.z) := by
  have e : (((l.length + 1 + i : Nat) : Int) - (l.length : Int)) = (i : Int) + 1 := by omega
  have hs : stepP l ((i : Int) + 1) = some (l.getD i Sp.z) := by
    unfold stepP
    rw [if_pos (by omega)]
    rw [show ((i : Int) + 1).toNat - 1 = i by omega]
  rw [e]
  unfold okX
  rw [hs]
  simp only [if_true]
  rw [if_pos (by omega)]
theorem sum_one (s : Sp) : loSum [s] = s.lo ∧ hiSum [s] = s.hi ∧ lastT [s] = s.t := by
  refine ⟨?_, ?_, rfl⟩
  · simp [loSum]
  · simp [hiSum]
theorem round57 (sp0 : IsSpans ro h v l) (ok : Ok t n l) {k : Nat} (hst : steps = k + 1) (h2 : 2 ≤ steps) (h6 : steps ≤ 6) {i : Nat} (hi : i < l.length) {hp : Heap} {now : List Int} {st0 : Int} {w : AVal} (cx : Cx t n v steps h hp (fun _ => false) now st0 w) :
    match (generalizing := false) SF t l k [(i : Int) + 1] [l.getD i Sp.z] with
    | none => ∃ hp' now' st' w', g57_b0 (meansX F1 ro) ro (pB (h.length + 2)) (pB (h.length + 3)) (pB (h.length + 4)) (pB (h.length + 5)) v l.length (i : Int) ⟨hp, h.length, h.length⟩ = some (.inl (((i + 1 : Nat) : Int), ⟨hp', h.length, h.length⟩)) ∧ Cx t n v steps h hp' (fun _ => false) now' st' w'
    | some z => ∃ hp' u, g57_b0 (meansX F1 ro) ro (pB (h.length + 2)) (pB (h.length + 3)) (pB (h.length + 4)) (pB (h.length + 5)) v l.length (i : Int) ⟨hp, h.length, h.length⟩ = some (.inr (.inr (u, ⟨hp', h.length, h.length⟩))) ∧ Keep h hp' ∧ GW hp' (h.length + 6) u z := by
  obtain ⟨q, q1, q2, q3, q4⟩ := at_span (sp0.by cx.kp) hi
  have ho := okX_first hi
  have st' := (St.nil l).snoc ho
  have e : (((l.length + 1 + i : Nat) : Int) - (l.length : Int)) = (i : Int) + 1 := by omega
  rw [e, List.nil_append, List.nil_append] at st'
  obtain ⟨s1, s2, s3⟩ := sum_one (l.getD i Sp.z)
  have hspk := ok.sp i hi
  obtain ⟨r1, r2, r3, r4⟩ := ok.r
  have hlen := ok.len
  have hq2 := q2 h.length h.length
  generalize hs : l.getD i Sp.z = s at *
  unfold spOk at hspk
  have hcl := cx.len
  obtain ⟨ev, he, he6⟩ : ∃ ev : Nat, s.f = (ev : Int) ∧ ev < 6 := ⟨s.f.toNat, by omega, by omega⟩
  obtain ⟨h1, a1, b1, c1, d1⟩ := al_at (ro := ro) (hp := hp) (lw := h.length) (lp := h.length) (k := hp.length) 31 z4 rfl
  obtain ⟨hp1, a2, b2, c2, e2, d2⟩ := b1.st (ro := ro) (h := h) (n := 4) (v := s.v) (vs' := s.vs) rfl rfl rfl rfl cx.kp.1 (cx.kp.trans d1)
  have kp1 : Keep hp hp1 := ⟨by omega, fun i hi => by rw [e2 i (by omega)]; exact d1.2 i hi⟩
  have cx1 := cx.by kp1
  have f0 := b2.one (ro := ro) (l := h.length) (p := h.length) (k := 0) (by simp)
  simp only [List.getD_cons_zero] at f0
  obtain ⟨hp2, a3, b3, c3, e3, d3⟩ := cx1.st.st (ro := ro) (h := h) (n := 1) (v := .i .i64 s.f) (vs' := [.i .i64 s.f]) rfl rfl rfl rfl (by omega) cx1.kp
  have l0 := b3.one (ro := ro) (l := h.length) (p := h.length) (k := 0) (by simp)
  simp only [List.getD_cons_zero, Nat.add_zero] at l0
  have hix : evP .e (.ixA 6 1 (.c (pB (h.length + 2))) (.c (.i .i64 s.f))) = some (.p (some ⟨false, h.length + 2, 0 + ev * 1⟩)) := p_ixA he he6
  have cx2 : Cx t n v steps h hp2 (fun _ => false) now s.f w := ⟨d3, cx1.d.keep (e3 _ (by omega)), cx1.s.keep (e3 _ (by omega)), cx1.m.keep (e3 _ (by omega)), cx1.c.keep (e3 _ (by omega)), b3, cx1.f.keep (e3 _ (by omega)), cx1.g.same fun b n c e => e3 b (by have := (cx1.g.blk e).1; omega)⟩
  obtain ⟨hp3, a4, cx3, c4⟩ := cx2.mark (ro := ro) (lw := h.length) (lp := h.length) (c := true) he6
  rw [Nat.min_eq_left (Nat.le_add_right _ _)] at a4
  have hfr : (fun i => if i = ev then true else false) = frB [s] := by
    have := frB_snoc (ss := []) (s := s) (e := ev) he
    rw [List.nil_append, frB_nil] at this
    rw [this]
  rw [hfr] at cx3
  have n0 := cx3.c.one (ro := ro) (l := h.length) (p := h.length) (k := 0) (by simp)
  simp only [List.getD_cons_zero, Nat.add_zero] at n0
  obtain ⟨w0, g1, g2⟩ := cx3.g.cut (k := 0) (Nat.zero_le _)
  have e0 : ((0 : Nat) : Int) = 0 := rfl
  rw [e0] at g1
  rw [List.take_zero] at g2
  have b24 : Holds hp3 hp.length s.vs := (b2.keep (e3 _ (by omega))).keep (by
    obtain ⟨hpx, y1, y2, y3, y4⟩ := cx2.m.setG (ro := ro) (lw := h.length) (lp := h.length) (k := ev) (v := .b true) (by rw [metF_len]; exact he6) rfl rfl rfl
    rw [Nat.min_eq_left (Nat.le_add_right _ _)] at y1
    rw [y1] at a4
    have : hpx = hp3 := by
      simp only [Option.some.injEq, Prod.mk.injEq, true_and] at a4
      injection a4
    rw [← this, y4 _ (by omega)])
  obtain ⟨v2, hp4, v3, hp5, lw3, lp3, p1, p2, p3, p4, p5, p6, p7, p8, p9, u1, u2, u3⟩ := g2.push (ro := ro) (lw := h.length) (lp := h.length) (by have := cx3.len; omega) (by simp) ((i : Int) + 1)
  have el : lw3 = h.length := Nat.le_antisymm p6 (p8 _ (by omega) (Nat.le_refl _))
  have ep : lp3 = h.length := Nat.le_antisymm p7 (p9 _ (by omega) (Nat.le_refl _))
  subst el ep
  rw [List.nil_append] at p3
  have hk5 : ∀ i, i < h.length + 6 → hp5[i]? = hp3[i]? := fun i hi => p5 i (by have := cx3.len; omega) fun b n c e => by have := (g2.blk e).1; omega
  have k5 : Keep h hp5 := ⟨by have := cx3.kp.1; omega, fun i hi => by rw [hk5 i (by omega)]; exact cx3.kp.2 i hi⟩
  obtain ⟨hp6, a5, b5, c5, e5, d5⟩ := (cx3.c.keep (hk5 _ (by omega))).st (ro := ro) (h := h) (n := 1) (v := v3) (vs' := [v3]) u1 rfl rfl u2 (by omega) k5
  have hk6 : ∀ i, i < h.length + 6 → i ≠ h.length + 3 → hp6[i]? = hp3[i]? := fun i hi hne => by rw [e5 i hne, hk5 i hi]
  have cx6 : Cx t n v steps h hp6 (frB [s]) [(i : Int) + 1] s.f v3 :=
    ⟨d5, cx3.d.keep (hk6 _ (by omega) (by omega)), cx3.s.keep (hk6 _ (by omega) (by omega)), cx3.m.keep (hk6 _ (by omega) (by omega)), b5, cx3.st.keep (hk6 _ (by omega) (by omega)), cx3.f.keep (hk6 _ (by omega) (by omega)), p3.same fun b n c e => e5 b (by have := (p3.blk e).1; omega)⟩
  have hw0lt : ∀ b n c, w0 = .sl ⟨false, b, 0⟩ n c → b < hp.length := fun b n c e => by
    have hg : GW hp (h.length + 6) w now := cx.g
    rcases hg with ⟨rfl, hn⟩ | ⟨b', blk, hw, h1, h2, h3⟩
    · have : w0 = .nsl := by
        have : evP .e (.slS 1 (.c AVal.nsl) none (some (.c (.i .i64 0))) none) = some .nsl := rfl
        rw [g1] at this; exact Option.some.inj this
      rw [this] at e; cases e
    · rw [hw] at g1
      simp only [evP, ev_slS, opd, sl_lh, Option.map_some, Option.map_none, sbound, capB] at g1
      rw [e] at g1
      have hz : (Nat.ble 0 now.length) = true := by rw [Nat.ble_eq]; omega
      simp only [hz, cond_true, Option.some.injEq, AVal.sl.injEq, Loc.mk.injEq, true_and] at g1
      rw [← g1.1.1]
      exact lget_lt h2
  have b26 : Holds hp6 hp.length s.vs := (b24.keep (p5 _ (by omega) fun b n c e => by have := hw0lt b n c e; omega)).keep (e5 _ (by omega))
  have t1 := b26.one (ro := ro) (l := h.length) (p := h.length) (k := 1) (by simp)
  have t2 := b26.one (ro := ro) (l := h.length) (p := h.length) (k := 2) (by simp)
  have t3 := b26.one (ro := ro) (l := h.length) (p := h.length) (k := 3) (by simp)
  have tf := cx6.f.one (ro := ro) (l := h.length) (p := h.length) (k := 0) (by simp)
  simp only [List.getD_cons_zero, List.getD_cons_succ, Nat.add_zero] at t1 t2 t3 tf
  have af := finish75 sp0 ok h2 h6 k hp6 v3 [(i : Int) + 1] [s] s.f cx6 st' (by simp) rfl (by simp; omega)
  unfold After75 at af
  rw [s1, s2, s3] at af
  obtain ⟨c, hp7, lw7, lp7, i1, i2, i3, i4, i5⟩ := af
  have i1' : callyM (callX F1 ro) (meansX F1 ro).round ⟨hp6, h.length, h.length⟩ (.fn 75 [] (capB6 h.length)) [.i .i64 s.t, .i .i64 s.lo, .i .i64 s.hi] = some (.b c, ⟨hp7, h.length, h.length⟩) := by
    simp only [callyM, callvM, List.nil_append]
    have := callM_eq (m := ⟨hp6, h.length, h.length⟩) i1
    rw [Nat.min_eq_left i2, Nat.min_eq_left i3] at this
    exact this
  have w1 : Go.Vm.wr .i64 ((i : Int) + 1) = (i : Int) + 1 := wr_small (by omega) (by omega)
  have e9 : ((i + 1 : Nat) : Int) = (i : Int) + 1 := by omega
  cases hh : SF t l k [(i : Int) + 1] [s] with
  | some z =>
    rw [hh] at i5
    obtain ⟨rfl, P, w', cx7⟩ := i5
    have n7 := cx7.c.one (ro := ro) (l := h.length) (p := h.length) (k := 0) (by simp)
    simp only [List.getD_cons_zero, Nat.add_zero] at n7
    refine ⟨hp7, w', ?_, cx7.kp, cx7.g⟩
    simp only [g57_b0, forceB_eq, ltI_eq, lt_yes hi, cond_true, q1, hq2, bindO_some, a1, a2, bindP_some, p_faddr, f0, asI_i, a3, l0, hix, a4, n0, g1, forceI_eq, w1, p1, p2, a5, tf, t1, t2, t3, meansX_call, i1', asB_b, n7]
  | none =>
    rw [hh] at i5
    obtain ⟨rfl, w', cx7⟩ := i5
    have l7 := cx7.st.one (ro := ro) (l := h.length) (p := h.length) (k := 0) (by simp)
    simp only [List.getD_cons_zero, Nat.add_zero] at l7
    obtain ⟨hp8, a8, cx8, c8⟩ := cx7.mark (ro := ro) (lw := h.length) (lp := h.length) (c := false) he6
    rw [Nat.min_eq_left (Nat.le_add_right _ _)] at a8
    have hback : (fun i => if i = ev then false else frB [s] i) = fun _ => false := by
      funext i
      rw [← hfr]
      by_cases hi : i = ev <;> simp [hi]
    rw [hback] at cx8
    refine ⟨hp8, _, _, w', ?_, cx8⟩
    simp only [g57_b0, forceB_eq, ltI_eq, lt_yes hi, cond_true, q1, hq2, bindO_some, a1, a2, bindP_some, p_faddr, f0, asI_i, a3, l0, hix, a4, n0, g1, forceI_eq, w1, p1, p2, a5, tf, t1, t2, t3, meansX_call, i1', asB_b, cond_false, l7, a8, e9]
theorem refusing57 (sp0 : IsSpans ro h v l) (ok : Ok t n l) (h2 : 2 ≤ steps) (h6 : steps ≤ 6) :
    ∃ u hp, callX F1 ro 57 [demV t n v, .i .i64 (steps : Int)] h = some (u, hp, h.length, h.length) ∧ Keep h hp ∧ FirstR ro h.length hp u (SF t l steps [] []) := by
  obtain ⟨k, hk⟩ : ∃ k, steps = k + 1 := ⟨steps - 1, by omega⟩
  obtain ⟨hp, a1, cx⟩ := begin57 (ro := ro) (t := t) (n := n) (v := v) (steps := steps) (h := h) sp0.one
  have key : ∀ (j i : Nat) (hq : Heap) (now : List Int) (st0 : Int) (w : AVal), i + j = l.length → Cx t n v steps h hq (fun _ => false) now st0 w →
      ∃ o, loopX (fun s : Int × Mm => g57_b0 (meansX F1 ro) ro (pB (h.length + 2)) (pB (h.length + 3)) (pB (h.length + 4)) (pB (h.length + 5)) v l.length s.1 s.2) ((i : Int), ⟨hq, h.length, h.length⟩) = some o ∧
        match restS t l k [] [] (l.length + 1 + i) with
        | none => ∃ hp', o = .inl ⟨hp', h.length, h.length⟩ ∧ Keep h hp'
        | some z => ∃ u hp', o = .inr (u, ⟨hp', h.length, h.length⟩) ∧ Keep h hp' ∧ GW hp' (h.length + 6) u z := by
    intro j
    induction j with
    | zero =>
      intro i hq now st0 w hi cq
      obtain rfl : i = l.length := by omega
      refine ⟨.inl ⟨hq, h.length, h.length⟩, loopX_out ?_, ?_⟩
      · simp only [g57_b0, forceB_eq, ltI_eq, lt_no, cond_false]
      · rw [show l.length + 1 + l.length = 2 * l.length + 1 by omega, restS_end]; exact ⟨hq, rfl, cq.kp⟩
    | succ j ihj =>
      intro i hq now st0 w hi cq
      have ho := okX_first (l := l) (i := i) (by omega)
      have e : (((l.length + 1 + i : Nat) : Int) - (l.length : Int)) = (i : Int) + 1 := by omega
      have rd := round57 (ro := ro) sp0 ok hk h2 h6 (i := i) (by omega) cq
      have ht := trX_yes (t := t) (k := k) (now := []) ho
      rw [e, List.nil_append, List.nil_append] at ht
      cases hh : SF t l k [(i : Int) + 1] [l.getD i Sp.z] with
      | none =>
        rw [hh] at rd
        obtain ⟨hq1, now1, st1, w1, r1, r2⟩ := rd
        rw [restS_none (by omega) (by rw [e]; exact ht.trans hh)]
        obtain ⟨o, o1, o2⟩ := ihj (i + 1) hq1 now1 st1 w1 (by omega) r2
        exact ⟨o, loopX_on r1 o1, o2⟩
      | some z =>
        rw [hh] at rd
        obtain ⟨hq1, u, r1, r2, r3⟩ := rd
        rw [restS_some (by omega) (by rw [e]; exact ht.trans hh)]
        exact ⟨_, loopX_out r1, u, hq1, rfl, r2, r3⟩
  obtain ⟨o, o1, o2⟩ := key l.length 0 hp [] 0 .nsl (by omega) cx
  have e0 : ((0 : Nat) : Int) = 0 := rfl
  rw [e0] at o1
  have d2 := cx.d.one (ro := ro) (l := h.length) (p := h.length) (k := 2) (by simp)
  simp only [List.getD_cons_zero, List.getD_cons_succ] at d2
  have hS : SF t l steps [] [] = restS t l k [] [] (l.length + 1 + 0) := by
    rw [hk]
    exact restS_low (l.length + 1) (Nat.le_refl _)
  have hsl : ∀ z, SF t l steps [] [] = some z → z ≠ [] := fun z hz h0 => by
    have := SF_len _ _ _ _ hz
    rw [h0] at this; simp at this; omega
  rw [← hS] at o2
  cases hh : SF t l steps [] [] with
  | none =>
    rw [hh] at o2
    obtain ⟨hp', rfl, kp⟩ := o2
    refine ⟨.nsl, h, g57_ok (meansX_ok F1 ro) rfl ?_, Keep.refl h, rfl⟩
    unfold g57
    rw [a1]
    simp only [p_faddr, bindO_some, d2, len_spans (sp0.by cx.kp), asI_i, meansX_loop, o1, tupA]
    exact fin_keep kp rfl
  | some z =>
    rw [hh] at o2
    obtain ⟨u, hp', rfl, kp, gw⟩ := o2
    obtain ⟨nb1, nb2⟩ := gw.nbel (hsl z hh) (L := h.length) (by omega)
    refine ⟨u, hp', g57_ok (meansX_ok F1 ro) rfl ?_, kp, gw.row, nb2, nb1⟩
    unfold g57
    rw [a1]
    simp only [p_faddr, bindO_some, d2, len_spans (sp0.by cx.kp), asI_i, meansX_loop, o1, tupA]
    exact fin_new nb1
end
end Go.Proofs.YtpjjmdbkgkembaaDoor.T

/- Ring, the program's and the specification's; the law. -/
open Go.Vm
set_option linter.unusedVariables false
namespace Go.Proofs.YtpjjmdbkgkembaaDoor.T
open Go

/-- a loop whose state is known for each round -/
theorem loop_st {S R : Type} {b : S → Option (S ⊕ R)} (st : Nat → S) (n : Nat) (step : Nat → Option R) (r0 : R) (hout : b (st n) = some (.inr r0)) (hin : ∀ i, i < n → b (st i) = some (match step i with | some r => .inr r | none => .inl (st (i + 1)))) :
    ∀ (k i : Nat), i + k = n → loopX b (st i) = some ((firstS step k i).getD r0)
  | 0, i, hi => by
    simp only [Nat.add_zero] at hi
    subst hi
    exact loopX_out hout
  | k + 1, i, hi => by
    have h1 := hin i (by omega)
    unfold firstS
    cases hs : step i with
    | some r => rw [hs] at h1; exact loopX_out h1
    | none =>
      rw [hs] at h1
      exact loopX_on h1 (loop_st st n step r0 hout hin k (i + 1) (by omega))
/-- one that looks for something -/
theorem loop_if {S R : Type} {b : S → Option (S ⊕ R)} (st : Nat → S) (n : Nat) (P : Nat → Prop) [DecidablePred P] (r0 r1 : R) (hout : b (st n) = some (.inr r0)) (hin : ∀ i, i < n → P i → b (st i) = some (.inl (st (i + 1)))) (hno : ∀ i, i < n → ¬ P i → b (st i) = some (.inr r1)) :
    loopX b (st 0) = some (if (∀ i, i < n → P i) then r0 else r1) := by
  have := loop_st st n (fun i => if P i then none else some r1) r0 hout (fun i hi => by
    by_cases hp : P i
    · rw [if_pos hp]; exact hin i hi hp
    · rw [if_neg hp]; exact hno i hi hp) n 0 (by omega)
  rw [this]
  by_cases hall : ∀ i, i < n → P i
  · rw [if_pos hall, firstS_none.2 fun j _ h2 => by rw [if_pos (hall j (by omega))]]; rfl
  · rw [if_neg hall]
    cases hf : firstS (fun i => if P i then none else some r1) n 0 with
    | none =>
      refine absurd (fun i hi => ?_) hall
      have := firstS_none.1 hf i (by omega) (by omega)
      simpa using this
    | some r =>
      obtain ⟨j, -, -, h3, -⟩ := firstS_some hf
      by_cases hc : P j
      · rw [if_pos hc] at h3; cases h3
      · rw [if_neg hc] at h3; cases h3; rfl
theorem same19 {ro : List ABlk} {h : Heap} {a b : AVal} {x y : List Int} (ha : IsRow ro h a x) (hb : IsRow ro h b y) (hx : x.length ≤ 1000000) :
    callX F1 ro 19 [a, b] h = some (.b (decide (x = y)), h, h.length, h.length) := by
  refine g19_ok (meansX_ok F1 ro) rfl ?_
  unfold g19
  simp only [len_row ha, len_row hb, bindO_some, asI_i, forceB_eq, eqI_eq, meansX_loop]
  by_cases hl : x.length = y.length
  · have e : ((x.length : Int) == (y.length : Int)) = true := by simp [hl]
    simp only [e, Bool.not_true, cond_false]
    have hloop := loop_if (b := fun s => g19_b0 (meansX F1 ro) ro a b ⟨h, h.length, h.length⟩ s) (fun i => (i : Int)) x.length (fun i => x.getD i 0 = y.getD i 0) (.inl ()) (.inr false) ?_ ?_ ?_
    · have e0 : ((0 : Nat) : Int) = 0 := rfl
      rw [e0] at hloop
      rw [hloop]
      by_cases hxy : x = y
      · rw [if_pos (fun i _ => by rw [hxy])]
        simp only [bindO_some, hxy, decide_true, tupA]
        exact fin_pure rfl
      · rw [if_neg (fun hall => hxy (List.ext_getElem hl fun i h1 h2 => by have := hall i h1; simpa [List.getD, h1, h2] using this))]
        simp only [bindO_some, hxy, decide_false, tupA]
        exact fin_pure rfl
    · simp only [g19_b0, len_row ha, bindO_some, asI_i, forceB_eq, ltI_eq]
      simp
    · intro i hi hp
      obtain ⟨p, h1, h2, h3⟩ := at_row (m := ⟨h, h.length, h.length⟩) rfl ha hi
      obtain ⟨p', h1', h2', h3'⟩ := at_row (m := ⟨h, h.length, h.length⟩) rfl hb (by omega : i < y.length)
      have e := lt_yes hi
      have e2 : (!(x.getD i 0 == y.getD i 0)) = false := by rw [hp]; simp
      simp only [g19_b0, len_row ha, bindO_some, asI_i, forceB_eq, ltI_eq, e, cond_true, h1, h3, h1', h3', eqI_eq, e2, cond_false, forceI_eq]
      rw [wr_id' (by omega) (by omega)]
      rfl
    · intro i hi hp
      obtain ⟨p, h1, h2, h3⟩ := at_row (m := ⟨h, h.length, h.length⟩) rfl ha hi
      obtain ⟨p', h1', h2', h3'⟩ := at_row (m := ⟨h, h.length, h.length⟩) rfl hb (by omega : i < y.length)
      have e := lt_yes hi
      have e2 : (!(x.getD i 0 == y.getD i 0)) = true := by simpa using hp
      simp only [g19_b0, len_row ha, bindO_some, asI_i, forceB_eq, ltI_eq, e, cond_true, h1, h3, h1', h3', eqI_eq, e2]
  · have e : ((x.length : Int) == (y.length : Int)) = false := by simp; omega
    have hxy : ¬ (x = y) := fun e => hl (by rw [e])
    simp only [e, Bool.not_false, cond_true, hxy, decide_false, tupA]
    exact fin_pure rfl

section
variable {ro : List ABlk} {t n : Int} {v : AVal} {l : List Sp} {h : Heap}
/-- the first ring that refuses, of m steps or more -/
def RR (t : Int) (l : List Sp) : Nat → Nat → Option (List Int)
  | 0, m => none
  | j + 1, m => match SF t l m [] [] with
    | some z => some z
    | none => RR t l j (m + 1)
theorem RR_len {t : Int} {l : List Sp} : ∀ (j m : Nat) (z : List Int), RR t l j m = some z → z.length ≤ j + m
  | 0, m, z, h => by cases h
  | j + 1, m, z, h => by
    unfold RR at h
    split at h
    · rename_i hs
      cases h
      have := SF_len _ _ _ _ hs
      simp at this; omega
    · have := RR_len j (m + 1) z h
      omega
def ringA (t n : Int) (l : List Sp) : Option (List Int) := if rdE t n l = 0 then RR t l (n.toNat + 1 - 2) 2 else none
def ringE (t n : Int) (l : List Sp) : Int := if rdE t n l = 0 then (if (ringA t n l).isSome then 0 else 10) else rdE t n l
theorem fin_two {hp : Heap} {u : AVal} {x : Int} (hb : u.bel h.length = false) : finM h.length (tupA [u, .i .i64 x]) ⟨hp, h.length, h.length⟩ = some (.tup [u, .i .i64 x], hp, h.length, h.length) := by
  refine fin_new ?_
  simp only [tupA, AVal.bel, bels]
  rw [hb]; rfl
theorem fin_nil {hp : Heap} {x : Int} (k : Keep h hp) : finM h.length (tupA [AVal.nsl, .i .i64 x]) ⟨hp, h.length, h.length⟩ = some (.tup [.nsl, .i .i64 x], h, h.length, h.length) := fin_keep k rfl
theorem ringA_no {e : Int} (he : rdE t n l = e) (hne : e ≠ 0) : ringA t n l = none ∧ ringE t n l = e := by
  unfold ringE ringA
  rw [he, if_neg hne, if_neg hne]; exact ⟨rfl, rfl⟩
theorem ringA_yes (he : rdE t n l = 0) : ringA t n l = RR t l (n.toNat + 1 - 2) 2 ∧ ringE t n l = (if (RR t l (n.toNat + 1 - 2) 2).isSome then 0 else 10) := by
  unfold ringE ringA
  rw [if_pos he, if_pos he]; exact ⟨rfl, rfl⟩
/-- a loop over the steps -/
theorem loop_RR {b : Int × Mm → Option ((Int × Mm) ⊕ (Mm ⊕ (AVal × Int × Mm)))} (hn : 0 ≤ n) (h6 : n ≤ 6) (I : Heap → Prop) (hI : ∀ hp hp', I hp → Keep hp hp' → I hp')
    (hb : ∀ (m : Nat) (hp : Heap), 2 ≤ m → (m : Int) ≤ n → Keep h hp → I hp → ∃ u hp', Keep hp hp' ∧ FirstR ro h.length hp' u (SF t l m [] []) ∧ ∀ c, evP .e (.nilcmp true (.c u)) = some (.b c) → b ((m : Int), ⟨hp, h.length, h.length⟩) = some (if c then .inr (.inr (u, 0, ⟨hp', h.length, h.length⟩)) else .inl ((m : Int) + 1, ⟨hp', h.length, h.length⟩)))
    (ho : ∀ (m : Nat) (hp : Heap), n < (m : Int) → b ((m : Int), ⟨hp, h.length, h.length⟩) = some (.inr (.inl ⟨hp, h.length, h.length⟩))) :
    ∀ (j m : Nat) (hp : Heap), j = n.toNat + 1 - m → 2 ≤ m → Keep h hp → I hp → ∃ o, loopX b ((m : Int), ⟨hp, h.length, h.length⟩) = some o ∧
      match RR t l j m with
      | none => ∃ hp', o = .inl ⟨hp', h.length, h.length⟩ ∧ Keep h hp'
      | some z => ∃ u hp', o = .inr (u, 0, ⟨hp', h.length, h.length⟩) ∧ Keep h hp' ∧ IsRow ro hp' u z ∧ u.bel h.length = false
  | 0, m, hp, hj, h2, kp, ip => by
    exact ⟨_, loopX_out (ho m hp (by omega)), hp, rfl, kp⟩
  | j + 1, m, hp, hj, h2, kp, ip => by
    obtain ⟨u, hp', k1, fr, st⟩ := hb m hp h2 (by omega) kp ip
    cases hs : SF t l m [] [] with
    | some z =>
      rw [hs] at fr
      obtain ⟨f1, f2, f3⟩ := fr
      have e : RR t l (j + 1) m = some z := by unfold RR; rw [hs]
      rw [e]
      exact ⟨_, loopX_out (st true (nilcmp_ne f1 f2)), u, hp', rfl, kp.trans k1, f1, f3⟩
    | none =>
      rw [hs] at fr
      have hu : u = .nsl := fr
      subst hu
      have e : RR t l (j + 1) m = RR t l j (m + 1) := by conv => lhs; unfold RR; rw [hs]
      rw [e]
      have s1 := st false rfl
      obtain ⟨o, o1, o2⟩ := loop_RR hn h6 I hI hb ho j (m + 1) hp' (by omega) (by omega) (kp.trans k1) (hI _ _ ip k1)
      exact ⟨o, loopX_on s1 o1, o2⟩

theorem ring33 (a : IsSpans ro h v l) : ∃ u hp, callX F1 ro 33 [.i .i64 t, .i .i64 n, v] h = some (.tup [u, .i .i64 (ringE t n l)], hp, h.length, h.length) ∧ Keep h hp ∧ IsRow ro hp u ((ringA t n l).getD []) := by
  have h20 := callM_pure (spans20 (ro := ro) (t := t) (n := n) a) (Nat.le_refl _) (Nat.le_refl _)
  by_cases he : rdE t n l = 0
  · have ok := rdE_ok.1 he
    obtain ⟨r1, r2, r3, r4⟩ := ok.r
    obtain ⟨q1, q2⟩ := ringA_yes he
    rw [he] at h20
    obtain ⟨o, o1, o2⟩ := loop_RR (ro := ro) (t := t) (n := n) (l := l) (h := h) (b := fun s => g33_b0 (meansX F1 ro) ro t n v s.1 s.2) (by omega) r4 (fun _ => True) (fun _ _ _ _ => trivial) (fun m hp h2 hm kp _ => by
        obtain ⟨u, hp', e1, k1, f1⟩ := ring58 (many := m) ok h2 (by omega) m hp .nsl [] [] (GV.nil _ _ _ _) (a.by kp) (St.nil l) (by simp)
        have e1' := callM_eq (m := ⟨hp, h.length, h.length⟩) e1
        simp only [Nat.min_eq_left kp.1] at e1'
        refine ⟨u, hp', k1, f1 h.length kp.1 (fun h0 => by omega), fun c hc => ?_⟩
        have c1 : (!decide (n < (m : Int))) = true := by simp; omega
        have w1 : Go.Vm.wr .i64 ((m : Int) + 1) = (m : Int) + 1 := wr_small (by omega) (by omega)
        simp only [g33_b0, forceB_eq, ltI_eq, c1, cond_true, meansX_call, e1', bindP_some, hc, bindO_some, asB_b, forceI_eq, w1]
        cases c <;> rfl) (fun m hp hm => by
        have c1 : (!decide (n < (m : Int))) = false := by simp; omega
        simp only [g33_b0, forceB_eq, ltI_eq, c1, cond_false]) (n.toNat + 1 - 2) 2 h rfl (Nat.le_refl _) (Keep.refl h) trivial
    have e2 : ((2 : Nat) : Int) = 2 := rfl
    rw [e2] at o1
    rw [← q1] at o2
    rw [q2, ← q1]
    cases hh : ringA t n l with
    | none =>
      rw [hh] at o2
      obtain ⟨hp', rfl, kp⟩ := o2
      refine ⟨.nsl, h, g33_ok (meansX_ok F1 ro) rfl ?_, Keep.refl h, .inl ⟨rfl, rfl⟩⟩
      unfold g33
      simp only [meansX_call, h20, bindP_some, asI_i, forceB_eq, eqI_eq, beq_self_eq_true, Bool.not_true, cond_false, meansX_loop, o1, bindO_some]
      exact fin_nil kp
    | some z =>
      rw [hh] at o2
      obtain ⟨u, hp', rfl, kp, ir, nb⟩ := o2
      refine ⟨u, hp', g33_ok (meansX_ok F1 ro) rfl ?_, kp, ir⟩
      unfold g33
      simp only [meansX_call, h20, bindP_some, asI_i, forceB_eq, eqI_eq, beq_self_eq_true, Bool.not_true, cond_false, meansX_loop, o1, bindO_some]
      exact fin_two nb
  · obtain ⟨q1, q2⟩ := ringA_no rfl he
    rw [q1, q2]
    refine ⟨.nsl, h, g33_ok (meansX_ok F1 ro) rfl ?_, Keep.refl h, .inl ⟨rfl, rfl⟩⟩
    unfold g33
    have e : (rdE t n l == 0) = false := by simpa using he
    simp only [meansX_call, h20, bindP_some, asI_i, forceB_eq, eqI_eq, e, Bool.not_false, cond_true]
    exact fin_nil (Keep.refl h)

theorem ring32 (a : IsSpans ro h v l) : ∃ u hp, callX F1 ro 32 [.i .i64 t, .i .i64 n, v] h = some (.tup [u, .i .i64 (ringE t n l)], hp, h.length, h.length) ∧ Keep h hp ∧ IsRow ro hp u ((ringA t n l).getD []) := by
  have hs := callM_pure (read43 (ro := ro) (t := t) (n := n) a) (Nat.le_refl _) (Nat.le_refl _)
  have hal := al_ok (ro := ro) (hp := h) (l := h.length) (p := h.length) 55 z3
  by_cases he : rdE t n l = 0
  · have ok := rdE_ok.1 he
    obtain ⟨r1, r2, r3, r4⟩ := ok.r
    obtain ⟨q1, q2⟩ := ringA_yes he
    have hd : demR t n v l = demV t n v := by simp only [demR, he, if_true]
    rw [he, hd] at hs
    obtain ⟨hp1, s1, s2, s3, s4, s5⟩ := (Holds.new h 55 z3).st (ro := ro) (h := h) (n := 3) (v := demV t n v) (vs' := [.i .i64 t, .i .i64 n, v]) rfl rfl rfl (ones3 a.one) (Nat.le_refl _) (Keep.app _)
    obtain ⟨o, o1, o2⟩ := loop_RR (ro := ro) (t := t) (n := n) (l := l) (h := h) (b := fun s => g32_b0 (meansX F1 ro) ro n (.p (some ⟨false, h.length, 0⟩)) s.1 s.2) (by omega) r4 (fun hp => Holds hp h.length [.i .i64 t, .i .i64 n, v]) (fun hp hp' g k => g.by k) (fun m hp h2 hm kp g => by
        obtain ⟨u, hp', e1, k1, f1⟩ := refusing57 (steps := m) (a.by kp) ok h2 (by omega)
        have e1' := callM_eq (m := ⟨hp, h.length, h.length⟩) e1
        simp only [Nat.min_eq_left kp.1] at e1'
        have hld := g.all (ro := ro) (l := h.length) (p := h.length) (n := 3) rfl
        refine ⟨u, hp', k1, ?_, fun c hc => ?_⟩
        · cases hq : SF t l m [] [] with
          | none => rw [hq] at f1; exact f1
          | some z =>
            rw [hq] at f1
            obtain ⟨f2, f3, f4⟩ := f1
            refine ⟨f2, f3, ?_⟩
            have hle := kp.1
            rcases f2 with ⟨rfl, -⟩ | ⟨q, cap, blk, rfl, -⟩
            · exact absurd rfl f3
            · simp only [AVal.bel, Bool.or_eq_false_iff] at f4 ⊢
              refine ⟨f4.1, ?_⟩
              have f5 := f4.2
              cases hb : Nat.blt q.b h.length with
              | false => rfl
              | true =>
                rw [Nat.blt_eq] at hb
                have : Nat.blt q.b hp.length = true := by rw [Nat.blt_eq]; omega
                rw [this] at f5; cases f5
        · have c1 : (!decide (n < (m : Int))) = true := by simp; omega
          have w1 : Go.Vm.wr .i64 ((m : Int) + 1) = (m : Int) + 1 := wr_small (by omega) (by omega)
          simp only [g32_b0, forceB_eq, ltI_eq, c1, cond_true, hld, meansX_call, e1', bindP_some, hc, bindO_some, asB_b, forceI_eq, w1]
          cases c <;> rfl) (fun m hp hm => by
        have c1 : (!decide (n < (m : Int))) = false := by simp; omega
        simp only [g32_b0, forceB_eq, ltI_eq, c1, cond_false]) (n.toNat + 1 - 2) 2 hp1 rfl (Nat.le_refl _) s5 s2
    have e2 : ((2 : Nat) : Int) = 2 := rfl
    rw [e2] at o1
    rw [← q1] at o2
    rw [q2, ← q1]
    cases hh : ringA t n l with
    | none =>
      rw [hh] at o2
      obtain ⟨hp', rfl, kp⟩ := o2
      refine ⟨.nsl, h, g32_ok (meansX_ok F1 ro) rfl ?_, Keep.refl h, .inl ⟨rfl, rfl⟩⟩
      unfold g32
      simp only [meansX_call, hs, bindP_some, ext0, ext1, bindO_some, asI_i, hal, s1, forceB_eq, eqI_eq, beq_self_eq_true, Bool.not_true, cond_false, meansX_loop, o1]
      exact fin_nil kp
    | some z =>
      rw [hh] at o2
      obtain ⟨u, hp', rfl, kp, ir, nb⟩ := o2
      refine ⟨u, hp', g32_ok (meansX_ok F1 ro) rfl ?_, kp, ir⟩
      unfold g32
      simp only [meansX_call, hs, bindP_some, ext0, ext1, bindO_some, asI_i, hal, s1, forceB_eq, eqI_eq, beq_self_eq_true, Bool.not_true, cond_false, meansX_loop, o1]
      exact fin_two nb
  · obtain ⟨q1, q2⟩ := ringA_no rfl he
    have hd : demR t n v l = .agg z3 := by simp only [demR, he, if_false]
    rw [hd] at hs
    obtain ⟨hp1, s1, s2, s3, s4, s5⟩ := (Holds.new h 55 z3).st (ro := ro) (h := h) (n := 3) (v := .agg z3) (vs' := z3) rfl rfl rfl rfl (Nat.le_refl _) (Keep.app _)
    rw [q1, q2]
    refine ⟨.nsl, h, g32_ok (meansX_ok F1 ro) rfl ?_, Keep.refl h, .inl ⟨rfl, rfl⟩⟩
    unfold g32
    have e : (rdE t n l == 0) = false := by simpa using he
    simp only [meansX_call, hs, bindP_some, ext0, ext1, bindO_some, asI_i, hal, s1, forceB_eq, eqI_eq, e, Bool.not_false, cond_true]
    exact fin_nil s5
theorem ringA_len (t n : Int) (l : List Sp) : ((ringA t n l).getD []).length ≤ 1000000 := by
  cases hh : ringA t n l with
  | none => simp
  | some z =>
    by_cases he : rdE t n l = 0
    · have ok := rdE_ok.1 he
      obtain ⟨r1, r2, r3, r4⟩ := ok.r
      rw [(ringA_yes he).1] at hh
      have := RR_len _ _ _ hh
      simp only [Option.getD_some]
      omega
    · rw [(ringA_no rfl he).1] at hh; cases hh

theorem law6 {ro : List ABlk} {t n : Int} {v : AVal} {l : List Sp} (a : IsSpans ro [] v l) : ∃ h' lw lp, callX F1 ro 6 [.i .i64 t, .i .i64 n, v] [] = some (.b true, h', lw, lp) := by
  suffices h : ∃ q, g6 (meansX F1 ro) ro t n v ⟨[], 0, 0⟩ = some q ∧ q.1 = .b true by
    obtain ⟨⟨u, h', lw, lp⟩, h1, rfl⟩ := h
    exact ⟨h', lw, lp, g6_ok (meansX_ok F1 ro) rfl h1⟩
  have p0 : ∀ {hp : Heap} {f : Nat} {vs : List AVal} {u : AVal}, callX F1 ro f vs hp = some (u, hp, hp.length, hp.length) → callM (callX F1 ro) ⟨hp, 0, 0⟩ f vs = some (u, ⟨hp, 0, 0⟩) := fun e => callM_pure e (Nat.zero_le _) (Nat.zero_le _)
  have hal := fun hp : Heap => p0 (alive_pure (ro := ro) (h := hp))
  have hf := p0 (few15 a (w := .nsl) (z := []) (.inl ⟨rfl, rfl⟩))
  obtain ⟨u, hp1, e1, k1, i1⟩ := ring32 (t := t) (n := n) a
  have e1' := callM_eq (m := ⟨[], 0, 0⟩) e1
  simp only [List.length_nil, Nat.min_self] at e1'
  obtain ⟨w, hp2, e2, k2, i2⟩ := ring33 (t := t) (n := n) (a.by k1)
  have e2' := callM_eq (m := ⟨hp1, 0, 0⟩) e2
  simp only [Nat.zero_min] at e2'
  have e3 := p0 (same19 (row_by i1 k2) i2 (ringA_len t n l))
  simp only [decide_true] at e3
  unfold g6
  simp only [meansX_call, hf, bindP_some, asB_b, forceB_eq, ltI_eq, len_spans a, bindO_some, asI_i, bindO_and, bindO_or]
  generalize (!decide (l.length ≤ 40 ∧ ([] : List Int).length ≤ 40) || (decide (4 < n) && (decide ((10 : Int) < (l.length : Int)) && !decide ((20 : Int) < (l.length : Int))))) = g
  cases g
  · simp only [cond_false, e1', bindP_some, ext0, ext1, bindO_some, asI_i, e2', e3, asB_b, eqI_eq, beq_self_eq_true, hal]
    exact ⟨_, rfl, rfl⟩
  · simp only [cond_true, hal, bindP_some, asB_b]
    exact ⟨_, rfl, rfl⟩
end
end Go.Proofs.YtpjjmdbkgkembaaDoor.T
